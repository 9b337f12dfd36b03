/- Two rows that grow within one drawn region: what holds in whatever order. -/
import Derived.Test.YtgmpkapeemiecaaHypD
import Derived.Test.YtgmpkapeemiecaaRgnH
import Derived.Deep.RegionHeld3
import Derived.OwnWalkIn
namespace Go.Proofs.Ytgmpkapeemiecaa
namespace Hyp
open Go.RowKit
set_option linter.unusedVariables false
structure Sg (B : Nat) (W : World) (vL vD : Value) (nL nD : Nat) (XL XD : List Value) (kL kD : Option Nat) (c d : Value) : Prop where
  dw : Dw B W 5 5 vL vD nL nD XL XD
  cL : ∀ h, kL = some h → W.cell? ⟨h, 0, none⟩ = some c ∧ h < W.heap.size ∧ vL.ownBlock ≠ some h ∧ vD.ownBlock ≠ some h
  cD : ∀ h, kD = some h → W.cell? ⟨h, 0, none⟩ = some d ∧ h < W.heap.size ∧ vL.ownBlock ≠ some h ∧ vD.ownBlock ≠ some h
/-- What a region leaves alone: all below B but one block. -/
structure Fr (B p : Nat) (a w : World) : Prop where
  os : w.os = a.os
  tape : w.tape = a.tape
  output : w.output = a.output
  size : a.heap.size ≤ w.heap.size
  block : ∀ k, k < B → k ≠ p → w.heap[k]? = a.heap[k]?
theorem Fr.refl (B p : Nat) (a : World) : Fr B p a a := ⟨rfl, rfl, rfl, Nat.le_refl _, fun _ _ _ => rfl⟩
theorem Fr.trans {B p : Nat} {a b c : World} (h : Fr B p a b) (g : Fr B p b c) : Fr B p a c :=
  ⟨g.os.trans h.os, g.tape.trans h.tape, g.output.trans h.output, Nat.le_trans h.size g.size, fun k a b => (g.block k a b).trans (h.block k a b)⟩
theorem Fr.of {B p : Nat} {a b : World} (h : Below B a b) : Fr B p a b := ⟨h.os, h.tape, h.output, h.size, fun k a _ => h.block k a⟩
theorem Fr.grown {B p : Nat} {a b c : World} {row : Option Nat} (h : Fr B p a b) (hB : B ≤ b.heap.size) (hg : b.grownBy c row) (hr : ∀ k, row = some k → B ≤ k ∨ k = p) : Fr B p a c :=
  h.trans ⟨hg.os, hg.tape, hg.output, hg.size, fun k a b => hg.block k (by omega) (fun e => by rcases hr k e.symm with h | h <;> omega)⟩
theorem Fr.alloc {B p : Nat} {a b : World} (h : Fr B p a b) (hB : B ≤ b.heap.size) (o : Obj) : Fr B p a (b.alloc o) := h.grown hB (World.grownBy_alloc b o none) (fun k e => by cases e)
theorem Fr.below {B p B' : Nat} {a b : World} (h : Fr B p a b) (hp : B' ≤ p) (hB : B' ≤ B) : Below B' a b := ⟨h.os, h.tape, h.output, h.size, fun k hk => h.block k (by omega) (by omega)⟩
section
variable {B : Nat} {W w2 : World} {vL vD v' : Value} {nL nD : Nat} {XL XD : List Value} {kL kD : Option Nat} {c d : Value}
theorem Sg.drew (h : Sg B W vL vD nL nD XL XD kL kD c d) (n : Nat) : Sg B (W.drewN n) vL vD nL nD XL XD kL kD c d := ⟨⟨h.dw.o1, h.dw.o2, h.dw.d12⟩, h.cL, h.cD⟩
theorem Sg.buildL (h : Sg B W vL vD nL nD XL XD kL kD c d) : Sg B (W.alloc (.cells #[c] 5)) vL vD nL nD XL XD (some W.heap.size) kD c d := by
  refine ⟨h.dw.alloc _, fun k e => ?_, fun k e => ?_⟩
  · obtain rfl := Option.some.inj e
    refine ⟨by simp, by simp, fun e2 => ?_, fun e2 => ?_⟩
    · have := (h.dw.o1.lt _ e2).2; omega
    · have := (h.dw.o2.lt _ e2).2; omega
  · obtain ⟨a1, a2, a3, a4⟩ := h.cD k e
    exact ⟨(((Below.refl _ _).alloc (Nat.le_refl _) _ : Below W.heap.size W (W.alloc (.cells #[c] 5))).cell (p := ⟨k, 0, none⟩) a2).trans a1, by simp; omega, a3, a4⟩
theorem Sg.buildD (h : Sg B W vL vD nL nD XL XD kL kD c d) : Sg B (W.alloc (.cells #[d] 5)) vL vD nL nD XL XD kL (some W.heap.size) c d := by
  refine ⟨h.dw.alloc _, fun k e => ?_, fun k e => ?_⟩
  · obtain ⟨a1, a2, a3, a4⟩ := h.cL k e
    exact ⟨(((Below.refl _ _).alloc (Nat.le_refl _) _ : Below W.heap.size W (W.alloc (.cells #[d] 5))).cell (p := ⟨k, 0, none⟩) a2).trans a1, by simp; omega, a3, a4⟩
  · obtain rfl := Option.some.inj e
    refine ⟨by simp, by simp, fun e2 => ?_, fun e2 => ?_⟩
    · have := (h.dw.o1.lt _ e2).2; omega
    · have := (h.dw.o2.lt _ e2).2; omega
theorem cell_same {a b : World} {k : Nat} (h : b.heap[k]? = a.heap[k]?) (j : Nat) : b.cell? ⟨k, j, none⟩ = a.cell? ⟨k, j, none⟩ := by
  simp [World.cell?, h]
theorem Sg.appL (h : Sg B W vL vD nL nD XL XD kL kD c d) (ho : w2.ownsRow B 5 1 v' (nL + 1) (XL ++ [c])) (hg : W.grownBy w2 vL.ownBlock) (hk : ∀ k, v'.ownBlock = some k → vL.ownBlock = some k ∨ W.heap.size ≤ k) : Sg B w2 v' vD (nL + 1) nD (XL ++ [c]) XD none kD c d := by
  refine ⟨h.dw.app1 c ho hg hk, (fun k e => by cases e), fun k e => ?_⟩
  obtain ⟨a1, a2, a3, a4⟩ := h.cD k e
  exact ⟨(cell_same (hg.block k a2 (fun e => a3 e.symm)) 0).trans a1, by have := hg.size; omega, fun e => by rcases hk k e with e | e <;> first | exact a3 e | omega, a4⟩
theorem Sg.appD (h : Sg B W vL vD nL nD XL XD kL kD c d) (ho : w2.ownsRow B 5 1 v' (nD + 1) (XD ++ [d])) (hg : W.grownBy w2 vD.ownBlock) (hk : ∀ k, v'.ownBlock = some k → vD.ownBlock = some k ∨ W.heap.size ≤ k) : Sg B w2 vL v' nL (nD + 1) XL (XD ++ [d]) kL none c d := by
  refine ⟨h.dw.app2 d ho hg hk, fun k e => ?_, (fun k e => by cases e)⟩
  obtain ⟨a1, a2, a3, a4⟩ := h.cL k e
  exact ⟨(cell_same (hg.block k a2 (fun e => a4 e.symm)) 0).trans a1, by have := hg.size; omega, a3, fun e => by rcases hk k e with e | e <;> first | exact a4 e | omega⟩
theorem Sg.setB (h : Sg B W vL vD nL nD XL XD none none c d) {p : Nat} (hp : p < B) (i : Nat) (u : Value) : Sg B (W.setCell ⟨p, i, none⟩ u) vL vD nL nD XL XD none none c d :=
  ⟨⟨ownsRow_setCell_below h.dw.o1 (a := ⟨p, i, none⟩) hp u, ownsRow_setCell_below h.dw.o2 (a := ⟨p, i, none⟩) hp u, h.dw.d12⟩, (fun k e => by cases e), (fun k e => by cases e)⟩
end
/-- An append, within a region by an invariant. -/
theorem step_appI {F : Fence} {n : Nat} {P : Program} (w : World) {o : Oper} {a : Act} {K : Act → World → Prop} {Q : Exit → Act → World → Prop} {ys : Bool} {E : Prop} (hy : ys = true)
    (s x : Operand) (t : TypeId) (hop : o.op = Op.call { callee := Callee.builtin Builtin.append, args := #[s, x], argTypes := #[t, t] })
    (base : Nat) (e : TypeId) (i : TypeInfo) (z : Value) (size bytes : Nat) (h1 : P.underlying t = some (.slice e)) (h2 : P.info? e = some i) (h3 : i.zero = some z) (h4 : i.size = size) (h5 : i.bytes = bytes) (h6 : z.cells.size = size) (h7 : 0 < size)
    (v : Value) (k : Nat) (xs : List Value) (hs : a.eval s = v) (hown : w.ownsRow base e size v k xs) (ad : Addr) (m c : Nat) (news : List Value) (hx : a.eval x = .slice (some ad) m c) (hn : news.length = m * size)
    (hc : ∀ j u, news[j]? = some u → w.cell? (ad.add j) = some u) (h1c : ∀ u ∈ news, u.oneCell' = true) (b1 : k + m ≤ maxLen) (b2 : (k + m) * bytes ≤ 140737488355328) (b3 : base ≤ w.heap.size)
    (hK : ∀ v' w', w'.ownsRow base e size v' (k + m) (xs ++ news) → w.grownBy w' v.ownBlock → (∀ j, v'.ownBlock = some j → v.ownBlock = some j ∨ w.heap.size ≤ j) → K (a.put o.dst v') w') :
    if ys = true then Oper.wpIn F n P o a w K Q else E := by
  rw [if_pos hy]
  obtain ⟨v', w', hrun, r1, r2, r3⟩ := app_blockG (P := P) w t o.type e i z size bytes h1 h2 h3 h4 h5 h6 h7 base v k xs hown ad m c news hn hc h1c b1 b2 b3
  unfold Oper.wpIn
  refine ⟨?_, ?_⟩
  · simp [Oper.about, hop, resolve, Target.leads, Sem.run_pure]
  · rw [Oper.semAt_plain F _ _ (by rw [hop]; intro c hc'; cases hc')]
    simp [execOp, hop, resolve, invoke, builtin, hs, hx, hrun, Result.andThen]
    exact hK v' w' r1 r2 r3
end Hyp
end Go.Proofs.Ytgmpkapeemiecaa
