/- Columns: the rows that the specification keeps: the widths, and the cells of all rows. -/
import Derived.Test.YtnmlfgnnhhaeoaaDoorClmS
import Derived.Test.YtnmlfgnnhhaeoaaDoorND
namespace Go.Proofs.YtnmlfgnnhhaeoaaDoor
namespace Clm
open Go.RowKit
set_option linter.unusedVariables false
set_option linter.unusedSimpArgs false
theorem own_atL {w w' : World} {B : Nat} {e : TypeId} {s : Nat} {v : Value} {n : Nat} {xs : List Value} (h : w.ownsRow B e s v n xs) (hs : ∀ k, v.ownBlock = some k → w'.heap[k]? = w.heap[k]?) : w'.ownsRow B e s v n xs := by
  refine ⟨h.1, ?_⟩
  rcases h.2 with h' | ⟨g, cap, cur, hv, hg, hh, r⟩
  · exact .inl h'
  · exact .inr ⟨g, cap, cur, hv, hg, (hs g (by rw [hv]; rfl)).trans hh, r⟩
/-- A row of texts at a value, in a block below the heap's end that is neither of two others. -/
def Tx (B : Nat) (w : World) (u : Value) (l : List ByteArray) (k1 k2 : Option Nat) : Prop :=
  ∃ b c, u = .slice (some ⟨b, 0, none⟩) l.length c ∧ (B ≤ b ∧ b < w.heap.size) ∧ k1 ≠ some b ∧ k2 ≠ some b ∧ ∀ i, i < l.length → w.cell? ⟨b, i, none⟩ = some (.string (nthS l i))
theorem Tx.kept {B : Nat} {w w' : World} {u : Value} {l : List ByteArray} {k1 k2 k1' k2' : Option Nat} (h : Tx B w u l k1 k2) (hs : w.heap.size ≤ w'.heap.size) (hb : ∀ b, b < w.heap.size → k1 ≠ some b → k2 ≠ some b → w'.heap[b]? = w.heap[b]?)
    (h1 : ∀ b, k1' = some b → k1 = some b ∨ w.heap.size ≤ b) (h2 : ∀ b, k2' = some b → k2 = some b ∨ w.heap.size ≤ b) : Tx B w' u l k1' k2' := by
  obtain ⟨b, c, e, ⟨hB, hl⟩, n1, n2, hc⟩ := h
  have hbb := hb b hl n1 n2
  refine ⟨b, c, e, ⟨hB, by omega⟩, fun c1 => ?_, fun c2 => ?_, fun i hi => ?_⟩
  · rcases h1 b c1 with h | h
    · exact n1 h
    · omega
  · rcases h2 b c2 with h | h
    · exact n2 h
    · omega
  · rw [World.cell?_of_block (a := ⟨b, i, none⟩) hbb]
    exact hc i hi
/-- The widths so far, the rows of cells so far. -/
structure Cx (B : Nat) (w : World) (vw : Value) (W : List Int) (vc : Value) (Cs : List Value) (P : List ByteArray) (i : Nat) : Prop where
  ow : w.ownsRow B 2 1 vw W.length (W.map (Value.int .i64))
  oc : w.ownsRow B 22 1 vc i Cs
  ap : ∀ k, vw.ownBlock = some k → vc.ownBlock ≠ some k
  tx : ∀ j, j < i → ∃ u, Cs[j]? = some u ∧ Tx B w u (cel (nthS P j) ++ [lst (nthS P j)]) vw.ownBlock vc.ownBlock
section T
variable {B : Nat} {w w2 : World} {vw vc v' : Value} {W : List Int} {Cs : List Value} {P : List ByteArray} {i : Nat}
theorem Cx.below (h : Cx B w vw W vc Cs P i) (hb : Below w.heap.size w w2) : Cx B w2 vw W vc Cs P i :=
  ⟨ownsRow_below h.ow hb, ownsRow_below h.oc hb, h.ap, fun j hj => by
    obtain ⟨u, h1, h2⟩ := h.tx j hj
    exact ⟨u, h1, h2.kept hb.size (fun b hl _ _ => hb.block b hl) (fun b e => .inl e) (fun b e => .inl e)⟩⟩
theorem Cx.alloc (h : Cx B w vw W vc Cs P i) (o : Obj) : Cx B (w.alloc o) vw W vc Cs P i := h.below ((Below.refl _ _).alloc (Nat.le_refl _) o)
/-- One width more. -/
theorem Cx.addW (h : Cx B w vw W vc Cs P i) (x : Int) (ho : w2.ownsRow B 2 1 v' (W.length + 1) (W.map (Value.int .i64) ++ [.int .i64 x])) (hg : w.grownBy w2 vw.ownBlock) (hk : ∀ k, v'.ownBlock = some k → vw.ownBlock = some k ∨ w.heap.size ≤ k) : Cx B w2 v' (W ++ [x]) vc Cs P i := by
  refine ⟨?_, own_atL h.oc (fun k e => hg.block k (h.oc.lt k e).2 (fun e2 => h.ap k e2.symm e)), fun k e e2 => ?_, fun j hj => ?_⟩
  · rw [List.length_append, List.map_append]; exact ho
  · rcases hk k e with e3 | e3
    · exact h.ap k e3 e2
    · have := (h.oc.lt k e2).2; omega
  · obtain ⟨u, h1, h2⟩ := h.tx j hj
    exact ⟨u, h1, h2.kept hg.size (fun b hl n1 _ => hg.block b hl (fun e => n1 e.symm)) hk (fun b e => .inl e)⟩
/-- One row of cells more. -/
theorem Cx.addC (h : Cx B w vw W vc Cs P i) (u : Value) (hu : Tx B w u (cel (nthS P i) ++ [lst (nthS P i)]) vw.ownBlock vc.ownBlock) (ho : w2.ownsRow B 22 1 v' (i + 1) (Cs ++ [u])) (hg : w.grownBy w2 vc.ownBlock) (hk : ∀ k, v'.ownBlock = some k → vc.ownBlock = some k ∨ w.heap.size ≤ k) : Cx B w2 vw W v' (Cs ++ [u]) P (i + 1) := by
  have hCs : Cs.length = i := by have := h.oc.1; omega
  refine ⟨own_atL h.ow (fun k e => hg.block k (h.ow.lt k e).2 (fun e2 => h.ap k e e2.symm)), ho, fun k e e2 => ?_, fun j hj => ?_⟩
  · rcases hk k e2 with e3 | e3
    · exact h.ap k e e3
    · have := (h.ow.lt k e).2; omega
  · by_cases e : j = i
    · subst e
      exact ⟨u, by rw [List.getElem?_append_right (by omega), hCs]; simp, hu.kept hg.size (fun b hl _ n2 => hg.block b hl (fun e => n2 e.symm)) (fun b e => .inl e) hk⟩
    · obtain ⟨u2, h1, h2⟩ := h.tx j (by omega)
      exact ⟨u2, by rw [List.getElem?_append_left (by omega)]; exact h1, h2.kept hg.size (fun b hl _ n2 => hg.block b hl (fun e => n2 e.symm)) (fun b e => .inl e) hk⟩
/-- A width put in the place of another one. -/
theorem Cx.setW {g c : Nat} (h : Cx B w (.slice (some ⟨g, 0, none⟩) W.length c) W vc Cs P i) (k : Nat) (x : Int) : Cx B (w.setCell ⟨g, k, none⟩ (.int .i64 x)) (.slice (some ⟨g, 0, none⟩) W.length c) (W.set k x) vc Cs P i := by
  have hg : ∀ b, b ≠ g → (w.setCell ⟨g, k, none⟩ (.int .i64 x)).heap[b]? = w.heap[b]? := fun b hb => Below.heap_setCell _ _ _ _ (fun e => hb e)
  refine ⟨?_, own_atL h.oc (fun b e => hg b (fun e2 => h.ap g rfl (by rw [← e2]; exact e))), h.ap, fun j hj => ?_⟩
  · have := (h.ow.stored k (.int .i64 x)).1
    rw [List.length_set, List.map_set]
    exact this
  · obtain ⟨u, h1, h2⟩ := h.tx j hj
    exact ⟨u, h1, h2.kept (by simp) (fun b hl n1 _ => hg b (fun e => n1 (by rw [e]; rfl))) (fun b e => .inl e) (fun b e => .inl e)⟩
end T
end Clm
end Go.Proofs.YtnmlfgnnhhaeoaaDoor
