/- Rows of bytes of one's own. -/
import Derived.Test.YthjjojkabbepdaaDoorLabP
import Derived.Test.YthjjojkabbepdaaDoorNTextE
import Derived.Test.YthjjojkabbepdaaDoorAppG
import Derived.Lib.MinMax
namespace Go.Proofs.YthjjojkabbepdaaDoor.Lab
open Go.RowKit
set_option linter.unusedVariables false
theorem heap_new (w : World) (o : Obj) : (w.alloc o).heap[w.heap.size]? = some o := by unfold World.alloc; exact Array.getElem?_push_size
theorem al1 (w : World) (a : Obj) : Below w.heap.size w (w.alloc a) := (Below.refl _ _).alloc (Nat.le_refl _) _
theorem own_atS {w w' : World} {B : Nat} {e : TypeId} {s : Nat} {v : Value} {n : Nat} {xs : List Value} (h : w.ownsRow B e s v n xs) (hs : ∀ k, v.ownBlock = some k → w'.heap[k]? = w.heap[k]?) : w'.ownsRow B e s v n xs := by
  refine ⟨h.1, ?_⟩
  rcases h.2 with h' | ⟨g, cap, cur, hv, hg, hh, r⟩
  · exact .inl h'
  · exact .inr ⟨g, cap, cur, hv, hg, (hs g (by rw [hv]; rfl)).trans hh, r⟩
/-- A row of bytes of one's own, in a block from lo on. -/
def By (lo : Nat) (w : World) (v : Value) (M : List Int) : Prop := w.ownsRow lo 5 1 v M.length (M.map (Value.int .u8))
theorem By.below {lo : Nat} {w w' : World} {v : Value} {M : List Int} (h : By lo w v M) (hb : Below w.heap.size w w') : By lo w' v M := ownsRow_below h hb
theorem By.nil (lo : Nat) (w : World) : By lo w (.slice none 0 0) [] := World.ownsRow_nil w _ _ _
theorem By.form {lo : Nat} {w : World} {v : Value} {M : List Int} (h : By lo w v M) : ∃ a c, v = .slice a M.length c := by
  rcases h.2 with ⟨rfl, hn⟩ | ⟨g, cap, cur, rfl, hg, r⟩
  · exact ⟨none, 0, by rw [hn]⟩
  · exact ⟨_, _, rfl⟩
/-- What is below lo stays, and all blocks of cells that hold no bytes. -/
structure Kb (lo : Nat) (w w' : World) : Prop where
  bel : Below lo w w'
  typ : ∀ (k : Nat) (c : Array Value) (T : TypeId) (f : Nat × Nat), w.heap[k]? = some (.cells c T f) → T ≠ 5 → w'.heap[k]? = some (.cells c T f)
theorem Kb.refl (lo : Nat) (w : World) : Kb lo w w := ⟨Below.refl _ _, fun _ _ _ _ h _ => h⟩
theorem Kb.trans {lo : Nat} {w w1 w2 : World} (h : Kb lo w w1) (k : Kb lo w1 w2) : Kb lo w w2 := ⟨h.bel.trans k.bel, fun i c T f e n => k.typ i c T f (h.typ i c T f e n) n⟩
theorem Kb.of {lo : Nat} {w w' : World} (h : Below w.heap.size w w') (hl : lo ≤ w.heap.size) : Kb lo w w' := ⟨h.mono hl, fun k c T f e _ => (h.block k (Array.getElem?_eq_some_iff.1 e).1).trans e⟩
theorem Kb.row {lo : Nat} {w w' : World} {v : Value} {n : Nat} {xs : List Value} (hg : w.grownBy w' v.ownBlock) (hO : w.ownsRow lo 5 1 v n xs) (hl : lo ≤ w.heap.size) : Kb lo w w' := by
  refine ⟨(Below.refl lo w).grown hg hl (fun k e => (hO.lt k e).1), fun k c T f e hT => (hg.block k (Array.getElem?_eq_some_iff.1 e).1 (fun e2 => ?_)).trans e⟩
  rcases hO.2 with ⟨rfl, _⟩ | ⟨g, cap, cur, rfl, _, hh, _⟩
  · cases e2
  · cases e2
    rw [hh] at e
    cases e
    exact hT rfl
theorem Kb.app {lo : Nat} {w w1 w2 : World} {v : Value} {M : List Int} {o : Obj} (h : Kb lo w w1) (hl : lo ≤ w1.heap.size) (hO : By lo w1 v M) (hg : (w1.alloc o).grownBy w2 v.ownBlock) : Kb lo w w2 :=
  (h.trans (Kb.of (al1 w1 o) hl)).trans (Kb.row hg (By.below hO (al1 w1 o)) (by simp; omega))
theorem By.snoc {lo : Nat} {w : World} {v : Value} {M N : List Int} {n : Nat} (h : w.ownsRow lo 5 1 v (M.length + n) (M.map (Value.int .u8) ++ N.map (Value.int .u8))) (hn : N.length = n) : By lo w v (M ++ N) := by
  unfold By
  rw [List.length_append, List.map_append, hn]
  exact h
theorem By.alloc {lo : Nat} {w : World} {v : Value} {M : List Int} (h : By lo w v M) (o : Obj) : (w.alloc o).ownsRow lo 5 1 v M.length (M.map (Value.int .u8)) := By.below h (al1 w o)
theorem one_new (w : World) (x : Int) : ∀ (j : Nat) (u : Value), [Value.int .u8 x][j]? = some u → (w.alloc (.cells #[.int .u8 x] 5)).cell? ((⟨w.heap.size, 0, none⟩ : Addr).add j) = some u := by
  intro j u h
  have e : (⟨w.heap.size, 0, none⟩ : Addr).add j = ⟨w.heap.size, j, none⟩ := by unfold Addr.add; split <;> simp_all
  rw [e]
  have hn := heap_new w (.cells #[.int .u8 x] 5)
  simp only [World.cell?, hn]
  match j, h with
  | 0, h => simpa using h
theorem two_newB (w : World) (x y : Int) : ∀ (j : Nat) (u : Value), [Value.int .u8 x, .int .u8 y][j]? = some u → (w.alloc (.cells #[.int .u8 x, .int .u8 y] 5)).cell? ((⟨w.heap.size, 0, none⟩ : Addr).add j) = some u := by
  intro j u h
  have e : (⟨w.heap.size, 0, none⟩ : Addr).add j = ⟨w.heap.size, j, none⟩ := by unfold Addr.add; split <;> simp_all
  rw [e]
  have hn := heap_new w (.cells #[.int .u8 x, .int .u8 y] 5)
  simp only [World.cell?, hn]
  match j, h with
  | 0, h => simpa using h
  | 1, h => simpa using h
theorem one_oneB (x : Int) : ∀ u ∈ [Value.int .u8 x], u.oneCell' = true := by intro u hu; simp at hu; subst hu; rfl
theorem two_oneB (x y : Int) : ∀ u ∈ [Value.int .u8 x, .int .u8 y], u.oneCell' = true := by intro u hu; simp at hu; rcases hu with rfl | rfl <;> rfl
theorem infoB : (Tryd.prog.info? 5).map (fun i => (i.zero, i.size, i.bytes)) = some (some (.int .u8 0), 1, 1) := by kernel_rfl
end Go.Proofs.YthjjojkabbepdaaDoor.Lab
