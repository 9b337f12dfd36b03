/- PointsOf of the program, and the law. -/
import Derived.Test.YtigobciichnccaaDoorNPointsC
namespace Go.Proofs.YtigobciichnccaaDoor
open Go.RowKit
theorem owned_iterAt {w : World} {base K pos : Nat} {e : TypeId} {v : Value} {n : Nat} {xs : List Value} {s : ByteArray} (h : w.ownsRow base e 1 v n xs) (hk : w.heap[K]? = some (.stringIter s pos)) (pos' : Nat) : (w.iterAt K s pos').ownsRow base e 1 v n xs := by
  refine ⟨h.1, ?_⟩
  rcases h.2 with h' | ⟨g, cap, cur, hv, hg, hh, r⟩
  · exact .inl h'
  · have hne : g ≠ K := by intro e; rw [e, hk] at hh; cases hh
    exact .inr ⟨g, cap, cur, hv, hg, (Lib.iterAt_other w K g s pos' hne).trans hh, r⟩
/-- The iterator behind an append to a row of the call's own. -/
theorem iter_grown {w w2 : World} {base K pos : Nat} {e : TypeId} {v : Value} {n : Nat} {xs : List Value} {s : ByteArray} {o : Obj} (ho : w.ownsRow base e 1 v n xs) (hk : w.heap[K]? = some (.stringIter s pos)) (hg : (w.alloc o).grownBy w2 v.ownBlock) : w2.heap[K]? = some (.stringIter s pos) := by
  have hlt : K < w.heap.size := (Array.getElem?_eq_some_iff.1 hk).1
  have hne : some K ≠ v.ownBlock := by
    intro e
    rcases ho.2 with ⟨rfl, _⟩ | ⟨g, cap, cur, rfl, hg, hh, r⟩
    · cases e
    · simp only [Value.ownBlock, Option.some.injEq] at e
      rw [← e, hk] at hh; cases hh
  rw [hg.block K (by simp; omega) hne, Below.heap_alloc w o K hlt]
  exact hk
end Go.Proofs.YtigobciichnccaaDoor
