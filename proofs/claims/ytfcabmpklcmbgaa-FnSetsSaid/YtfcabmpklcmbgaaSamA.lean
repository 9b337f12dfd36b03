/- Slices of int64: are two alike? The slot of a block; an index in turn. -/
import Derived.Test.YtfcabmpklcmbgaaIntA
import Derived.Test.YtfcabmpklcmbgaaTriP
namespace Go.Proofs.Ytfcabmpklcmbgaa
open Go.RowKit
theorem drewN_add (w : World) (n m : Nat) : (w.drewN n).drewN m = w.drewN (n + m) := World.drewN_drewN w n m
theorem IntsAt.drewN {w : World} {v : Value} {l : List Int} (h : IntsAt w v l) (n : Nat) : IntsAt (w.drewN n) v l := h
theorem ext_nth {l1 l2 : List Int} (hl : l1.length = l2.length) (h : ∀ j, j < l1.length → nth l1 j = nth l2 j) : l1 = l2 := by
  apply List.ext_getElem hl
  intro i h1 h2
  have := h i h1
  simpa [nth, List.getD, h1, h2] using this
theorem ret_bool {a b : Bool} (h : a = b) : Ending.returned (.bool a) = .returned (.bool b) := by rw [h]
def sameB (l1 l2 : List Int) : Bool := decide (l1 = l2)
theorem sameB_iff (l1 l2 : List Int) : sameB l1 l2 = true ↔ l1 = l2 := by simp [sameB]
theorem sameB_not (l1 l2 : List Int) : sameB l1 l2 = false ↔ l1 ≠ l2 := by simp [sameB]
def turnB (l : List Int) (c : Int) : Bool := decide (turns 0 l = some c)
theorem turnB_iff (l : List Int) (c : Int) : turnB l c = true ↔ turns 0 l = some c := by simp [turnB]
theorem ne_nth {l1 l2 : List Int} {k : Nat} (h : nth l1 k ≠ nth l2 k) : l1 ≠ l2 := fun e => h (by rw [e])
/-- The index from the k-th item on. -/
def turnAt (l : List Int) (k : Nat) (n : Int) : Option Int := turns n (l.drop k)
theorem turnAt_step (l : List Int) (k : Nat) (n : Int) (h : k < l.length) : turnAt l k n = if nth l k < 0 ∨ n < nth l k then none else turnAt l (k + 1) (if nth l k = n then n + 1 else n) := by
  unfold turnAt
  rw [List.drop_eq_getElem_cons h]
  have e : nth l k = l[k] := by simp [nth, List.getD, h]
  rw [e]
  rfl
theorem turnAt_end (l : List Int) (k : Nat) (n : Int) (h : ¬ k < l.length) : turnAt l k n = some n := by
  unfold turnAt
  rw [List.drop_eq_nil_of_le (by omega)]
  rfl
theorem turnAt_zero (l : List Int) : turnAt l 0 0 = turns 0 l := rfl
end Go.Proofs.Ytfcabmpklcmbgaa
