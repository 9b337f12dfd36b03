/- The places of the points that start a piece, as the program tells them. -/
import Derived.Test.YtbaedapnikhdgaaGreatDoorChrB
namespace Go.Proofs.YtbaedapnikhdgaaGreatDoor
namespace Chr
open Go.RowKit
theorem steps_grow (s : ByteArray) (n m : Nat) : (steps s n).1.length ≤ (steps s (n + m)).1.length := by
  induction m with
  | zero => exact Nat.le_refl _
  | succ m ih =>
    refine Nat.le_trans ih ?_
    show _ ≤ (if (steps s (n + m)).2 < s.size then _ else steps s (n + m)).1.length
    split
    · simp
    · exact Nat.le_refl _
theorem lt_pts {s : ByteArray} {n pos : Nat} {L : List Int} (h : steps s n = (L, pos)) (hp : pos < s.size) : L.length < (pts s).length := by
  have h1 := pts_step h hp
  have h2 := steps_grow s (n + 1) s.size
  have h3 : s.size ≤ (steps s (n + 1 + s.size)).2 := by
    rcases steps_go s (n + 1 + s.size) with h | h <;> omega
  rw [steps_pts s _ h3, h1] at h2
  simp at h2
  omega
/-- The places among the first k points with which a piece starts. -/
def ctk (s : ByteArray) (B : List Bool) : Nat → List Int
  | 0 => []
  | k + 1 => ctk s B k ++ (if B.getD k false then [((steps s k).2 : Int)] else [])
theorem ctk_len (s : ByteArray) (B : List Bool) (k : Nat) : (ctk s B k).length ≤ k := by
  induction k with
  | zero => exact Nat.le_refl _
  | succ k ih =>
    unfold ctk
    split <;> simp <;> omega
def cutsL (s : ByteArray) (B : List Bool) : List Int := if B.length = 0 then [] else ctk s B B.length ++ [(s.size : Int)]
def BoolsAt (w : World) (g : Nat) (B : List Bool) : Prop := g < w.heap.size ∧ ∀ i, i < B.length → w.cell? ⟨g, i, none⟩ = some (.bool (B.getD i false))
theorem BoolsAt.below {w w' : World} {g : Nat} {B : List Bool} (h : BoolsAt w g B) (hb : Below w.heap.size w w') : BoolsAt w' g B :=
  ⟨Nat.lt_of_lt_of_le h.1 hb.size, fun i hi => by rw [hb.cell (p := ⟨g, i, none⟩) h.1]; exact h.2 i hi⟩
theorem bools_of {w : World} {g : Nat} {B : List Bool} (h : w.heap[g]? = some (.cells (B.map Value.bool).toArray 4 (0, 0))) : BoolsAt w g B := by
  refine ⟨(Array.getElem?_eq_some_iff.1 h).1, fun i hi => ?_⟩
  simp [World.cell?, h, List.getD_eq_getElem?_getD, hi]
end Chr
end Go.Proofs.YtbaedapnikhdgaaGreatDoor
