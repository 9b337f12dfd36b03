/- The specification's l01Known answers as the plain numbers say. -/
import Derived.Test.YtbaedapnikhdgaaGreatDoorRowB
import Derived.BigQuiet
import Derived.Deep.QuietTactic
import Derived.Outline
import Derived.Great.Walk
namespace Go.Proofs.YtbaedapnikhdgaaGreatDoor
open Go.RowKit
def gA (l : List (Int × Int × Int × Int)) (i : Nat) : Int := (l.getD i Z4).1
def gB (l : List (Int × Int × Int × Int)) (i : Nat) : Int := (l.getD i Z4).2.1
def gC (l : List (Int × Int × Int × Int)) (i : Nat) : Int := (l.getD i Z4).2.2.1
def gD (l : List (Int × Int × Int × Int)) (i : Nat) : Int := (l.getD i Z4).2.2.2
/-- A slice of rows in a block of its own: four numbers a row. -/
def RowsAt (w : World) (b : Nat) (l : List (Int × Int × Int × Int)) : Prop := ∀ i : Nat, i < l.length →
  w.cell? ⟨b, i * 4, none⟩ = some (.int .i64 (gA l i)) ∧ w.cell? ⟨b, i * 4 + 1, none⟩ = some (.int .i64 (gB l i)) ∧
  w.cell? ⟨b, i * 4 + 2, none⟩ = some (.int .i64 (gC l i)) ∧ w.cell? ⟨b, i * 4 + 3, none⟩ = some (.int .i64 (gD l i))
def flat : List (Int × Int × Int × Int) → List Value
  | [] => []
  | (a, b, c, d) :: r => .int .i64 a :: .int .i64 b :: .int .i64 c :: .int .i64 d :: flat r
theorem flat_get : ∀ (l : List (Int × Int × Int × Int)) (i : Nat), i < l.length →
    (flat l)[i * 4]? = some (.int .i64 (gA l i)) ∧ (flat l)[i * 4 + 1]? = some (.int .i64 (gB l i)) ∧
    (flat l)[i * 4 + 2]? = some (.int .i64 (gC l i)) ∧ (flat l)[i * 4 + 3]? = some (.int .i64 (gD l i))
  | (a, b, c, d) :: r, 0, _ => by simp [flat, gA, gB, gC, gD]
  | (a, b, c, d) :: r, i + 1, h => by
    have := flat_get r i (by simpa using h)
    have e0 : (i + 1) * 4 = i * 4 + 4 := by omega
    rw [e0]
    simpa [flat, gA, gB, gC, gD] using this
theorem rowsAt_alloc (w : World) (l : List (Int × Int × Int × Int)) (t : TypeId) : RowsAt (w.alloc (.cells (flat l).toArray t)) w.heap.size l := by
  intro i hi
  have := flat_get l i hi
  simpa using this
set_option maxHeartbeats 400000 in
theorem cased_any (w : World) : Calls Tryz.prog 95 #[] w fun e w' => e = .returned (.slice (some ⟨w.heap.size, 0, none⟩) 7 7) ∧ Below w.heap.size w w' ∧ w.heap.size < w'.heap.size ∧ RowsAt w' w.heap.size csd ∧ ∃ c, w'.heap[w.heap.size]? = some (.cells c 119 (0, 0)) := by
  go_enter Tryz.func95, Tryz.ntmps95
  go_wp2
  go_ret
  exact ⟨rfl, (Below.refl _ _).alloc (Nat.le_refl _) _, by simp, rowsAt_alloc w csd _, _, heap_alloc_new _ _⟩
set_option maxHeartbeats 1000000 in
theorem rows_any (w : World) : Calls Tryz.prog 96 #[] w fun e w' => e = .returned (.slice (some ⟨w.heap.size, 0, none⟩) 32 32) ∧ Below w.heap.size w w' ∧ w.heap.size < w'.heap.size ∧ RowsAt w' w.heap.size spc ∧ ∃ c, w'.heap[w.heap.size]? = some (.cells c 119 (0, 0)) := by
  go_enter Tryz.func96, Tryz.ntmps96
  go_wp2_with (refine Great.wpList_buildSliceTo rfl 116 119 32 _ rfl _ rfl _ rfl Tryz.underlying116 (flat spc).toArray (by kernel_rfl) ?_)
  go_ret
  exact ⟨rfl, (Below.refl _ _).alloc (Nat.le_refl _) _, by simp, rowsAt_alloc w spc _, _, heap_alloc_new _ _⟩
end Go.Proofs.YtbaedapnikhdgaaGreatDoor
