/- Script of the program and of the specification. -/
import Derived.Test.YtbaedapnikhdgaaGreatDoorCallsK
import Derived.Test.YtbaedapnikhdgaaGreatDoorChrP
namespace Go.Proofs.YtbaedapnikhdgaaGreatDoor
open Go.RowKit
set_option maxRecDepth 100000 in
theorem implScr (p : Int) (w : World) (ht : TabAt w) : Calls Tryz.prog 76 #[.int .i64 p] w fun e w' => e = .returned (.int .i64 (scrI p)) ∧ Below w.heap.size w w' := by
  have hbd := row_bd (twin p)
  obtain ⟨t1, t2, _⟩ := twin_bd p
  have hS : rowS (twin p) = (rowOf (twin p)).2.2.2 := rfl
  have s0 : 0 ≤ rowS (twin p) := by omega
  have s1 : rowS (twin p) ≤ 255 := by omega
  have hw := wrap_small (rowS (twin p)) s0 (by omega)
  clear hbd
  have H := hide ht
  have HS := hide hS
  clear ht hS
  have f3 := field3
  by_cases hz : rowS (twin p) = 0
  · have e0 : (rowS (twin p) == 0) = true := by simpa using hz
    have HZ := hide hz
    clear hz
    go_enter Tryz.func76, Tryz.ntmps76
    go_wp2_with (first | (go_at_call 78; refine (twin_any p _).mono ?_; rintro e w' ⟨rfl, rfl⟩) | (go_at_call 77; refine (row_any (twin p) _ (unhide H)).mono ?_; rintro e w' ⟨rfl, hb⟩))
    go_ret
    exact ⟨ret_int (by unfold scrI; rw [← unhide HS, if_pos (unhide HZ)]), hb⟩
  · have e0 : (rowS (twin p) == 0) = false := by simpa using hz
    have HZ := hide hz
    clear hz
    go_enter Tryz.func76, Tryz.ntmps76
    go_wp2_with (first | (go_at_call 78; refine (twin_any p _).mono ?_; rintro e w' ⟨rfl, rfl⟩) | (go_at_call 77; refine (row_any (twin p) _ (unhide H)).mono ?_; rintro e w' ⟨rfl, hb⟩))
    go_ret
    exact ⟨ret_int (by unfold scrI; rw [← unhide HS, if_neg (unhide HZ)]), hb⟩
/-- The script of a number. -/
def scr (p : Int) : Int := (known p).2
theorem scr_i (p : Int) : scrI p = scr p := (fine p).2.1
theorem scrI_any (p : Int) (w : World) (ht : TabAt w) : Calls Tryz.prog 76 #[.int .i64 p] w fun e w' => e = .returned (.int .i64 (scr p)) ∧ Below w.heap.size w w' := by
  have := implScr p w ht
  rw [scr_i] at this
  exact this
theorem find_row (l : List (Int × Int × Int × Int)) (q : Int) : find l q = Z4 ∨ ∃ r ∈ l, r.1 ≤ q ∧ q ≤ r.2.1 ∧ find l q = r := by
  unfold find
  cases h : l.find? (inRow q) with
  | none => exact .inl rfl
  | some r =>
    refine .inr ⟨r, List.mem_of_find?_eq_some h, ?_⟩
    have := List.find?_some h
    simp only [inRow, Bool.and_eq_true, decide_eq_true_eq] at this
    exact ⟨this.1, this.2, rfl⟩
theorem spc_parts : (spc.all fun r => decide (r.2.2.2 = 8 → r.1 = 2048 ∧ r.2.1 = 2095)) = true := by decide +kernel
/-- The points of script 8. -/
theorem part_in {p : Int} (h : scr p = 8) : 2048 ≤ p ∧ p ≤ 2095 := by
  unfold scr known at h
  split at h
  · split at h
    · simp at h
    · simp only at h; omega
  · split at h
    · split at h
      · simp at h
      · split at h <;> simp at h
    · rcases find_row spc p with e | ⟨r, hr, h1, h2, e⟩
      · rw [e] at h; simp [Z4] at h
      · rw [e] at h
        have := List.all_eq_true.1 spc_parts r hr
        have := of_decide_eq_true this h
        omega
end Go.Proofs.YtbaedapnikhdgaaGreatDoor
