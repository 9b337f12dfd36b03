/- Classes of marks; points held against each other by class. -/
import Derived.Test.YtnfdkcphmolkiaaSegP
namespace Go.Proofs.Ytnfdkcphmolkiaa
open Go.RowKit
/-- The class of a point. -/
def clsZ (p : Int) : Int := if p = 1584 then 9 else if p = 1585 then 7 else if p < 4096 then 0 else if p < 4112 then 230 else if p < 4128 then 220 else if p < 4136 then 202 else if p < 4144 then 1 else if p < 4152 then 232 else 0
def clsLt (x y : Int) : Bool := decide (clsZ x < clsZ y)
theorem cls_weak : Weak clsLt := by
  refine ⟨fun x => ?_, fun x y h => ?_, fun x y z h g => ?_, fun x y z h g => ?_⟩
  · exact decide_eq_false (by omega)
  · have := of_decide_eq_true h
    exact decide_eq_false (by omega)
  · have := of_decide_eq_true h
    have := of_decide_eq_true g
    exact decide_eq_true (by omega)
  · have := of_decide_eq_false h
    have := of_decide_eq_false g
    exact decide_eq_false (by omega)
set_option maxHeartbeats 1000000 in
theorem markI (p : Int) (w : World) : Calls Try.prog 114 #[.int .i64 p] w fun e w' => e = .returned (.int .i64 (clsZ p)) ∧ w' = w := by
  by_cases h1 : p = 1584
  · subst h1
    go_enter Try.func114, Try.ntmps114
    go_wp2
    go_ret
    exact ⟨rfl, rfl⟩
  by_cases h2 : p = 1585
  · subst h2
    go_enter Try.func114, Try.ntmps114
    go_wp2
    go_ret
    exact ⟨rfl, rfl⟩
  have t1 : (p == 1584) = false := by simpa using h1
  have t2 : (p == 1585) = false := by simpa using h2
  obtain ⟨z, hz⟩ : ∃ z, clsZ p = z := ⟨_, rfl⟩
  have hz' := hz
  unfold clsZ at hz'
  rw [if_neg h1, if_neg h2] at hz'
  rw [hz]
  clear hz
  by_cases h3 : p < 4096
  · rw [if_pos h3] at hz'
    have HE := hide hz'
    clear hz'
    go_enter Try.func114, Try.ntmps114
    go_wp2
    go_ret
    exact ⟨ret_int (unhide HE), rfl⟩
  rw [if_neg h3] at hz'
  by_cases h4 : p < 4112
  · rw [if_pos h4] at hz'
    have HE := hide hz'
    clear hz'
    go_enter Try.func114, Try.ntmps114
    go_wp2
    go_ret
    exact ⟨ret_int (unhide HE), rfl⟩
  rw [if_neg h4] at hz'
  by_cases h5 : p < 4128
  · rw [if_pos h5] at hz'
    have HE := hide hz'
    clear hz'
    go_enter Try.func114, Try.ntmps114
    go_wp2
    go_ret
    exact ⟨ret_int (unhide HE), rfl⟩
  rw [if_neg h5] at hz'
  by_cases h6 : p < 4136
  · rw [if_pos h6] at hz'
    have HE := hide hz'
    clear hz'
    go_enter Try.func114, Try.ntmps114
    go_wp2
    go_ret
    exact ⟨ret_int (unhide HE), rfl⟩
  rw [if_neg h6] at hz'
  by_cases h7 : p < 4144
  · rw [if_pos h7] at hz'
    have HE := hide hz'
    clear hz'
    go_enter Try.func114, Try.ntmps114
    go_wp2
    go_ret
    exact ⟨ret_int (unhide HE), rfl⟩
  rw [if_neg h7] at hz'
  by_cases h8 : p < 4152
  · rw [if_pos h8] at hz'
    have HE := hide hz'
    clear hz'
    go_enter Try.func114, Try.ntmps114
    go_wp2
    go_ret
    exact ⟨ret_int (unhide HE), rfl⟩
  rw [if_neg h8] at hz'
  have HE := hide hz'
  clear hz'
  go_enter Try.func114, Try.ntmps114
  go_wp2
  go_ret
  exact ⟨ret_int (unhide HE), rfl⟩
theorem nanI (x : Int) (w : World) : Calls Try.prog 120 #[.int .i64 x] w fun e w' => e = .returned (.bool false) ∧ w' = w := by
  have h : (x != x) = false := by simp
  go_enter Try.func120, Try.ntmps120
  go_wp2
  go_ret
  exact ⟨rfl, rfl⟩
def cmpZ (x y : Int) : Int := if x < y then -1 else if y < x then 1 else 0
theorem compareI (x y : Int) (w : World) : Calls Try.prog 113 #[.int .i64 x, .int .i64 y] w fun e w' => e = .returned (.int .i64 (cmpZ x y)) ∧ w' = w := by
  by_cases h1 : x < y
  · have HE : Hid (cmpZ x y = -1) := hide (if_pos h1)
    go_enter Try.func113, Try.ntmps113
    go_wp2_with (go_at_call 120; refine (nanI _ _).mono ?_; rintro e w' ⟨rfl, rfl⟩)
    go_ret
    exact ⟨ret_int (unhide HE).symm, rfl⟩
  by_cases h2 : y < x
  · have HE : Hid (cmpZ x y = 1) := hide (by unfold cmpZ; rw [if_neg h1, if_pos h2])
    go_enter Try.func113, Try.ntmps113
    go_wp2_with (go_at_call 120; refine (nanI _ _).mono ?_; rintro e w' ⟨rfl, rfl⟩)
    go_ret
    exact ⟨ret_int (unhide HE).symm, rfl⟩
  have HE : Hid (cmpZ x y = 0) := hide (by unfold cmpZ; rw [if_neg h1, if_neg h2])
  go_enter Try.func113, Try.ntmps113
  go_wp2_with (go_at_call 120; refine (nanI _ _).mono ?_; rintro e w' ⟨rfl, rfl⟩)
  go_ret
  exact ⟨ret_int (unhide HE).symm, rfl⟩
/-- The points held against each other. -/
theorem byClassI (x y : Int) (w : World) : Calls Try.prog 112 #[.int .i64 x, .int .i64 y] w fun e w' => e = .returned (.int .i64 (cmpZ (clsZ x) (clsZ y))) ∧ w' = w := by
  go_enter Try.func112, Try.ntmps112
  go_wp2_with fail
  refine (markI x _).mono ?_
  rintro e w' ⟨rfl, rfl⟩
  go_wp2_with fail
  refine (markI y _).mono ?_
  rintro e w' ⟨rfl, rfl⟩
  go_wp2_with fail
  refine (compareI _ _ _).mono ?_
  rintro e w' ⟨rfl, rfl⟩
  go_wp2
  go_ret
  exact ⟨rfl, rfl⟩
theorem cmpZ_lt (x y : Int) : decide (cmpZ (clsZ x) (clsZ y) < 0) = clsLt x y := by
  unfold cmpZ clsLt
  by_cases h1 : clsZ x < clsZ y
  · rw [if_pos h1, decide_eq_true h1]; rfl
  · rw [if_neg h1, decide_eq_false h1]
    split <;> rfl
end Go.Proofs.Ytnfdkcphmolkiaa
