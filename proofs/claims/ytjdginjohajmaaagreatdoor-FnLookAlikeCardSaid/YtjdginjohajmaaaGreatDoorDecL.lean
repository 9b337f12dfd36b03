/- The law of Decompose. -/
import Derived.Test.YtjdginjohajmaaaGreatDoorMC
namespace Go.Proofs.YtjdginjohajmaaaGreatDoor
open Go.RowKit
theorem isPointS' (p : Int) (w : World) : Calls Tryz.prog 55 #[.int .i64 p] w fun e w' => e = .returned (.bool (isP p)) ∧ w' = w := by
  by_cases h1 : 0 ≤ p
  · by_cases h2 : p ≤ 1114111
    · by_cases h3 : p < 55296
      · have HP : Hid (isP p = true) := hide (decide_eq_true (by omega))
        go_enter Tryz.func55, Tryz.ntmps55
        go_wp2
        go_ret
        exact ⟨ret_bool (unhide HP).symm, rfl⟩
      · by_cases h4 : 57343 < p
        · have HP : Hid (isP p = true) := hide (decide_eq_true (by omega))
          go_enter Tryz.func55, Tryz.ntmps55
          go_wp2
          go_ret
          exact ⟨ret_bool (unhide HP).symm, rfl⟩
        · have HP : Hid (isP p = false) := hide (decide_eq_false (by omega))
          go_enter Tryz.func55, Tryz.ntmps55
          go_wp2
          go_ret
          exact ⟨ret_bool (unhide HP).symm, rfl⟩
    · have HP : Hid (isP p = false) := hide (decide_eq_false (by omega))
      go_enter Tryz.func55, Tryz.ntmps55
      go_wp2
      go_ret
      exact ⟨ret_bool (unhide HP).symm, rfl⟩
  · have HP : Hid (isP p = false) := hide (decide_eq_false (by omega))
    go_enter Tryz.func55, Tryz.ntmps55
    go_wp2
    go_ret
    exact ⟨ret_bool (unhide HP).symm, rfl⟩
theorem isFormS (f : Int) (w : World) : Calls Tryz.prog 36 #[.int .i64 f] w fun e w' => e = .returned (.bool (isF f)) ∧ w' = w := by
  by_cases h1 : 1 ≤ f
  · by_cases h2 : f ≤ 4
    · have HP : Hid (isF f = true) := hide (decide_eq_true (by omega))
      go_enter Tryz.func36, Tryz.ntmps36
      go_wp2
      go_ret
      exact ⟨ret_bool (unhide HP).symm, rfl⟩
    · have HP : Hid (isF f = false) := hide (decide_eq_false (by omega))
      go_enter Tryz.func36, Tryz.ntmps36
      go_wp2
      go_ret
      exact ⟨ret_bool (unhide HP).symm, rfl⟩
  · have HP : Hid (isF f = false) := hide (decide_eq_false (by omega))
    go_enter Tryz.func36, Tryz.ntmps36
    go_wp2
    go_ret
    exact ⟨ret_bool (unhide HP).symm, rfl⟩
theorem isKS (f : Int) (w : World) (h : isF f = true) : Calls Tryz.prog 65 #[.int .i64 f] w fun e w' => e = .returned (.bool (isK f)) ∧ w' = w := by
  have hb := of_decide_eq_true h
  by_cases h1 : 3 ≤ f
  · have HP : Hid (isK f = true) := hide (decide_eq_true (by omega))
    go_enter Tryz.func65, Tryz.ntmps65
    go_wp2
    go_ret
    exact ⟨ret_bool (unhide HP).symm, rfl⟩
  · have HP : Hid (isK f = false) := hide (decide_eq_false (by omega))
    go_enter Tryz.func65, Tryz.ntmps65
    go_wp2
    go_ret
    exact ⟨ret_bool (unhide HP).symm, rfl⟩
theorem decL_len (p form : Int) : (decL p form).length ≤ 4 := by
  unfold decL
  split
  · exact (allF_len _ 2 p).2
  · simp
end Go.Proofs.YtjdginjohajmaaaGreatDoor
