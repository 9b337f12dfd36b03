/- Compose of the specification, and the law. -/
import Derived.Test.YtjdginjohajmaaaGreatDoorCmpC
namespace Go.Proofs.YtjdginjohajmaaaGreatDoor
open Go.RowKit
theorem letNoS (p : Int) (w : World) : Calls Tryz.prog 109 #[.int .i64 p] w fun e w' => e = .returned (.int .i64 (letNo p)) ∧ w' = w := by
  by_cases h1 : 65 ≤ p
  · by_cases h2 : p ≤ 90
    · have HE : Hid (letNo p = p - 65) := hide (if_pos ⟨h1, h2⟩)
      go_enter Tryz.func109, Tryz.ntmps109
      go_wp2
      go_ret
      exact ⟨ret_int (unhide HE).symm, rfl⟩
    · by_cases h3 : 97 ≤ p
      · by_cases h4 : p ≤ 122
        · have HE : Hid (letNo p = p - 97 + 26) := hide (by unfold letNo; rw [if_neg (by omega), if_pos ⟨h3, h4⟩])
          go_enter Tryz.func109, Tryz.ntmps109
          go_wp2
          go_ret
          exact ⟨ret_int (unhide HE).symm, rfl⟩
        · have HE : Hid (letNo p = -1) := hide (by unfold letNo; rw [if_neg (by omega), if_neg (by omega)])
          go_enter Tryz.func109, Tryz.ntmps109
          go_wp2
          go_ret
          exact ⟨ret_int (unhide HE).symm, rfl⟩
      · have HE : Hid (letNo p = -1) := hide (by unfold letNo; rw [if_neg (by omega), if_neg (by omega)])
        go_enter Tryz.func109, Tryz.ntmps109
        go_wp2
        go_ret
        exact ⟨ret_int (unhide HE).symm, rfl⟩
  · have h3 : ¬ 97 ≤ p := by omega
    have HE : Hid (letNo p = -1) := hide (by unfold letNo; rw [if_neg (by omega), if_neg (by omega)])
    go_enter Tryz.func109, Tryz.ntmps109
    go_wp2
    go_ret
    exact ⟨ret_int (unhide HE).symm, rfl⟩
/-- A test of '&&', as a Bool. -/
theorem and_f {p q : Prop} [Decidable p] [Decidable q] (h : ¬ (p ∧ q)) : (decide p && decide q) = false := by
  by_cases hp : p
  · have : ¬ q := fun hq => h ⟨hp, hq⟩
    simp [this]
  · simp [hp]
end Go.Proofs.YtjdginjohajmaaaGreatDoor
