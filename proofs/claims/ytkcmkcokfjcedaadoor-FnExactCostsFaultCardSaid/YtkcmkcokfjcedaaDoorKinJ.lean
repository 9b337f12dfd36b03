/- The numbers of costs, as the program and the specification ask them. -/
import Derived.Test.YtkcmkcokfjcedaaDoorKinI
namespace Go.Proofs.YtkcmkcokfjcedaaDoor.Kin
open Go.RowKit
set_option linter.unusedVariables false
theorem bnd_of {p d c k t : Int} (h : bnd p d c k t = true) : (0 ≤ p ∧ p ≤ 1000) ∧ (0 ≤ d ∧ d ≤ 1000) ∧ (0 ≤ c ∧ c ≤ 1000) ∧ (0 ≤ k ∧ k ≤ 1000) ∧ (0 ≤ t ∧ t ≤ 1000) ∧ p ≠ 0 ∧ d ≠ 0 ∧ k ≤ c ∧ c ≤ p + d := of_decide_eq_true h
theorem bnd_not {p d c k t : Int} (h : ¬ ((0 ≤ p ∧ p ≤ 1000) ∧ (0 ≤ d ∧ d ≤ 1000) ∧ (0 ≤ c ∧ c ≤ 1000) ∧ (0 ≤ k ∧ k ≤ 1000) ∧ (0 ≤ t ∧ t ≤ 1000) ∧ p ≠ 0 ∧ d ≠ 0 ∧ k ≤ c ∧ c ≤ p + d)) : bnd p d c k t = false := decide_eq_false h
set_option maxRecDepth 100000 in
set_option maxHeartbeats 1000000 in
theorem cost_any (n : Int) (w : World) (q : Bool) (h : decide (0 ≤ n ∧ n ≤ 1000) = q) : Calls Tryd.prog 10 #[.int .i64 n] w fun e w' => e = .returned (.bool q) ∧ w' = w := by
  by_cases h1 : 0 ≤ n
  · by_cases h2 : n ≤ 1000
    · obtain rfl : q = true := by rw [← h]; exact decide_eq_true ⟨h1, h2⟩
      clear h
      go_enter Tryd.func10, Tryd.ntmps10
      go_wp2
      go_ret
      exact ⟨rfl, rfl⟩
    · obtain rfl : q = false := by rw [← h]; exact decide_eq_false (fun e => h2 e.2)
      clear h
      go_enter Tryd.func10, Tryd.ntmps10
      go_wp2
      go_ret
      exact ⟨rfl, rfl⟩
  · obtain rfl : q = false := by rw [← h]; exact decide_eq_false (fun e => h1 e.1)
    clear h
    go_enter Tryd.func10, Tryd.ntmps10
    go_wp2
    go_ret
    exact ⟨rfl, rfl⟩
end Go.Proofs.YtkcmkcokfjcedaaDoor.Kin
