/- A number below 4 out of a code, as the laws ask it. -/
import Derived.Test.YtbkeaoplncaihaaDoorDSource
namespace Go.Proofs.YtbkeaoplncaihaaDoor
open Go.RowKit
set_option linter.unusedVariables false
set_option maxHeartbeats 2000000 in
theorem lwAt4 (a : Option Addr) (len cap i : Nat) (w : World) (hc : Dr.CodeIn w a len) (hl : len ≤ 1048576) (hi : i ≤ 1000000) :
    Calls Tryd.prog 14 #[.slice a len cap, .int .i64 (i : Int), .int .i64 4] w fun e w' => ∃ z : Nat, e = .returned (.int .i64 (z : Int)) ∧ z < 4 ∧ w' = w := by
  rcases hc with h0 | ⟨cb, off, rfl, hcb, hc⟩
  · subst h0
    go_enter Tryd.func14, Tryd.ntmps14
    go_wp2
    go_ret
    exact ⟨0, rfl, by omega, rfl⟩
  · by_cases h0 : len = 0
    · subst h0
      go_enter Tryd.func14, Tryd.ntmps14
      go_wp2
      go_ret
      exact ⟨0, rfl, by omega, rfl⟩
    · have hz : ((len : Int) == 0) = false := by rw [beq_eq_false_iff_ne]; omega
      obtain ⟨z, hcell, hz0, hz1⟩ := hc (i % len) (Nat.mod_lt _ (by omega))
      have hm : (i : Int).tmod (len : Int) = ((i % len : Nat) : Int) := by rw [Int.tmod_eq_emod_of_nonneg (by omega)]; omega
      have hml := Nat.mod_lt i (show 0 < len by omega)
      generalize i % len = m at *
      have hm1 : (m : Int) < (len : Int) := by omega
      have hzm : z.tmod 4 = ((z.toNat % 4 : Nat) : Int) := by rw [Int.tmod_eq_emod_of_nonneg hz0]; omega
      have hz4 : z.toNat % 4 < 4 := Nat.mod_lt _ (by omega)
      generalize z.toNat % 4 = y at *
      have hne : ¬ (len : Int) = 0 := by omega
      go_enter Tryd.func14, Tryd.ntmps14
      go_wp2
      go_ret
      exact ⟨y, rfl, hz4, rfl⟩
end Go.Proofs.YtbkeaoplncaihaaDoor
