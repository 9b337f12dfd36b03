/- The parts of a point, as the program tells them. -/
import Derived.Test.YtnfdkcphmolkiaaPrtP
import Derived.Test.YtnfdkcphmolkiaaMrkI
import Derived.Handy
namespace Go.Proofs.Ytnfdkcphmolkiaa
open Go.RowKit
theorem within_t (p a b : Int) (w : World) (h : a ≤ p ∧ p ≤ b) : Calls Try.prog 102 #[.int .i64 p, .int .i64 a, .int .i64 b] w fun e w' => e = .returned (.bool true) ∧ w' = w := by
  obtain ⟨h1, h2⟩ := h
  go_enter Try.func102, Try.ntmps102
  go_wp2
  go_ret
  exact ⟨rfl, rfl⟩
theorem within_f (p a b : Int) (w : World) (h : ¬ (a ≤ p ∧ p ≤ b)) : Calls Try.prog 102 #[.int .i64 p, .int .i64 a, .int .i64 b] w fun e w' => e = .returned (.bool false) ∧ w' = w := by
  by_cases h1 : a ≤ p
  · have h2 : ¬ p ≤ b := fun h2 => h ⟨h1, h2⟩
    clear h
    go_enter Try.func102, Try.ntmps102
    go_wp2
    go_ret
    exact ⟨rfl, rfl⟩
  · clear h
    go_enter Try.func102, Try.ntmps102
    go_wp2
    go_ret
    exact ⟨rfl, rfl⟩
theorem letterI (i : Int) (w : World) (h : 0 ≤ i ∧ i ≤ 51) : Calls Try.prog 106 #[.int .i64 i] w fun e w' => e = .returned (.int .i64 (letterZ i)) ∧ w' = w := by
  by_cases hi : i < 26
  · have e : letterZ i = 65 + i := if_pos hi
    rw [e]
    go_enter Try.func106, Try.ntmps106
    go_wp2
    go_ret
    exact ⟨rfl, rfl⟩
  · have e : letterZ i = 97 + i - 26 := if_neg hi
    rw [e]
    go_enter Try.func106, Try.ntmps106
    go_wp2
    go_ret
    exact ⟨rfl, rfl⟩
/-- A pair as a value. -/
def pairV (x : Int × Int) : Value := .agg #[.int .i64 x.1, .int .i64 x.2]
theorem pair_none {k : Bool} {p : Int} (h : partsZ k p = []) : pairZ k p = (p, -1) := by unfold pairZ; rw [h]
theorem pair_one {k : Bool} {p a : Int} (h : partsZ k p = [a]) : pairZ k p = (a, -1) := by unfold pairZ; rw [h]
theorem pair_two {k : Bool} {p a b : Int} (h : partsZ k p = [a, b]) : pairZ k p = (a, b) := by unfold pairZ; rw [h]
theorem ret_pair {x : Int × Int} {a b : Int} (h : x = (a, b)) : (Ending.returned (.agg #[.int .i64 a, .int .i64 b]) : Ending) = .returned (pairV x) := by rw [h]; rfl
set_option maxHeartbeats 1000000 in
theorem syllableI (p : Int) (w : World) (h : 12288 ≤ p ∧ p ≤ 23459) : Calls Try.prog 107 #[.int .i64 p] w fun e w' => e = .returned (pairV (pairZ false p)) ∧ ∃ o, w' = w.alloc o := by
  obtain ⟨q, hq⟩ : ∃ q, (p - 12288) / 28 = q := ⟨_, rfl⟩
  obtain ⟨r, hr⟩ : ∃ r, (p - 12288) % 28 = r := ⟨_, rfl⟩
  have e1 : (p - 12288).tdiv 28 = q := by rw [Int.tdiv_eq_ediv_of_nonneg (by omega)]; exact hq
  have e2 : (p - 12288).tmod 28 = r := by rw [Int.tmod_eq_emod_of_nonneg (by omega)]; exact hr
  have b1 : 0 ≤ q ∧ q ≤ 398 := by omega
  have b2 : 0 ≤ r ∧ r ≤ 27 := by omega
  by_cases h0 : 0 < r
  · have hp : pairZ false p = (p - r, 1856 + r) := pair_two (by
      unfold partsZ
      rw [if_neg (by omega), if_neg (by omega), if_neg (by omega), if_neg (by omega), if_pos h, hr, if_pos h0])
    have HP := hide hp
    clear hp hq hr
    go_enter Try.func107, Try.ntmps107
    go_wp2
    go_returns
    exact ⟨ret_pair (unhide HP), _, rfl⟩
  · obtain ⟨a, ha⟩ : ∃ a, q / 21 = a := ⟨_, rfl⟩
    obtain ⟨b, hb⟩ : ∃ b, q % 21 = b := ⟨_, rfl⟩
    have e3 : q.tdiv 21 = a := by rw [Int.tdiv_eq_ediv_of_nonneg (by omega)]; exact ha
    have e4 : q.tmod 21 = b := by rw [Int.tmod_eq_emod_of_nonneg (by omega)]; exact hb
    have b3 : 0 ≤ a ∧ a ≤ 18 := by omega
    have b4 : 0 ≤ b ∧ b ≤ 20 := by omega
    have hp : pairZ false p = (1792 + a, 1824 + b) := by
      have := pair_two (k := false) (p := p) (a := 1792 + (p - 12288) / 588) (b := 1824 + (p - 12288) / 28 % 21) (by
        unfold partsZ
        rw [if_neg (by omega), if_neg (by omega), if_neg (by omega), if_neg (by omega), if_pos h, if_neg (by omega)])
      rw [this, hq, hb]
      have e : (p - 12288) / 588 = a := by omega
      rw [e]
    have HP := hide hp
    clear hp hq hr ha hb
    go_enter Try.func107, Try.ntmps107
    go_wp2
    go_returns
    exact ⟨ret_pair (unhide HP), _, rfl⟩
end Go.Proofs.Ytnfdkcphmolkiaa
