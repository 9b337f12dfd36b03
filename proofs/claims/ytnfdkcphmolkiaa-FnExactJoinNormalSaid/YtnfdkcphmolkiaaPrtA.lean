/- All parts of a point, as the specification tells them. -/
import Derived.Test.YtnfdkcphmolkiaaPrtS
import Derived.Test.YtnfdkcphmolkiaaSpnO
namespace Go.Proofs.Ytnfdkcphmolkiaa
open Go.RowKit
set_option maxHeartbeats 4000000 in
set_option maxRecDepth 100000 in
theorem partsS (p : Int) (k : Bool) (w : World) (hb : 0 ≤ p ∧ p ≤ 1114111) : Calls Try.prog 85 #[.int .i64 p, .bool k] w fun e w' => NewRow w w' e (partsZ k p) := by
  obtain ⟨n, hn⟩ : ∃ n, p % 512 = n := ⟨_, rfl⟩
  obtain ⟨m, hm⟩ : ∃ m, p / 512 = m := ⟨_, rfl⟩
  have e1 : p.tmod 512 = n := by rw [Int.tmod_eq_emod_of_nonneg (by omega)]; exact hn
  have e2 : p.tdiv 512 = m := by rw [Int.tdiv_eq_ediv_of_nonneg (by omega)]; exact hm
  have n0 : 0 ≤ n ∧ n ≤ 511 := by omega
  by_cases c1 : 8192 ≤ p ∧ p ≤ 8607
  · obtain ⟨q, hq⟩ : ∃ q, (p - 8192) / 8 = q := ⟨_, rfl⟩
    obtain ⟨r, hr⟩ : ∃ r, (p - 8192) % 8 = r := ⟨_, rfl⟩
    have e3 : n.tdiv 8 = q := by rw [Int.tdiv_eq_ediv_of_nonneg (by omega)]; omega
    have e4 : n.tmod 8 = r := by rw [Int.tmod_eq_emod_of_nonneg (by omega)]; omega
    have b1 : 0 ≤ q ∧ q ≤ 51 := by omega
    have b2 : 0 ≤ r ∧ r ≤ 7 := by omega
    have b3 : n < 416 := by omega
    have b4 : p < 9728 := by omega
    have hm16 : m = 16 := by omega
    have HP : Hid (partsZ k p = [letterZ q, 4096 + r]) := hide (by unfold partsZ; rw [if_pos c1, hq, hr])
    subst hm16
    clear hq hr hn hm
    go_enter Try.func85, Try.ntmps85
    go_wp2_with (go_at_call 100; refine (letterS _ _ (by omega)).mono ?_; rintro e w' ⟨rfl, rfl⟩)
    go_ret
    exact ⟨_, rfl, row2 _ (unhide HP), one_below _ _⟩
  by_cases c2 : 8704 ≤ p ∧ p ≤ 9119
  · obtain ⟨q, hq⟩ : ∃ q, (p - 8704) / 8 = q := ⟨_, rfl⟩
    obtain ⟨r, hr⟩ : ∃ r, (p - 8704) % 8 = r := ⟨_, rfl⟩
    have e3 : n.tdiv 8 = q := by rw [Int.tdiv_eq_ediv_of_nonneg (by omega)]; omega
    have e4 : n.tmod 8 = r := by rw [Int.tmod_eq_emod_of_nonneg (by omega)]; omega
    have b1 : 0 ≤ q ∧ q ≤ 51 := by omega
    have b2 : 0 ≤ r ∧ r ≤ 7 := by omega
    have b3 : n < 416 := by omega
    have b4 : p < 9728 := by omega
    have hm17 : m = 17 := by omega
    have HP : Hid (partsZ k p = [letterZ q, 4112 + r]) := hide (by unfold partsZ; rw [if_neg c1, if_pos c2, hq, hr])
    subst hm17
    clear hq hr hn hm
    go_enter Try.func85, Try.ntmps85
    go_wp2_with (go_at_call 100; refine (letterS _ _ (by omega)).mono ?_; rintro e w' ⟨rfl, rfl⟩)
    go_ret
    exact ⟨_, rfl, row2 _ (unhide HP), one_below _ _⟩
  by_cases c3 : 9216 ≤ p ∧ p ≤ 9631
  · have b3 : n < 416 := by omega
    have b4 : p < 9728 := by omega
    have hm18 : m = 18 := by omega
    have HP : Hid (partsZ k p = [8704 + n, 4096]) := hide (by
      unfold partsZ
      rw [if_neg c1, if_neg c2, if_pos c3]
      congr 1
      omega)
    subst hm18
    clear hn hm
    go_enter Try.func85, Try.ntmps85
    go_wp2
    go_ret
    exact ⟨_, rfl, row2 _ (unhide HP), one_below _ _⟩
  have T1 : (decide (8192 ≤ p) && decide (p < 9728) && decide (n < 416)) = false := by
    by_cases a1 : 8192 ≤ p
    · by_cases a2 : p < 9728
      · have : ¬ n < 416 := by omega
        simp [this]
      · simp [a2]
    · simp [a1]
  by_cases c4 : 9728 ≤ p ∧ p ≤ 9753
  · have HP : Hid (partsZ k p = [p - 9728 + 65]) := hide (by unfold partsZ; rw [if_neg c1, if_neg c2, if_neg c3, if_pos c4])
    have b4 : ¬ p < 9728 := by omega
    clear hn hm T1
    go_enter Try.func85, Try.ntmps85
    go_wp2
    go_ret
    exact ⟨_, rfl, row1 _ (unhide HP), one_below _ _⟩
  by_cases c5 : 12288 ≤ p ∧ p ≤ 23459
  · have b4 : ¬ p < 9728 := by omega
    have b5 : ¬ p ≤ 9753 := by omega
    obtain ⟨r, hr⟩ : ∃ r, (p - 12288) % 28 = r := ⟨_, rfl⟩
    have e3 : (p - 12288).tmod 28 = r := by rw [Int.tmod_eq_emod_of_nonneg (by omega)]; exact hr
    have b2 : 0 ≤ r ∧ r ≤ 27 := by omega
    by_cases h0 : 0 < r
    · have HP : Hid (partsZ k p = [p - r, 1856 + r]) := hide (by unfold partsZ; rw [if_neg c1, if_neg c2, if_neg c3, if_neg c4, if_pos c5, hr, if_pos h0])
      clear hn hm hr T1
      go_enter Try.func85, Try.ntmps85
      go_wp2
      go_ret
      exact ⟨_, rfl, row2 _ (unhide HP), one_below _ _⟩
    · obtain ⟨a, ha⟩ : ∃ a, (p - 12288) / 588 = a := ⟨_, rfl⟩
      obtain ⟨q, hq⟩ : ∃ q, (p - 12288) / 28 = q := ⟨_, rfl⟩
      obtain ⟨b, hbb⟩ : ∃ b, q % 21 = b := ⟨_, rfl⟩
      have e4 : (p - 12288).tdiv 588 = a := by rw [Int.tdiv_eq_ediv_of_nonneg (by omega)]; exact ha
      have e5 : (p - 12288).tdiv 28 = q := by rw [Int.tdiv_eq_ediv_of_nonneg (by omega)]; exact hq
      have e6 : q.tmod 21 = b := by rw [Int.tmod_eq_emod_of_nonneg (by omega)]; exact hbb
      have b6 : 0 ≤ a ∧ a ≤ 18 := by omega
      have b8 : 0 ≤ q ∧ q ≤ 398 := by omega
      have b7 : 0 ≤ b ∧ b ≤ 20 := by omega
      have HP : Hid (partsZ k p = [1792 + a, 1824 + b]) := hide (by unfold partsZ; rw [if_neg c1, if_neg c2, if_neg c3, if_neg c4, if_pos c5, if_neg (by omega), ha, hq, hbb])
      clear hn hm hr T1 ha hq hbb
      go_enter Try.func85, Try.ntmps85
      go_wp2
      go_ret
      exact ⟨_, rfl, row2 _ (unhide HP), one_below _ _⟩
  cases k with
  | true =>
    have hz : wideZ p = partsZ true p := by unfold partsZ; rw [if_neg c1, if_neg c2, if_neg c3, if_neg c4, if_neg c5, if_pos rfl]
    have SW := hide (fun W => wideS p W hb)
    rw [hz] at SW
    clear hz
    by_cases g0 : p < 8192
    · have f0 : ¬ 8192 ≤ p := by omega
      have f1 : ¬ 9728 ≤ p := by omega
      have f2 : ¬ 12288 ≤ p := by omega
      clear hn hm T1
      go_enter Try.func85, Try.ntmps85
      go_wp2_with (go_at_call 101; refine ((unhide SW) _).mono ?_; rintro e w1 ⟨v, rfl, ho, hb2⟩)
      go_ret
      exact ⟨v, rfl, ho, hb2⟩
    by_cases g1 : p < 9728
    · have f0 : 8192 ≤ p := by omega
      have f1 : ¬ n < 416 := by omega
      have f2 : ¬ 9728 ≤ p := by omega
      have f3 : ¬ 12288 ≤ p := by omega
      clear hn hm T1
      go_enter Try.func85, Try.ntmps85
      go_wp2_with (go_at_call 101; refine ((unhide SW) _).mono ?_; rintro e w1 ⟨v, rfl, ho, hb2⟩)
      go_ret
      exact ⟨v, rfl, ho, hb2⟩
    by_cases g2 : p < 12288
    · have f0 : 8192 ≤ p := by omega
      have f1 : ¬ p < 9728 := by omega
      have f2 : 9728 ≤ p := by omega
      have f3 : ¬ p ≤ 9753 := by omega
      have f4 : ¬ 12288 ≤ p := by omega
      clear hn hm T1
      go_enter Try.func85, Try.ntmps85
      go_wp2_with (go_at_call 101; refine ((unhide SW) _).mono ?_; rintro e w1 ⟨v, rfl, ho, hb2⟩)
      go_ret
      exact ⟨v, rfl, ho, hb2⟩
    have f0 : 8192 ≤ p := by omega
    have f1 : ¬ p < 9728 := by omega
    have f2 : 9728 ≤ p := by omega
    have f3 : ¬ p ≤ 9753 := by omega
    have f4 : 12288 ≤ p := by omega
    have f5 : ¬ p ≤ 23459 := by omega
    clear hn hm T1
    go_enter Try.func85, Try.ntmps85
    go_wp2_with (go_at_call 101; refine ((unhide SW) _).mono ?_; rintro e w1 ⟨v, rfl, ho, hb2⟩)
    go_ret
    exact ⟨v, rfl, ho, hb2⟩
  | false =>
    have HP : Hid (partsZ false p = []) := hide (by unfold partsZ; rw [if_neg c1, if_neg c2, if_neg c3, if_neg c4, if_neg c5, if_neg (by simp)])
    by_cases g0 : p < 8192
    · have f0 : ¬ 8192 ≤ p := by omega
      have f1 : ¬ 9728 ≤ p := by omega
      have f2 : ¬ 12288 ≤ p := by omega
      clear hn hm T1
      go_enter Try.func85, Try.ntmps85
      go_wp2
      go_ret
      exact ⟨_, rfl, row0 _ (unhide HP), one_below _ _⟩
    by_cases g1 : p < 9728
    · have f0 : 8192 ≤ p := by omega
      have f1 : ¬ n < 416 := by omega
      have f2 : ¬ 9728 ≤ p := by omega
      have f3 : ¬ 12288 ≤ p := by omega
      clear hn hm T1
      go_enter Try.func85, Try.ntmps85
      go_wp2
      go_ret
      exact ⟨_, rfl, row0 _ (unhide HP), one_below _ _⟩
    by_cases g2 : p < 12288
    · have f0 : 8192 ≤ p := by omega
      have f1 : ¬ p < 9728 := by omega
      have f2 : 9728 ≤ p := by omega
      have f3 : ¬ p ≤ 9753 := by omega
      have f4 : ¬ 12288 ≤ p := by omega
      clear hn hm T1
      go_enter Try.func85, Try.ntmps85
      go_wp2
      go_ret
      exact ⟨_, rfl, row0 _ (unhide HP), one_below _ _⟩
    have f0 : 8192 ≤ p := by omega
    have f1 : ¬ p < 9728 := by omega
    have f2 : 9728 ≤ p := by omega
    have f3 : ¬ p ≤ 9753 := by omega
    have f4 : 12288 ≤ p := by omega
    have f5 : ¬ p ≤ 23459 := by omega
    clear hn hm T1
    go_enter Try.func85, Try.ntmps85
    go_wp2
    go_ret
    exact ⟨_, rfl, row0 _ (unhide HP), one_below _ _⟩
end Go.Proofs.Ytnfdkcphmolkiaa
