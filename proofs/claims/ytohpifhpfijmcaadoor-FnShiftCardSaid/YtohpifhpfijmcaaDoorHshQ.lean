/- The specification's piece of Shift, whatever it is; and its DecodeShift. -/
import Derived.Test.YtohpifhpfijmcaaDoorHshP
namespace Go.Proofs.YtohpifhpfijmcaaDoor
open Go.RowKit
set_option maxHeartbeats 4000000 in
set_option maxRecDepth 100000 in
theorem piece_four (s : ByteArray) (i : Nat) (hi : i < s.size) (hs : s.size ≤ 65536) (hb : 32 ≤ bt s i) (w : World) :
    Calls Tryd.prog 43 #[.string s, .int .i64 i, .int .i64 4] w fun e w' => e = .returned (pcV (pc s i 4)) ∧ Below w.heap.size w w' := by
  have f0 := wrap_bt s i
  have f1 := wrap_bt s (i + 1)
  have hbt := bt_lt s i
  have hbt1 := bt_lt s (i + 1)
  have q27 : ((bt s i : Int) == 27) = false := by rw [beq_eq_false_iff_ne]; omega
  have q10 : ((bt s i : Int) == 10) = false := by rw [beq_eq_false_iff_ne]; omega
  have q32 : (32 : Int) ≤ (bt s i : Int) := by omega
  have HP : Hid (pc s i 4 = if i + 1 < s.size ∧ 33 ≤ bt s i ∧ bt s i ≤ 126 ∧ 33 ≤ bt s (i + 1) ∧ bt s (i + 1) ≤ 126 ∧ 94 * ((bt s i : Int) - 33) + ((bt s (i + 1) : Int) - 33) < 2048 then (24576 + 94 * ((bt s i : Int) - 33) + ((bt s (i + 1) : Int) - 33), 4, 2) else (0, 0, 0)) := hide (by
    unfold pc; rw [if_neg (by omega), if_neg (by omega), if_neg (by omega), if_neg (by omega)])
  have hc : (i + 1 < s.size ∧ 33 ≤ bt s i ∧ bt s i ≤ 126 ∧ 33 ≤ bt s (i + 1) ∧ bt s (i + 1) ≤ 126 ∧ 94 * ((bt s i : Int) - 33) + ((bt s (i + 1) : Int) - 33) < 2048) ∨
      ¬ (i + 1 < s.size ∧ 33 ≤ bt s i ∧ bt s i ≤ 126 ∧ 33 ≤ bt s (i + 1) ∧ bt s (i + 1) ≤ 126 ∧ 94 * ((bt s i : Int) - 33) + ((bt s (i + 1) : Int) - 33) < 2048) := Decidable.em _
  rcases hc with hc | hc
  · have HP2 := hide ((unhide HP).trans (if_pos hc))
    obtain ⟨a, b, c, d, e, f⟩ := hc
    have a' : (i : Int) + 1 < (s.size : Int) := by omega
    have b' : (33 : Int) ≤ (bt s i : Int) := by omega
    have c' : (bt s i : Int) ≤ 126 := by omega
    have d' : (33 : Int) ≤ (bt s (i + 1) : Int) := by omega
    have e' : (bt s (i + 1) : Int) ≤ 126 := by omega
    clear HP
    go_enter Tryd.func43, Tryd.ntmps43
    go_wp2
    go_ret3
    exact ⟨by rw [unhide HP2]; rfl, Below.refl _ _⟩
  · have HP2 := hide ((unhide HP).trans (if_neg hc))
    have hn : ¬ i + 1 < s.size ∨ (i + 1 < s.size ∧ bt s i < 33) ∨ (i + 1 < s.size ∧ 33 ≤ bt s i ∧ 126 < bt s i) ∨ (i + 1 < s.size ∧ 33 ≤ bt s i ∧ bt s i ≤ 126 ∧ bt s (i + 1) < 33) ∨ (i + 1 < s.size ∧ 33 ≤ bt s i ∧ bt s i ≤ 126 ∧ 33 ≤ bt s (i + 1) ∧ 126 < bt s (i + 1)) ∨ (i + 1 < s.size ∧ 33 ≤ bt s i ∧ bt s i ≤ 126 ∧ 33 ≤ bt s (i + 1) ∧ bt s (i + 1) ≤ 126 ∧ 2048 ≤ 94 * ((bt s i : Int) - 33) + ((bt s (i + 1) : Int) - 33)) := by omega
    clear hc HP
    rcases hn with a | ⟨a, b⟩ | ⟨a, b, c⟩ | ⟨a, b, c, d⟩ | ⟨a, b, c, d, e⟩ | ⟨a, b, c, d, e, f⟩
    · have a' : (s.size : Int) ≤ (i : Int) + 1 := by omega
      go_enter Tryd.func43, Tryd.ntmps43
      go_wp2
      go_ret3
      exact ⟨by rw [unhide HP2]; rfl, Below.refl _ _⟩
    all_goals
      have a' : (i : Int) + 1 < (s.size : Int) := by omega
      first | have b' : (33 : Int) ≤ (bt s i : Int) := by omega | have b' : (bt s i : Int) < 33 := by omega
      first | have c' : (bt s i : Int) ≤ 126 := by omega | have c' : (126 : Int) < (bt s i : Int) := by omega
      try (first | have d' : (33 : Int) ≤ (bt s (i + 1) : Int) := by omega | have d' : (bt s (i + 1) : Int) < 33 := by omega)
      try (first | have e' : (bt s (i + 1) : Int) ≤ 126 := by omega | have e' : (126 : Int) < (bt s (i + 1) : Int) := by omega)
      go_enter Tryd.func43, Tryd.ntmps43
      go_wp2
      go_ret3
      exact ⟨by rw [unhide HP2]; rfl, Below.refl _ _⟩
set_option maxHeartbeats 4000000 in
set_option maxRecDepth 100000 in
theorem piece_any (s : ByteArray) (i : Nat) (st : Int) (h0 : 0 ≤ st) (h4 : st ≤ 4) (hi : i < s.size) (hs : s.size ≤ 65536) (w : World) :
    Calls Tryd.prog 43 #[.string s, .int .i64 i, .int .i64 st] w fun e w' => e = .returned (pcV (pc s i st)) ∧ Below w.heap.size w w' := by
  by_cases h27 : bt s i = 27
  · exact piece27 s i st hi hs h27 w
  have f0 := wrap_bt s i
  have hbt := bt_lt s i
  have q27 : ((bt s i : Int) == 27) = false := by rw [beq_eq_false_iff_ne]; omega
  by_cases h10 : bt s i = 10
  · have q10 : ((bt s i : Int) == 10) = true := by rw [beq_iff_eq]; omega
    have HP : Hid (pc s i st = ((bt s i : Int), 0, 1)) := hide (by unfold pc; rw [if_neg h27, if_pos (by omega), if_pos h10])
    clear h27 h10
    go_enter Tryd.func43, Tryd.ntmps43
    go_wp2
    go_ret3
    exact ⟨by rw [unhide HP, ← f0 hi]; rfl, Below.refl _ _⟩
  have q10 : ((bt s i : Int) == 10) = false := by rw [beq_eq_false_iff_ne]; omega
  by_cases h32 : bt s i < 32
  · have HP : Hid (pc s i st = ((bt s i : Int), st, 1)) := hide (by unfold pc; rw [if_neg h27, if_pos h32, if_neg h10])
    have q32 : (bt s i : Int) < 32 := by omega
    clear h27 h10
    go_enter Tryd.func43, Tryd.ntmps43
    go_wp2
    go_ret3
    exact ⟨by rw [unhide HP]; first | rfl | (rw [← f0 hi]; rfl), Below.refl _ _⟩
  have q32 : (32 : Int) ≤ (bt s i : Int) := by omega
  have hst : st = 0 ∨ (1 ≤ st ∧ st ≤ 3) ∨ st = 4 := by omega
  rcases hst with rfl | ⟨s1, s3⟩ | rfl
  · by_cases hb : bt s i ≤ 126
    · have HP : Hid (pc s i 0 = ((bt s i : Int), 0, 1)) := hide (by unfold pc; rw [if_neg h27, if_neg h32, if_pos rfl, if_pos hb])
      have hb' : (bt s i : Int) ≤ 126 := by omega
      clear h27 h10
      go_enter Tryd.func43, Tryd.ntmps43
      go_wp2
      go_ret3
      exact ⟨by rw [unhide HP]; first | rfl | (rw [← f0 hi]; rfl), Below.refl _ _⟩
    · have HP : Hid (pc s i 0 = (0, 0, 0)) := hide (by unfold pc; rw [if_neg h27, if_neg h32, if_pos rfl, if_neg hb])
      have hb' : (126 : Int) < (bt s i : Int) := by omega
      clear h27 h10
      go_enter Tryd.func43, Tryd.ntmps43
      go_wp2
      go_ret3
      exact ⟨by rw [unhide HP]; first | rfl | (rw [← f0 hi]; rfl), Below.refl _ _⟩
  · have qs : (st == 0) = false := by rw [beq_eq_false_iff_ne]; omega
    have qs4 : (st == 4) = false := by rw [beq_eq_false_iff_ne]; omega
    by_cases hb : bt s i ≤ 127
    · have HP : Hid (pc s i st = (256 + 256 * st + (bt s i : Int) - 32, st, 1)) := hide (by unfold pc; rw [if_neg h27, if_neg h32, if_neg (by omega), if_pos s3, if_pos hb])
      have hb' : (bt s i : Int) ≤ 127 := by omega
      clear h27 h10
      go_enter Tryd.func43, Tryd.ntmps43
      go_wp2
      go_ret3
      exact ⟨by rw [unhide HP]; first | rfl | (rw [← f0 hi]; rfl), Below.refl _ _⟩
    · have HP : Hid (pc s i st = (0, 0, 0)) := hide (by unfold pc; rw [if_neg h27, if_neg h32, if_neg (by omega), if_pos s3, if_neg hb])
      have hb' : (127 : Int) < (bt s i : Int) := by omega
      clear h27 h10
      go_enter Tryd.func43, Tryd.ntmps43
      go_wp2
      go_ret3
      exact ⟨by rw [unhide HP]; first | rfl | (rw [← f0 hi]; rfl), Below.refl _ _⟩
  · exact piece_four s i hi hs (by omega) w
end Go.Proofs.YtohpifhpfijmcaaDoor
