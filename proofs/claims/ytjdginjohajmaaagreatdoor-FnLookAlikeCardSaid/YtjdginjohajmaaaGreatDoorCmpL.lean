/- Compose of the specification: the pairs; the law. -/
import Derived.Test.YtjdginjohajmaaaGreatDoorCmpS
namespace Go.Proofs.YtjdginjohajmaaaGreatDoor
open Go.RowKit
set_option maxHeartbeats 4000000 in
set_option maxRecDepth 100000 in
theorem pairS (a b : Int) (w : World) : Calls Tryz.prog 89 #[.int .i64 a, .int .i64 b] w fun e w' => e = .returned (.int .i64 (pairP a b)) ∧ w' = w := by
  have hl := letNo_bd a
  have hn : ¬ (65 ≤ a ∧ a ≤ 90) → ¬ (97 ≤ a ∧ a ≤ 122) → letNo a = -1 := fun x y => by unfold letNo; rw [if_neg x, if_neg y]
  have hlet : 0 ≤ letNo a → 65 ≤ a ∧ a ≤ 122 := fun h => by
    by_cases p1 : 65 ≤ a ∧ a ≤ 90
    · omega
    · by_cases p2 : 97 ≤ a ∧ a ≤ 122
      · omega
      · have := hn p1 p2
        omega
  have LN := hide (fun W => letNoS a W)
  obtain ⟨z, hz⟩ : ∃ z, pairP a b = z := ⟨_, rfl⟩
  have HZ := hz
  unfold pairP at hz
  by_cases hL : 0 ≤ letNo a
  · have hA := hlet hL
    by_cases b1 : b < 4096
    · have f0 : letNo a ≤ 51 := by omega
      have f1 : ¬ 8704 ≤ a := by omega
      have f2 : ¬ 1792 ≤ a := by omega
      have f3 : ¬ 12288 ≤ a := by omega
      have f4 : ¬ 4096 ≤ b := by omega
      have f5 : ¬ 4112 ≤ b := by omega
      have HE : Hid ((-1 : Int) = z) := hide (by rw [← hz]; repeat (first | rw [if_pos (by omega)] | rw [if_neg (by omega)]))
      rw [HZ]
      clear hz HZ hl hn hlet
      generalize letNo a = i at *
      go_enter Tryz.func89, Tryz.ntmps89
      go_wp2_with (go_at_call 109; refine ((unhide LN) _).mono ?_; rintro e w' ⟨rfl, rfl⟩)
      go_ret
      exact ⟨ret_int (unhide HE), rfl⟩
    by_cases b2 : b ≤ 4103
    · have f0 : letNo a ≤ 51 := by omega
      have f1 : ¬ 8704 ≤ a := by omega
      have f2 : ¬ 1792 ≤ a := by omega
      have f3 : ¬ 12288 ≤ a := by omega
      have f4 : 4096 ≤ b := by omega
      have HE : Hid (8192 + 8 * letNo a + b - 4096 = z) := hide (by rw [← hz]; repeat (first | rw [if_pos (by omega)] | rw [if_neg (by omega)]))
      rw [HZ]
      clear hz HZ hl hn hlet
      generalize letNo a = i at *
      go_enter Tryz.func89, Tryz.ntmps89
      go_wp2_with (go_at_call 109; refine ((unhide LN) _).mono ?_; rintro e w' ⟨rfl, rfl⟩)
      go_ret
      exact ⟨ret_int (unhide HE), rfl⟩
    by_cases b3 : b < 4112
    · have f0 : letNo a ≤ 51 := by omega
      have f1 : ¬ 8704 ≤ a := by omega
      have f2 : ¬ 1792 ≤ a := by omega
      have f3 : ¬ 12288 ≤ a := by omega
      have f4 : 4096 ≤ b := by omega
      have f5 : ¬ 4112 ≤ b := by omega
      have HE : Hid ((-1 : Int) = z) := hide (by rw [← hz]; repeat (first | rw [if_pos (by omega)] | rw [if_neg (by omega)]))
      rw [HZ]
      clear hz HZ hl hn hlet
      generalize letNo a = i at *
      go_enter Tryz.func89, Tryz.ntmps89
      go_wp2_with (go_at_call 109; refine ((unhide LN) _).mono ?_; rintro e w' ⟨rfl, rfl⟩)
      go_ret
      exact ⟨ret_int (unhide HE), rfl⟩
    by_cases b4 : b ≤ 4119
    · have f0 : letNo a ≤ 51 := by omega
      have f1 : ¬ 8704 ≤ a := by omega
      have f2 : ¬ 1792 ≤ a := by omega
      have f3 : ¬ 12288 ≤ a := by omega
      have f4 : 4096 ≤ b := by omega
      have f5 : ¬ b ≤ 4103 := by omega
      have f6 : 4112 ≤ b := by omega
      have HE : Hid (8704 + 8 * letNo a + b - 4112 = z) := hide (by rw [← hz]; repeat (first | rw [if_pos (by omega)] | rw [if_neg (by omega)]))
      rw [HZ]
      clear hz HZ hl hn hlet
      generalize letNo a = i at *
      go_enter Tryz.func89, Tryz.ntmps89
      go_wp2_with (go_at_call 109; refine ((unhide LN) _).mono ?_; rintro e w' ⟨rfl, rfl⟩)
      go_ret
      exact ⟨ret_int (unhide HE), rfl⟩
    have f0 : letNo a ≤ 51 := by omega
    have f1 : ¬ 8704 ≤ a := by omega
    have f2 : ¬ 1792 ≤ a := by omega
    have f3 : ¬ 12288 ≤ a := by omega
    have f4 : 4096 ≤ b := by omega
    have f5 : ¬ b ≤ 4103 := by omega
    have f6 : 4112 ≤ b := by omega
    have HE : Hid ((-1 : Int) = z) := hide (by rw [← hz]; repeat (first | rw [if_pos (by omega)] | rw [if_neg (by omega)]))
    rw [HZ]
    clear hz HZ hl hn hlet
    generalize letNo a = i at *
    go_enter Tryz.func89, Tryz.ntmps89
    go_wp2_with (go_at_call 109; refine ((unhide LN) _).mono ?_; rintro e w' ⟨rfl, rfl⟩)
    go_ret
    exact ⟨ret_int (unhide HE), rfl⟩
  have hm : letNo a = -1 := hl.resolve_right (fun h => hL h.1)
  by_cases a1 : a < 1792
  · have f0 : ¬ 0 ≤ letNo a := by omega
    have f1 : ¬ 8704 ≤ a := by omega
    have f2 : ¬ 1792 ≤ a := by omega
    have f3 : ¬ 12288 ≤ a := by omega
    have HE : Hid ((-1 : Int) = z) := hide (by rw [← hz]; repeat (first | rw [if_pos (by omega)] | rw [if_neg (by omega)]))
    rw [HZ]
    clear hz HZ hl hn hlet
    generalize letNo a = i at *
    go_enter Tryz.func89, Tryz.ntmps89
    go_wp2_with (go_at_call 109; refine ((unhide LN) _).mono ?_; rintro e w' ⟨rfl, rfl⟩)
    go_ret
    exact ⟨ret_int (unhide HE), rfl⟩
  by_cases a2 : a ≤ 1810
  · by_cases b1 : b < 1824
    · have f0 : ¬ 0 ≤ letNo a := by omega
      have f1 : ¬ 8704 ≤ a := by omega
      have f2 : 1792 ≤ a := by omega
      have f3 : ¬ 12288 ≤ a := by omega
      have f4 : ¬ 1824 ≤ b := by omega
      have HE : Hid ((-1 : Int) = z) := hide (by rw [← hz]; repeat (first | rw [if_pos (by omega)] | rw [if_neg (by omega)]))
      rw [HZ]
      clear hz HZ hl hn hlet
      generalize letNo a = i at *
      go_enter Tryz.func89, Tryz.ntmps89
      go_wp2_with (go_at_call 109; refine ((unhide LN) _).mono ?_; rintro e w' ⟨rfl, rfl⟩)
      go_ret
      exact ⟨ret_int (unhide HE), rfl⟩
    by_cases b2 : b ≤ 1844
    · have f0 : ¬ 0 ≤ letNo a := by omega
      have f1 : ¬ 8704 ≤ a := by omega
      have f2 : 1792 ≤ a := by omega
      have f3 : ¬ 12288 ≤ a := by omega
      have f4 : 1824 ≤ b := by omega
      have HE : Hid (12288 + ((a - 1792) * 21 + b - 1824) * 28 = z) := hide (by rw [← hz]; repeat (first | rw [if_pos (by omega)] | rw [if_neg (by omega)]))
      rw [HZ]
      clear hz HZ hl hn hlet
      generalize letNo a = i at *
      go_enter Tryz.func89, Tryz.ntmps89
      go_wp2_with (go_at_call 109; refine ((unhide LN) _).mono ?_; rintro e w' ⟨rfl, rfl⟩)
      go_ret
      exact ⟨ret_int (unhide HE), rfl⟩
    have f0 : ¬ 0 ≤ letNo a := by omega
    have f1 : ¬ 8704 ≤ a := by omega
    have f2 : 1792 ≤ a := by omega
    have f3 : ¬ 12288 ≤ a := by omega
    have f4 : 1824 ≤ b := by omega
    have HE : Hid ((-1 : Int) = z) := hide (by rw [← hz]; repeat (first | rw [if_pos (by omega)] | rw [if_neg (by omega)]))
    rw [HZ]
    clear hz HZ hl hn hlet
    generalize letNo a = i at *
    go_enter Tryz.func89, Tryz.ntmps89
    go_wp2_with (go_at_call 109; refine ((unhide LN) _).mono ?_; rintro e w' ⟨rfl, rfl⟩)
    go_ret
    exact ⟨ret_int (unhide HE), rfl⟩
  by_cases a3 : a < 8704
  · have f0 : ¬ 0 ≤ letNo a := by omega
    have f1 : ¬ 8704 ≤ a := by omega
    have f2 : 1792 ≤ a := by omega
    have f3 : ¬ 12288 ≤ a := by omega
    have HE : Hid ((-1 : Int) = z) := hide (by rw [← hz]; repeat (first | rw [if_pos (by omega)] | rw [if_neg (by omega)]))
    rw [HZ]
    clear hz HZ hl hn hlet
    generalize letNo a = i at *
    go_enter Tryz.func89, Tryz.ntmps89
    go_wp2_with (go_at_call 109; refine ((unhide LN) _).mono ?_; rintro e w' ⟨rfl, rfl⟩)
    go_ret
    exact ⟨ret_int (unhide HE), rfl⟩
  by_cases a4 : a < 9120
  · by_cases b1 : b = 4096
    · have f0 : ¬ 0 ≤ letNo a := by omega
      have f1 : 8704 ≤ a := by omega
      have f2 : 1792 ≤ a := by omega
      have f3 : ¬ a ≤ 1810 := by omega
      have f4 : ¬ 12288 ≤ a := by omega
      have tb : (b == 4096) = true := by simpa using b1
      have HE : Hid (a + 512 = z) := hide (by rw [← hz]; repeat (first | rw [if_pos (by omega)] | rw [if_neg (by omega)]))
      rw [HZ]
      clear hz HZ hl hn hlet
      generalize letNo a = i at *
      go_enter Tryz.func89, Tryz.ntmps89
      go_wp2_with (go_at_call 109; refine ((unhide LN) _).mono ?_; rintro e w' ⟨rfl, rfl⟩)
      go_ret
      exact ⟨ret_int (unhide HE), rfl⟩
    have f0 : ¬ 0 ≤ letNo a := by omega
    have f1 : 8704 ≤ a := by omega
    have f2 : 1792 ≤ a := by omega
    have f3 : ¬ a ≤ 1810 := by omega
    have f4 : ¬ 12288 ≤ a := by omega
    have tb : (b == 4096) = false := by simpa using b1
    have HE : Hid ((-1 : Int) = z) := hide (by rw [← hz]; repeat (first | rw [if_pos (by omega)] | rw [if_neg (by omega)]))
    rw [HZ]
    clear hz HZ hl hn hlet
    generalize letNo a = i at *
    go_enter Tryz.func89, Tryz.ntmps89
    go_wp2_with (go_at_call 109; refine ((unhide LN) _).mono ?_; rintro e w' ⟨rfl, rfl⟩)
    go_ret
    exact ⟨ret_int (unhide HE), rfl⟩
  by_cases a5 : a < 12288
  · have f0 : ¬ 0 ≤ letNo a := by omega
    have f1 : 8704 ≤ a := by omega
    have f2 : 1792 ≤ a := by omega
    have f3 : ¬ a ≤ 1810 := by omega
    have f4 : ¬ 12288 ≤ a := by omega
    have HE : Hid ((-1 : Int) = z) := hide (by rw [← hz]; repeat (first | rw [if_pos (by omega)] | rw [if_neg (by omega)]))
    rw [HZ]
    clear hz HZ hl hn hlet
    generalize letNo a = i at *
    go_enter Tryz.func89, Tryz.ntmps89
    go_wp2_with (go_at_call 109; refine ((unhide LN) _).mono ?_; rintro e w' ⟨rfl, rfl⟩)
    go_ret
    exact ⟨ret_int (unhide HE), rfl⟩
  by_cases a6 : a ≤ 23459
  · obtain ⟨r, hr⟩ : ∃ r, (a - 12288) % 28 = r := ⟨_, rfl⟩
    have er : (a - 12288).tmod 28 = r := by rw [Int.tmod_eq_emod_of_nonneg (by omega)]; exact hr
    by_cases r0 : r = 0
    · by_cases b1 : b < 1857
      · have f0 : ¬ 0 ≤ letNo a := by omega
        have f1 : 8704 ≤ a := by omega
        have f2 : ¬ a < 9120 := by omega
        have f3 : 1792 ≤ a := by omega
        have f4 : ¬ a ≤ 1810 := by omega
        have f5 : 12288 ≤ a := by omega
        have f6 : ¬ 1857 ≤ b := by omega
        have tr : (r == 0) = true := by simpa using r0
        have HE : Hid ((-1 : Int) = z) := hide (by rw [← hz]; repeat (first | rw [if_pos (by omega)] | rw [if_neg (by omega)]))
        rw [HZ]
        clear hz HZ hl hn hlet
        generalize letNo a = i at *
        go_enter Tryz.func89, Tryz.ntmps89
        go_wp2_with (go_at_call 109; refine ((unhide LN) _).mono ?_; rintro e w' ⟨rfl, rfl⟩)
        go_ret
        exact ⟨ret_int (unhide HE), rfl⟩
      by_cases b2 : b ≤ 1883
      · have f0 : ¬ 0 ≤ letNo a := by omega
        have f1 : 8704 ≤ a := by omega
        have f2 : ¬ a < 9120 := by omega
        have f3 : 1792 ≤ a := by omega
        have f4 : ¬ a ≤ 1810 := by omega
        have f5 : 12288 ≤ a := by omega
        have f6 : 1857 ≤ b := by omega
        have tr : (r == 0) = true := by simpa using r0
        have HE : Hid (a + b - 1856 = z) := hide (by rw [← hz]; repeat (first | rw [if_pos (by omega)] | rw [if_neg (by omega)]))
        rw [HZ]
        clear hz HZ hl hn hlet
        generalize letNo a = i at *
        go_enter Tryz.func89, Tryz.ntmps89
        go_wp2_with (go_at_call 109; refine ((unhide LN) _).mono ?_; rintro e w' ⟨rfl, rfl⟩)
        go_ret
        exact ⟨ret_int (unhide HE), rfl⟩
      have f0 : ¬ 0 ≤ letNo a := by omega
      have f1 : 8704 ≤ a := by omega
      have f2 : ¬ a < 9120 := by omega
      have f3 : 1792 ≤ a := by omega
      have f4 : ¬ a ≤ 1810 := by omega
      have f5 : 12288 ≤ a := by omega
      have f6 : 1857 ≤ b := by omega
      have tr : (r == 0) = true := by simpa using r0
      have HE : Hid ((-1 : Int) = z) := hide (by rw [← hz]; repeat (first | rw [if_pos (by omega)] | rw [if_neg (by omega)]))
      rw [HZ]
      clear hz HZ hl hn hlet
      generalize letNo a = i at *
      go_enter Tryz.func89, Tryz.ntmps89
      go_wp2_with (go_at_call 109; refine ((unhide LN) _).mono ?_; rintro e w' ⟨rfl, rfl⟩)
      go_ret
      exact ⟨ret_int (unhide HE), rfl⟩
    have f0 : ¬ 0 ≤ letNo a := by omega
    have f1 : 8704 ≤ a := by omega
    have f2 : ¬ a < 9120 := by omega
    have f3 : 1792 ≤ a := by omega
    have f4 : ¬ a ≤ 1810 := by omega
    have f5 : 12288 ≤ a := by omega
    have tr : (r == 0) = false := by simpa using r0
    have HE : Hid ((-1 : Int) = z) := hide (by rw [← hz]; repeat (first | rw [if_pos (by omega)] | rw [if_neg (by omega)]))
    rw [HZ]
    clear hz HZ hl hn hlet
    generalize letNo a = i at *
    go_enter Tryz.func89, Tryz.ntmps89
    go_wp2_with (go_at_call 109; refine ((unhide LN) _).mono ?_; rintro e w' ⟨rfl, rfl⟩)
    go_ret
    exact ⟨ret_int (unhide HE), rfl⟩
  have f0 : ¬ 0 ≤ letNo a := by omega
  have f1 : 8704 ≤ a := by omega
  have f2 : ¬ a < 9120 := by omega
  have f3 : 1792 ≤ a := by omega
  have f4 : ¬ a ≤ 1810 := by omega
  have f5 : 12288 ≤ a := by omega
  have HE : Hid ((-1 : Int) = z) := hide (by rw [← hz]; repeat (first | rw [if_pos (by omega)] | rw [if_neg (by omega)]))
  rw [HZ]
  clear hz HZ hl hn hlet
  generalize letNo a = i at *
  go_enter Tryz.func89, Tryz.ntmps89
  go_wp2_with (go_at_call 109; refine ((unhide LN) _).mono ?_; rintro e w' ⟨rfl, rfl⟩)
  go_ret
  exact ⟨ret_int (unhide HE), rfl⟩
end Go.Proofs.YtjdginjohajmaaaGreatDoor
