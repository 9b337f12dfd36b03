/- What is asked of a point, by the program and by the specification. -/
import Derived.Test.YtbkeaoplncaihaaDoorScrK
import Derived.Test.YtbkeaoplncaihaaDoorKdR
namespace Go.Proofs.YtbkeaoplncaihaaDoor.Kd
open Go.RowKit
theorem cls_cases (p : Int) : p = 1584 ∨ p = 1585 ∨ (p < 4096 ∧ p ≠ 1584 ∧ p ≠ 1585) ∨ (4096 ≤ p ∧ p < 4112) ∨ (4112 ≤ p ∧ p < 4128) ∨ (4128 ≤ p ∧ p < 4136) ∨ (4136 ≤ p ∧ p < 4144) ∨ (4144 ≤ p ∧ p < 4152) ∨ (4152 ≤ p ∧ p < 4160) ∨ 4160 ≤ p := by omega
set_option maxHeartbeats 1000000 in
theorem implCls (p : Int) (w : World) : Calls Tryd.prog 7 #[.int .i64 p] w fun e w' => e = .returned (.int .i64 (clsOf p)) ∧ w' = w := by
  rcases cls_cases p with h | h | ⟨h, n1, n2⟩ | ⟨g, h⟩ | ⟨g, h⟩ | ⟨g, h⟩ | ⟨g, h⟩ | ⟨g, h⟩ | ⟨g, h⟩ | g
  · subst h
    go_enter Tryd.func7, Tryd.ntmps7
    go_wp2
    go_ret
    exact ⟨rfl, rfl⟩
  · subst h
    go_enter Tryd.func7, Tryd.ntmps7
    go_wp2
    go_ret
    exact ⟨rfl, rfl⟩
  all_goals
    have b1 : (p == 1584) = false := by rw [beq_eq_false_iff_ne]; omega
    have b2 : (p == 1585) = false := by rw [beq_eq_false_iff_ne]; omega
    go_enter Tryd.func7, Tryd.ntmps7
    go_wp2
    go_ret
    refine ⟨ret_int ?_, rfl⟩
    unfold clsOf
    repeat (first | rw [if_pos (by omega)] | rw [if_neg (by omega)])
set_option maxHeartbeats 1000000 in
theorem specCls (p : Int) (w : World) : Calls Tryd.prog 28 #[.int .i64 p] w fun e w' => e = .returned (.int .i64 (clsOf p)) ∧ w' = w := by
  rcases cls_cases p with h | h | ⟨h, n1, n2⟩ | ⟨g, h⟩ | ⟨g, h⟩ | ⟨g, h⟩ | ⟨g, h⟩ | ⟨g, h⟩ | ⟨g, h⟩ | g
  · subst h
    go_enter Tryd.func28, Tryd.ntmps28
    go_wp2
    go_ret
    exact ⟨rfl, rfl⟩
  · subst h
    go_enter Tryd.func28, Tryd.ntmps28
    go_wp2
    go_ret
    exact ⟨rfl, rfl⟩
  all_goals
    have b1 : (p == 1584) = false := by rw [beq_eq_false_iff_ne]; omega
    have b2 : (p == 1585) = false := by rw [beq_eq_false_iff_ne]; omega
    go_enter Tryd.func28, Tryd.ntmps28
    go_wp2
    go_ret
    refine ⟨ret_int ?_, rfl⟩
    unfold clsOf
    repeat (first | rw [if_pos (by omega)] | rw [if_neg (by omega)])
theorem implAge (p : Int) (w : World) (ht : TabAt w) : Calls Tryd.prog 8 #[.int .i64 p] w fun e w' => e = .returned (.int .i64 (ageOf (catI p) p)) ∧ Below w.heap.size w w' := by
  have H := hide ht
  clear ht
  by_cases c : catI p = 0
  · have c' : (catI p == 0) = true := by simpa using c
    have HC := hide c
    clear c
    go_enter Tryd.func8, Tryd.ntmps8
    go_wp2_with (go_at_call 5; refine (implCat p _ (unhide H)).mono ?_; rintro e w' ⟨rfl, hb⟩)
    go_ret
    exact ⟨ret_int (by unfold ageOf; rw [if_pos (unhide HC)]), hb⟩
  · have c' : (catI p == 0) = false := by simpa using c
    have HC := hide c
    clear c
    have hp : p < 4096 ∨ (4096 ≤ p ∧ p < 12288) ∨ (12288 ≤ p ∧ p < 24576) ∨ 24576 ≤ p := by omega
    rcases hp with h | ⟨g, h⟩ | ⟨g, h⟩ | h
    all_goals
      go_enter Tryd.func8, Tryd.ntmps8
      go_wp2_with (go_at_call 5; refine (implCat p _ (unhide H)).mono ?_; rintro e w' ⟨rfl, hb⟩)
      go_ret
      refine ⟨ret_int ?_, hb⟩
      unfold ageOf
      rw [if_neg (unhide HC)]
      repeat (first | rw [if_pos (by omega)] | rw [if_neg (by omega)])
theorem specL01Age (p : Int) (w : World) : Calls Tryd.prog 29 #[.int .i64 p] w fun e w' => e = .returned (.int .i64 (ageOf (known p).1 p)) ∧ Below w.heap.size w w' := by
  by_cases c : (known p).1 = 0
  · have c' : ((known p).1 == 0) = true := by simpa using c
    have HC := hide c
    clear c
    go_enter Tryd.func29, Tryd.ntmps29
    go_wp2_with (go_at_call 26; refine (specCat p _).mono ?_; rintro e w' ⟨rfl, hb⟩)
    go_ret
    exact ⟨ret_int (by unfold ageOf; rw [if_pos (unhide HC)]), hb⟩
  · have c' : ((known p).1 == 0) = false := by simpa using c
    have HC := hide c
    clear c
    have hp : p < 4096 ∨ (4096 ≤ p ∧ p < 12288) ∨ (12288 ≤ p ∧ p < 24576) ∨ 24576 ≤ p := by omega
    rcases hp with h | ⟨g, h⟩ | ⟨g, h⟩ | h
    all_goals
      go_enter Tryd.func29, Tryd.ntmps29
      go_wp2_with (go_at_call 26; refine (specCat p _).mono ?_; rintro e w' ⟨rfl, hb⟩)
      go_ret
      refine ⟨ret_int ?_, hb⟩
      unfold ageOf
      rw [if_neg (unhide HC)]
      repeat (first | rw [if_pos (by omega)] | rw [if_neg (by omega)])
theorem propertyOf_any (k p : Int) (hk : 1 ≤ k ∧ k ≤ 4) (w : World) (ht : TabAt w) : Calls Tryd.prog 32 #[.int .i64 k, .int .i64 p] w fun e w' => e = .returned (.int .i64 (valW k p)) ∧ Below w.heap.size w w' := by
  have H := hide ht
  have HF := hide (fine p)
  clear ht
  obtain rfl | rfl | rfl | rfl : k = 1 ∨ k = 2 ∨ k = 3 ∨ k = 4 := by omega
  · go_enter Tryd.func32, Tryd.ntmps32
    go_wp2_with (go_at_call 5; refine (implCat p _ (unhide H)).mono ?_; rintro e w' ⟨rfl, hb⟩)
    go_ret
    exact ⟨ret_int (unhide HF).1, hb⟩
  · go_enter Tryd.func32, Tryd.ntmps32
    go_wp2_with (go_at_call 6; refine (implScr p _ (unhide H)).mono ?_; rintro e w' ⟨rfl, hb⟩)
    go_ret
    exact ⟨ret_int (unhide HF).2.1, hb⟩
  · go_enter Tryd.func32, Tryd.ntmps32
    go_wp2_with (go_at_call 7; refine (implCls p _).mono ?_; rintro e w' ⟨rfl, rfl⟩)
    go_ret
    exact ⟨rfl, Below.refl _ _⟩
  · go_enter Tryd.func32, Tryd.ntmps32
    go_wp2_with (go_at_call 8; refine (implAge p _ (unhide H)).mono ?_; rintro e w' ⟨rfl, hb⟩)
    go_ret
    exact ⟨ret_int (by rw [(unhide HF).1]; rfl), hb⟩
theorem l01What_any (k p : Int) (hk : 1 ≤ k ∧ k ≤ 4) (w : World) : Calls Tryd.prog 34 #[.int .i64 k, .int .i64 p] w fun e w' => e = .returned (.int .i64 (valW k p)) ∧ Below w.heap.size w w' := by
  obtain rfl | rfl | rfl | rfl : k = 1 ∨ k = 2 ∨ k = 3 ∨ k = 4 := by omega
  · go_enter Tryd.func34, Tryd.ntmps34
    go_wp2_with (go_at_call 26; refine (specCat p _).mono ?_; rintro e w' ⟨rfl, hb⟩)
    go_ret
    exact ⟨rfl, hb⟩
  · go_enter Tryd.func34, Tryd.ntmps34
    go_wp2_with (go_at_call 27; refine (specScr p _).mono ?_; rintro e w' ⟨rfl, hb⟩)
    go_ret
    exact ⟨rfl, hb⟩
  · go_enter Tryd.func34, Tryd.ntmps34
    go_wp2_with (go_at_call 28; refine (specCls p _).mono ?_; rintro e w' ⟨rfl, rfl⟩)
    go_ret
    exact ⟨rfl, Below.refl _ _⟩
  · go_enter Tryd.func34, Tryd.ntmps34
    go_wp2_with (go_at_call 29; refine (specL01Age p _).mono ?_; rintro e w' ⟨rfl, hb⟩)
    go_ret
    exact ⟨rfl, hb⟩
end Go.Proofs.YtbkeaoplncaihaaDoor.Kd
