/- The classes of points that cuts of characters ask for, as the program tells them; a place and what it is moved to. -/
import Derived.Test.YtbaedapnikhdgaaGreatDoorChrP
import Derived.Test.YtbaedapnikhdgaaGreatDoorCallsK
namespace Go.Proofs.YtbaedapnikhdgaaGreatDoor
namespace Chr
open Go.RowKit
theorem ret_bool {x y : Bool} (h : x = y) : (Ending.returned (.bool x) : Ending) = .returned (.bool y) := by rw [h]
set_option maxRecDepth 100000 in
theorem cw_any (p a b : Int) (w : World) : Calls Tryz.prog 15 #[.int .i64 p, .int .i64 a, .int .i64 b] w fun e w' => e = .returned (.bool (decide (a ≤ p) && decide (p ≤ b))) ∧ w' = w := by
  by_cases h1 : a ≤ p
  · by_cases h2 : p ≤ b
    · go_enter Tryz.func15, Tryz.ntmps15
      go_wp2
      go_ret
      exact ⟨ret_bool (x := true) (by simp [h1, h2]), rfl⟩
    · go_enter Tryz.func15, Tryz.ntmps15
      go_wp2
      go_ret
      exact ⟨ret_bool (x := false) (by simp [h2]), rfl⟩
  · go_enter Tryz.func15, Tryz.ntmps15
    go_wp2
    go_ret
    exact ⟨ret_bool (x := false) (by simp; omega), rfl⟩
set_option maxRecDepth 100000 in
theorem isFlag_any (p : Int) (w : World) : Calls Tryz.prog 74 #[.int .i64 p] w fun e w' => e = .returned (.bool (flg p)) ∧ w' = w := by
  go_enter Tryz.func74, Tryz.ntmps74
  go_wp2_with (go_at_call 15; refine (cw_any _ _ _ _).mono ?_; rintro e w' ⟨rfl, rfl⟩)
  go_ret
  exact ⟨rfl, rfl⟩
set_option maxRecDepth 100000 in
theorem isPicture_any (p : Int) (w : World) : Calls Tryz.prog 50 #[.int .i64 p] w fun e w' => e = .returned (.bool (pic p)) ∧ w' = w := by
  go_enter Tryz.func50, Tryz.ntmps50
  go_wp2_with (go_at_call 15; refine (cw_any _ _ _ _).mono ?_; rintro e w' ⟨rfl, rfl⟩)
  go_ret
  exact ⟨rfl, rfl⟩
set_option maxRecDepth 100000 in
theorem isLead_any (p : Int) (w : World) : Calls Tryz.prog 90 #[.int .i64 p] w fun e w' => e = .returned (.bool (led p)) ∧ w' = w := by
  go_enter Tryz.func90, Tryz.ntmps90
  go_wp2_with (go_at_call 15; refine (cw_any _ _ _ _).mono ?_; rintro e w' ⟨rfl, rfl⟩)
  go_ret
  exact ⟨rfl, rfl⟩
set_option maxRecDepth 100000 in
theorem isVowel_any (p : Int) (w : World) : Calls Tryz.prog 91 #[.int .i64 p] w fun e w' => e = .returned (.bool (vow p)) ∧ w' = w := by
  go_enter Tryz.func91, Tryz.ntmps91
  go_wp2_with (go_at_call 15; refine (cw_any _ _ _ _).mono ?_; rintro e w' ⟨rfl, rfl⟩)
  go_ret
  exact ⟨rfl, rfl⟩
set_option maxRecDepth 100000 in
theorem isTail_any (p : Int) (w : World) : Calls Tryz.prog 93 #[.int .i64 p] w fun e w' => e = .returned (.bool (tai p)) ∧ w' = w := by
  go_enter Tryz.func93, Tryz.ntmps93
  go_wp2_with (go_at_call 15; refine (cw_any _ _ _ _).mono ?_; rintro e w' ⟨rfl, rfl⟩)
  go_ret
  exact ⟨rfl, rfl⟩
set_option maxRecDepth 100000 in
theorem isSyllable_any (p : Int) (w : World) : Calls Tryz.prog 48 #[.int .i64 p] w fun e w' => e = .returned (.bool (sil p)) ∧ w' = w := by
  go_enter Tryz.func48, Tryz.ntmps48
  go_wp2_with (go_at_call 15; refine (cw_any _ _ _ _).mono ?_; rintro e w' ⟨rfl, rfl⟩)
  go_ret
  exact ⟨rfl, rfl⟩
set_option maxRecDepth 100000 in
theorem hasTail_any (p : Int) (w : World) (h : sil p = true) : Calls Tryz.prog 92 #[.int .i64 p] w fun e w' => e = .returned (.bool (hta p)) ∧ w' = w := by
  simp only [sil, Bool.and_eq_true, decide_eq_true_eq] at h
  obtain ⟨h1, h2⟩ := h
  obtain ⟨r, hr⟩ : ∃ r, (p - 12288) % 28 = r := ⟨_, rfl⟩
  have e2 : (p - 12288).tmod 28 = r := by rw [Int.tmod_eq_emod_of_nonneg (by omega)]; exact hr
  have b2 : 0 ≤ r ∧ r ≤ 27 := by omega
  obtain ⟨b0, b1⟩ := b2
  have HH := hide (show hta p = !(r == 0) by unfold hta; rw [hr])
  clear hr
  go_enter Tryz.func92, Tryz.ntmps92
  go_wp2
  go_ret
  exact ⟨by rw [unhide HH]; rfl, rfl⟩
theorem cat_any (p : Int) (w : World) (ht : TabAt w) : Calls Tryz.prog 51 #[.int .i64 p] w fun e w' => e = .returned (.int .i64 (cat p)) ∧ ∃ o, w' = w.alloc o := by
  have := implCat_ex p w ht
  rw [cat_i] at this
  exact this
set_option maxRecDepth 100000 in
theorem isControl_any (p : Int) (w : World) (ht : TabAt w) : Calls Tryz.prog 89 #[.int .i64 p] w fun e w' => e = .returned (.bool (ctl p)) ∧ ∃ o, w' = w.alloc o := by
  have H := hide ht
  clear ht
  cases h1 : (cat p == 1)
  · have HR := hide (show ctl p = (p == 7954) by unfold ctl; rw [h1]; rfl)
    go_enter Tryz.func89, Tryz.ntmps89
    go_wp2_with (go_at_call 51; refine (cat_any _ _ (unhide H)).mono ?_; rintro e w' ⟨rfl, o, rfl⟩)
    go_ret
    exact ⟨by rw [unhide HR]; rfl, _, rfl⟩
  · have HR := hide (show ctl p = true by unfold ctl; rw [h1]; rfl)
    go_enter Tryz.func89, Tryz.ntmps89
    go_wp2_with (go_at_call 51; refine (cat_any _ _ (unhide H)).mono ?_; rintro e w' ⟨rfl, o, rfl⟩)
    go_ret
    exact ⟨by rw [unhide HR]; rfl, _, rfl⟩
set_option maxRecDepth 100000 in
theorem isMark_any (p : Int) (w : World) (ht : TabAt w) : Calls Tryz.prog 73 #[.int .i64 p] w fun e w' => e = .returned (.bool (mrk p)) ∧ ∃ o, w' = w.alloc o := by
  have H := hide ht
  clear ht
  cases h1 : (cat p == 3)
  · cases h2 : (p == 7936)
    · have HR := hide (show mrk p = (decide (7744 ≤ p) && decide (p ≤ 7748)) by unfold mrk; rw [h1, h2]; rfl)
      go_enter Tryz.func73, Tryz.ntmps73
      go_wp2_with (first | (go_at_call 51; refine (cat_any _ _ (unhide H)).mono ?_; rintro e w' ⟨rfl, o, rfl⟩) | (go_at_call 15; refine (cw_any _ _ _ _).mono ?_; rintro e w' ⟨rfl, rfl⟩))
      go_ret
      exact ⟨by rw [unhide HR]; rfl, _, rfl⟩
    · have HR := hide (show mrk p = true by unfold mrk; rw [h1, h2]; rfl)
      go_enter Tryz.func73, Tryz.ntmps73
      go_wp2_with (first | (go_at_call 51; refine (cat_any _ _ (unhide H)).mono ?_; rintro e w' ⟨rfl, o, rfl⟩))
      go_ret
      exact ⟨by rw [unhide HR]; rfl, _, rfl⟩
  · have HR := hide (show mrk p = true by unfold mrk; rw [h1]; rfl)
    go_enter Tryz.func73, Tryz.ntmps73
    go_wp2_with (first | (go_at_call 51; refine (cat_any _ _ (unhide H)).mono ?_; rintro e w' ⟨rfl, o, rfl⟩))
    go_ret
    exact ⟨by rw [unhide HR]; rfl, _, rfl⟩
end Chr
end Go.Proofs.YtbaedapnikhdgaaGreatDoor
