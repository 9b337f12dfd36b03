/- The classes of points and parts of syllables, as the specification tells them. -/
import Derived.Test.YtbaedapnikhdgaaGreatDoorChrB
namespace Go.Proofs.YtbaedapnikhdgaaGreatDoor
namespace Chr
open Go.RowKit
theorem sCat (p : Int) (w : World) : Calls Tryz.prog 55 #[.int .i64 p] w fun e w' => e = .returned (.int .i64 (cat p)) ∧ Below w.heap.size w w' := specCat p w
set_option maxRecDepth 100000 in
theorem sControl (p : Int) (w : World) : Calls Tryz.prog 79 #[.int .i64 p] w fun e w' => e = .returned (.bool (ctl p)) ∧ Below w.heap.size w w' := by
  cases h1 : (cat p == 1)
  · have HR := hide (show ctl p = (p == 7954) by unfold ctl; rw [h1]; rfl)
    go_enter Tryz.func79, Tryz.ntmps79
    go_wp2_with (go_at_call 55; refine (sCat _ _).mono ?_; rintro e w' ⟨rfl, hb⟩)
    go_ret
    exact ⟨by rw [unhide HR]; rfl, hb⟩
  · have HR := hide (show ctl p = true by unfold ctl; rw [h1]; rfl)
    go_enter Tryz.func79, Tryz.ntmps79
    go_wp2_with (go_at_call 55; refine (sCat _ _).mono ?_; rintro e w' ⟨rfl, hb⟩)
    go_ret
    exact ⟨by rw [unhide HR]; rfl, hb⟩
set_option maxRecDepth 100000 in
theorem sMark (p : Int) (w : World) : Calls Tryz.prog 81 #[.int .i64 p] w fun e w' => e = .returned (.bool (mrk p)) ∧ Below w.heap.size w w' := by
  cases h1 : (cat p == 3)
  · cases h2 : (p == 7936)
    · have HR := hide (show mrk p = (decide (7744 ≤ p) && decide (p ≤ 7748)) by unfold mrk; rw [h1, h2]; rfl)
      by_cases h3 : 7744 ≤ p
      · have HR' := hide (show mrk p = decide (p ≤ 7748) by rw [unhide HR]; simp [h3])
        go_enter Tryz.func81, Tryz.ntmps81
        go_wp2_with (go_at_call 55; refine (sCat _ _).mono ?_; rintro e w' ⟨rfl, hb⟩)
        go_ret
        exact ⟨by rw [unhide HR']; rfl, hb⟩
      · have HR' := hide (show mrk p = false by rw [unhide HR]; simp; omega)
        go_enter Tryz.func81, Tryz.ntmps81
        go_wp2_with (go_at_call 55; refine (sCat _ _).mono ?_; rintro e w' ⟨rfl, hb⟩)
        go_ret
        exact ⟨by rw [unhide HR']; rfl, hb⟩
    · have HR := hide (show mrk p = true by unfold mrk; rw [h1, h2]; rfl)
      go_enter Tryz.func81, Tryz.ntmps81
      go_wp2_with (go_at_call 55; refine (sCat _ _).mono ?_; rintro e w' ⟨rfl, hb⟩)
      go_ret
      exact ⟨by rw [unhide HR]; rfl, hb⟩
  · have HR := hide (show mrk p = true by unfold mrk; rw [h1]; rfl)
    go_enter Tryz.func81, Tryz.ntmps81
    go_wp2_with (go_at_call 55; refine (sCat _ _).mono ?_; rintro e w' ⟨rfl, hb⟩)
    go_ret
    exact ⟨by rw [unhide HR]; rfl, hb⟩
set_option maxRecDepth 100000 in
theorem sPicture (p : Int) (w : World) : Calls Tryz.prog 56 #[.int .i64 p] w fun e w' => e = .returned (.bool (pic p)) ∧ w' = w := by
  by_cases h : 7680 ≤ p
  · have HR := hide (show pic p = decide (p ≤ 7743) by unfold pic; simp [h])
    go_enter Tryz.func56, Tryz.ntmps56
    go_wp2
    go_ret
    exact ⟨by rw [unhide HR]; rfl, rfl⟩
  · have HR := hide (show pic p = false by unfold pic; simp; omega)
    go_enter Tryz.func56, Tryz.ntmps56
    go_wp2
    go_ret
    exact ⟨by rw [unhide HR]; rfl, rfl⟩
set_option maxRecDepth 100000 in
theorem sFlag (p : Int) (w : World) : Calls Tryz.prog 83 #[.int .i64 p] w fun e w' => e = .returned (.bool (flg p)) ∧ w' = w := by
  by_cases h : 7760 ≤ p
  · have HR := hide (show flg p = decide (p ≤ 7785) by unfold flg; simp [h])
    go_enter Tryz.func83, Tryz.ntmps83
    go_wp2
    go_ret
    exact ⟨by rw [unhide HR]; rfl, rfl⟩
  · have HR := hide (show flg p = false by unfold flg; simp; omega)
    go_enter Tryz.func83, Tryz.ntmps83
    go_wp2
    go_ret
    exact ⟨by rw [unhide HR]; rfl, rfl⟩
/-- The stretches in which the part of a point is one. -/
theorem prt_at (p : Int) : (p < 1792 ∧ prt p = 0) ∨ (1792 ≤ p ∧ p ≤ 1810 ∧ prt p = 1) ∨ (1810 < p ∧ p < 1824 ∧ prt p = 0) ∨ (1824 ≤ p ∧ p ≤ 1844 ∧ prt p = 2) ∨ (1844 < p ∧ p < 1857 ∧ prt p = 0) ∨ (1857 ≤ p ∧ p ≤ 1883 ∧ prt p = 3) ∨ (1883 < p ∧ p < 12288 ∧ prt p = 0) ∨ (12288 ≤ p ∧ p ≤ 23459 ∧ (p - 12288) % 28 = 0 ∧ prt p = 4) ∨ (12288 ≤ p ∧ p ≤ 23459 ∧ ¬ (p - 12288) % 28 = 0 ∧ prt p = 5) ∨ (23459 < p ∧ prt p = 0) := by
  have h : p < 1792 ∨ (1792 ≤ p ∧ p ≤ 1810) ∨ (1810 < p ∧ p < 1824) ∨ (1824 ≤ p ∧ p ≤ 1844) ∨ (1844 < p ∧ p < 1857) ∨ (1857 ≤ p ∧ p ≤ 1883) ∨ (1883 < p ∧ p < 12288) ∨ (12288 ≤ p ∧ p ≤ 23459 ∧ (p - 12288) % 28 = 0) ∨ (12288 ≤ p ∧ p ≤ 23459 ∧ ¬ (p - 12288) % 28 = 0) ∨ 23459 < p := by omega
  have hd : ∀ q : Prop, [Decidable q] → (q → decide q = true) ∧ (¬ q → decide q = false) := fun q _ => ⟨fun h => by simp [h], fun h => by simp [h]⟩
  rcases h with h | ⟨h, k⟩ | ⟨h, k⟩ | ⟨h, k⟩ | ⟨h, k⟩ | ⟨h, k⟩ | ⟨h, k⟩ | ⟨h, k, m⟩ | ⟨h, k, m⟩ | h
  · refine .inl ⟨h, ?_⟩
    unfold prt led vow tai sil
    rw [(hd (1792 ≤ p)).2 (by omega), (hd (1824 ≤ p)).2 (by omega), (hd (1857 ≤ p)).2 (by omega), (hd (12288 ≤ p)).2 (by omega)]; rfl
  · refine .inr (.inl ⟨h, k, ?_⟩)
    unfold prt led
    rw [(hd (1792 ≤ p)).1 (by omega), (hd (p ≤ 1810)).1 (by omega)]; rfl
  · refine .inr (.inr (.inl ⟨h, k, ?_⟩))
    unfold prt led vow tai sil
    rw [(hd (p ≤ 1810)).2 (by omega), (hd (1824 ≤ p)).2 (by omega), (hd (1857 ≤ p)).2 (by omega), (hd (12288 ≤ p)).2 (by omega)]; simp
  · refine .inr (.inr (.inr (.inl ⟨h, k, ?_⟩)))
    unfold prt led vow
    rw [(hd (p ≤ 1810)).2 (by omega), (hd (1824 ≤ p)).1 (by omega), (hd (p ≤ 1844)).1 (by omega)]; simp
  · refine .inr (.inr (.inr (.inr (.inl ⟨h, k, ?_⟩))))
    unfold prt led vow tai sil
    rw [(hd (p ≤ 1810)).2 (by omega), (hd (p ≤ 1844)).2 (by omega), (hd (1857 ≤ p)).2 (by omega), (hd (12288 ≤ p)).2 (by omega)]; simp
  · refine .inr (.inr (.inr (.inr (.inr (.inl ⟨h, k, ?_⟩)))))
    unfold prt led vow tai
    rw [(hd (p ≤ 1810)).2 (by omega), (hd (p ≤ 1844)).2 (by omega), (hd (1857 ≤ p)).1 (by omega), (hd (p ≤ 1883)).1 (by omega)]; simp
  · refine .inr (.inr (.inr (.inr (.inr (.inr (.inl ⟨h, k, ?_⟩))))))
    unfold prt led vow tai sil
    rw [(hd (p ≤ 1810)).2 (by omega), (hd (p ≤ 1844)).2 (by omega), (hd (p ≤ 1883)).2 (by omega), (hd (12288 ≤ p)).2 (by omega)]; simp
  · refine .inr (.inr (.inr (.inr (.inr (.inr (.inr (.inl ⟨h, k, m, ?_⟩)))))))
    unfold prt led vow tai sil
    rw [(hd (p ≤ 1810)).2 (by omega), (hd (p ≤ 1844)).2 (by omega), (hd (p ≤ 1883)).2 (by omega), (hd (12288 ≤ p)).1 (by omega), (hd (p ≤ 23459)).1 (by omega)]; simp [m]
  · refine .inr (.inr (.inr (.inr (.inr (.inr (.inr (.inr (.inl ⟨h, k, m, ?_⟩))))))))
    unfold prt led vow tai sil
    rw [(hd (p ≤ 1810)).2 (by omega), (hd (p ≤ 1844)).2 (by omega), (hd (p ≤ 1883)).2 (by omega), (hd (12288 ≤ p)).1 (by omega), (hd (p ≤ 23459)).1 (by omega)]; simp [m]
  · refine .inr (.inr (.inr (.inr (.inr (.inr (.inr (.inr (.inr ⟨h, ?_⟩))))))))
    unfold prt led vow tai sil
    rw [(hd (p ≤ 1810)).2 (by omega), (hd (p ≤ 1844)).2 (by omega), (hd (p ≤ 1883)).2 (by omega), (hd (p ≤ 23459)).2 (by omega)]; simp
set_option maxRecDepth 100000 in
theorem sPart (p : Int) (w : World) : Calls Tryz.prog 94 #[.int .i64 p] w fun e w' => e = .returned (.int .i64 (prt p)) ∧ w' = w := by
  obtain ⟨r, hr⟩ : ∃ r, (p - 12288) % 28 = r := ⟨_, rfl⟩
  rcases prt_at p with ⟨h1, e⟩ | ⟨h1, h2, e⟩ | ⟨h1, h2, e⟩ | ⟨h1, h2, e⟩ | ⟨h1, h2, e⟩ | ⟨h1, h2, e⟩ | ⟨h1, h2, e⟩ | ⟨h1, h2, h3, e⟩ | ⟨h1, h2, h3, e⟩ | ⟨h1, e⟩
  all_goals have HE := hide e; clear e
  · have k1 : ¬ 1792 ≤ p := by omega
    have k2 : ¬ 1824 ≤ p := by omega
    have k3 : ¬ 1857 ≤ p := by omega
    have k4 : ¬ 12288 ≤ p := by omega
    clear hr
    go_enter Tryz.func94, Tryz.ntmps94
    go_wp2
    go_ret
    exact ⟨by rw [unhide HE]; rfl, rfl⟩
  · clear hr
    go_enter Tryz.func94, Tryz.ntmps94
    go_wp2
    go_ret
    exact ⟨by rw [unhide HE]; rfl, rfl⟩
  · have k1 : 1792 ≤ p := by omega
    have k2 : ¬ 1824 ≤ p := by omega
    have k3 : ¬ 1857 ≤ p := by omega
    have k4 : ¬ 12288 ≤ p := by omega
    have k5 : ¬ p ≤ 1810 := by omega
    clear hr
    go_enter Tryz.func94, Tryz.ntmps94
    go_wp2
    go_ret
    exact ⟨by rw [unhide HE]; rfl, rfl⟩
  · have k1 : 1792 ≤ p := by omega
    have k5 : ¬ p ≤ 1810 := by omega
    clear hr
    go_enter Tryz.func94, Tryz.ntmps94
    go_wp2
    go_ret
    exact ⟨by rw [unhide HE]; rfl, rfl⟩
  · have k1 : 1792 ≤ p := by omega
    have k5 : ¬ p ≤ 1810 := by omega
    have k2 : 1824 ≤ p := by omega
    have k6 : ¬ p ≤ 1844 := by omega
    have k3 : ¬ 1857 ≤ p := by omega
    have k4 : ¬ 12288 ≤ p := by omega
    clear hr
    go_enter Tryz.func94, Tryz.ntmps94
    go_wp2
    go_ret
    exact ⟨by rw [unhide HE]; rfl, rfl⟩
  · have k1 : 1792 ≤ p := by omega
    have k5 : ¬ p ≤ 1810 := by omega
    have k2 : 1824 ≤ p := by omega
    have k6 : ¬ p ≤ 1844 := by omega
    clear hr
    go_enter Tryz.func94, Tryz.ntmps94
    go_wp2
    go_ret
    exact ⟨by rw [unhide HE]; rfl, rfl⟩
  · have k1 : 1792 ≤ p := by omega
    have k5 : ¬ p ≤ 1810 := by omega
    have k2 : 1824 ≤ p := by omega
    have k6 : ¬ p ≤ 1844 := by omega
    have k3 : 1857 ≤ p := by omega
    have k7 : ¬ p ≤ 1883 := by omega
    have k4 : ¬ 12288 ≤ p := by omega
    clear hr
    go_enter Tryz.func94, Tryz.ntmps94
    go_wp2
    go_ret
    exact ⟨by rw [unhide HE]; rfl, rfl⟩
  · have k1 : 1792 ≤ p := by omega
    have k5 : ¬ p ≤ 1810 := by omega
    have k2 : 1824 ≤ p := by omega
    have k6 : ¬ p ≤ 1844 := by omega
    have k3 : 1857 ≤ p := by omega
    have k7 : ¬ p ≤ 1883 := by omega
    have e1 : (p - 12288).tmod 28 = 0 := by rw [Int.tmod_eq_emod_of_nonneg (by omega)]; exact h3
    clear hr h3
    go_enter Tryz.func94, Tryz.ntmps94
    go_wp2
    go_ret
    exact ⟨by rw [unhide HE]; rfl, rfl⟩
  · have k1 : 1792 ≤ p := by omega
    have k5 : ¬ p ≤ 1810 := by omega
    have k2 : 1824 ≤ p := by omega
    have k6 : ¬ p ≤ 1844 := by omega
    have k3 : 1857 ≤ p := by omega
    have k7 : ¬ p ≤ 1883 := by omega
    have e1 : (p - 12288).tmod 28 = r := by rw [Int.tmod_eq_emod_of_nonneg (by omega)]; exact hr
    have e2 : (r == 0) = false := by rw [beq_eq_false_iff_ne]; omega
    clear hr h3
    go_enter Tryz.func94, Tryz.ntmps94
    go_wp2
    go_ret
    exact ⟨by rw [unhide HE]; rfl, rfl⟩
  · have k1 : 1792 ≤ p := by omega
    have k5 : ¬ p ≤ 1810 := by omega
    have k2 : 1824 ≤ p := by omega
    have k6 : ¬ p ≤ 1844 := by omega
    have k3 : 1857 ≤ p := by omega
    have k7 : ¬ p ≤ 1883 := by omega
    have k4 : 12288 ≤ p := by omega
    have k8 : ¬ p ≤ 23459 := by omega
    clear hr
    go_enter Tryz.func94, Tryz.ntmps94
    go_wp2
    go_ret
    exact ⟨by rw [unhide HE]; rfl, rfl⟩
theorem prt_in (p : Int) : prt p = 0 ∨ prt p = 1 ∨ prt p = 2 ∨ prt p = 3 ∨ prt p = 4 ∨ prt p = 5 := by
  rcases prt_at p with ⟨_, e⟩ | ⟨_, _, e⟩ | ⟨_, _, e⟩ | ⟨_, _, e⟩ | ⟨_, _, e⟩ | ⟨_, _, e⟩ | ⟨_, _, e⟩ | ⟨_, _, _, e⟩ | ⟨_, _, _, e⟩ | ⟨_, e⟩ <;> simp [e]
set_option maxRecDepth 100000 in
set_option maxHeartbeats 4000000 in
theorem sSyllable (a b : Int) (w : World) : Calls Tryz.prog 80 #[.int .i64 a, .int .i64 b] w fun e w' => e = .returned (.bool (sylS a b)) ∧ w' = w := by
  have CA := hide (fun W => sPart a W)
  have CB := hide (fun W => sPart b W)
  have HR : Hid (sylS a b = sylP (prt a) (prt b)) := hide rfl
  generalize sylS a b = S at *
  rcases prt_in a with ha | ha | ha | ha | ha | ha <;> rcases prt_in b with hb | hb | hb | hb | hb | hb
  all_goals
    rw [ha] at CA HR
    rw [hb] at CB HR
    clear ha hb
    go_enter Tryz.func80, Tryz.ntmps80
    go_wp2_with (first | (go_at_call_of 94 a; refine ((unhide CA) _).mono ?_; rintro e w2 ⟨rfl, rfl⟩) | (go_at_call_of 94 b; refine ((unhide CB) _).mono ?_; rintro e w2 ⟨rfl, rfl⟩))
    go_ret
    exact ⟨by rw [unhide HR]; rfl, rfl⟩
end Chr
end Go.Proofs.YtbaedapnikhdgaaGreatDoor
