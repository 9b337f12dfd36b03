/- The classes of points of directions, as the program tells them. -/
import Derived.Test.YtheakbjddonknaaDoorBasP
import Derived.Test.YtheakbjddonknaaDoorChrI
namespace Go.Proofs.YtheakbjddonknaaDoor.Bs
open Go.RowKit Chr
set_option linter.unusedVariables false
set_option maxHeartbeats 2000000 in
set_option maxRecDepth 100000 in
theorem byCat_any (p : Int) (w : World) (ht : TabAt w) : Calls Tryd.prog 23 #[.int .i64 p] w fun e w' => e = .returned (.int .i64 (clC p)) ∧ Below w.heap.size w w' := by
  have CS := hide (scrI_any p w ht)
  have CC : Hid (∀ w', TabAt w' → Calls Tryd.prog 28 #[.int .i64 p] w' fun e w'' => e = .returned (.int .i64 (cat p)) ∧ Below w'.heap.size w' w'') := hide (fun w' h' => by
    have := implCat p w' h'
    rw [cat_i] at this
    exact this)
  have H := hide ht
  clear ht
  obtain ⟨c, EC⟩ : ∃ c, cat p = c := ⟨_, rfl⟩
  obtain ⟨s, ES⟩ : ∃ s, scr p = s := ⟨_, rfl⟩
  rw [EC] at CC
  rw [ES] at CS
  by_cases q8 : c = 8
  · subst q8
    by_cases q5 : s = 5
    · subst q5
      have R : Hid (clC p = 3) := hide (by unfold clC; rw [EC, ES]; rfl)
      clear EC ES
      go_enter Tryd.func23, Tryd.ntmps23
      go_wp2_with fail
      refine (unhide CS).mono ?_
      rintro e w1 ⟨rfl, hb1⟩
      have B1 := hide hb1
      have T1 := hide ((unhide H).below hb1)
      clear hb1 CS
      go_wp2_with fail
      refine (unhide CC w1 (unhide T1)).mono ?_
      rintro e w2 ⟨rfl, hb2⟩
      have B2 := hide ((unhide B1).trans (hb2.mono (unhide B1).size))
      clear hb2 CC B1
      go_wp2
      go_ret
      rw [unhide R]
      exact ⟨rfl, unhide B2⟩
    · have z5 : (s == 5) = false := by simpa using q5
      have R : Hid (clC p = 4) := hide (by unfold clC; rw [EC, ES]; rw [if_pos rfl, if_neg q5])
      clear EC ES
      go_enter Tryd.func23, Tryd.ntmps23
      go_wp2_with fail
      refine (unhide CS).mono ?_
      rintro e w1 ⟨rfl, hb1⟩
      have B1 := hide hb1
      have T1 := hide ((unhide H).below hb1)
      clear hb1 CS
      go_wp2_with fail
      refine (unhide CC w1 (unhide T1)).mono ?_
      rintro e w2 ⟨rfl, hb2⟩
      have B2 := hide ((unhide B1).trans (hb2.mono (unhide B1).size))
      clear hb2 CC B1
      go_wp2
      go_ret
      rw [unhide R]
      exact ⟨rfl, unhide B2⟩
  have z8 : (c == 8) = false := by simpa using q8
  by_cases q2 : c = 2
  · subst q2
    have R : Hid (clC p = 8) := hide (by unfold clC; rw [EC, ES]; rfl)
    clear EC ES
    go_enter Tryd.func23, Tryd.ntmps23
    go_wp2_with fail
    refine (unhide CS).mono ?_
    rintro e w1 ⟨rfl, hb1⟩
    have B1 := hide hb1
    have T1 := hide ((unhide H).below hb1)
    clear hb1 CS
    go_wp2_with fail
    refine (unhide CC w1 (unhide T1)).mono ?_
    rintro e w2 ⟨rfl, hb2⟩
    have B2 := hide ((unhide B1).trans (hb2.mono (unhide B1).size))
    clear hb2 CC B1
    go_wp2
    go_ret
    rw [unhide R]
    exact ⟨rfl, unhide B2⟩
  have z2 : (c == 2) = false := by simpa using q2
  by_cases q3 : c = 3
  · subst q3
    have R : Hid (clC p = 9) := hide (by unfold clC; rw [EC, ES]; rfl)
    clear EC ES
    go_enter Tryd.func23, Tryd.ntmps23
    go_wp2_with fail
    refine (unhide CS).mono ?_
    rintro e w1 ⟨rfl, hb1⟩
    have B1 := hide hb1
    have T1 := hide ((unhide H).below hb1)
    clear hb1 CS
    go_wp2_with fail
    refine (unhide CC w1 (unhide T1)).mono ?_
    rintro e w2 ⟨rfl, hb2⟩
    have B2 := hide ((unhide B1).trans (hb2.mono (unhide B1).size))
    clear hb2 CC B1
    go_wp2
    go_ret
    rw [unhide R]
    exact ⟨rfl, unhide B2⟩
  have z3 : (c == 3) = false := by simpa using q3
  by_cases q1 : c = 1
  · subst q1
    have R : Hid (clC p = 19) := hide (by unfold clC; rw [EC, ES]; rfl)
    clear EC ES
    go_enter Tryd.func23, Tryd.ntmps23
    go_wp2_with fail
    refine (unhide CS).mono ?_
    rintro e w1 ⟨rfl, hb1⟩
    have B1 := hide hb1
    have T1 := hide ((unhide H).below hb1)
    clear hb1 CS
    go_wp2_with fail
    refine (unhide CC w1 (unhide T1)).mono ?_
    rintro e w2 ⟨rfl, hb2⟩
    have B2 := hide ((unhide B1).trans (hb2.mono (unhide B1).size))
    clear hb2 CC B1
    go_wp2
    go_ret
    rw [unhide R]
    exact ⟨rfl, unhide B2⟩
  have z1 : (c == 1) = false := by simpa using q1
  by_cases q11 : c = 11
  · subst q11
    have R : Hid (clC p = 19) := hide (by unfold clC; rw [EC, ES]; rfl)
    clear EC ES
    go_enter Tryd.func23, Tryd.ntmps23
    go_wp2_with fail
    refine (unhide CS).mono ?_
    rintro e w1 ⟨rfl, hb1⟩
    have B1 := hide hb1
    have T1 := hide ((unhide H).below hb1)
    clear hb1 CS
    go_wp2_with fail
    refine (unhide CC w1 (unhide T1)).mono ?_
    rintro e w2 ⟨rfl, hb2⟩
    have B2 := hide ((unhide B1).trans (hb2.mono (unhide B1).size))
    clear hb2 CC B1
    go_wp2
    go_ret
    rw [unhide R]
    exact ⟨rfl, unhide B2⟩
  have z11 : (c == 11) = false := by simpa using q11
  have CN : Hid (∀ s : Int, (if c = 8 then (if s = 5 then (3 : Int) else 4) else if c = 2 then 8 else if c = 3 then 9 else if c = 1 ∨ c = 11 then 19 else if s = 0 then 20 else if s = 5 then 2 else 1) = if s = 0 then 20 else if s = 5 then 2 else 1) := hide (fun s => by rw [if_neg q8, if_neg q2, if_neg q3, if_neg (by omega)])
  by_cases q0 : s = 0
  · subst q0
    have R : Hid (clC p = 20) := hide (by unfold clC; rw [EC, ES]; rw [unhide CN]; rfl)
    clear EC ES
    go_enter Tryd.func23, Tryd.ntmps23
    go_wp2_with fail
    refine (unhide CS).mono ?_
    rintro e w1 ⟨rfl, hb1⟩
    have B1 := hide hb1
    have T1 := hide ((unhide H).below hb1)
    clear hb1 CS
    go_wp2_with fail
    refine (unhide CC w1 (unhide T1)).mono ?_
    rintro e w2 ⟨rfl, hb2⟩
    have B2 := hide ((unhide B1).trans (hb2.mono (unhide B1).size))
    clear hb2 CC B1
    go_wp2
    go_ret
    rw [unhide R]
    exact ⟨rfl, unhide B2⟩
  have z0 : (s == 0) = false := by simpa using q0
  by_cases q5 : s = 5
  · subst q5
    have R : Hid (clC p = 2) := hide (by unfold clC; rw [EC, ES]; rw [unhide CN]; rfl)
    clear EC ES
    go_enter Tryd.func23, Tryd.ntmps23
    go_wp2_with fail
    refine (unhide CS).mono ?_
    rintro e w1 ⟨rfl, hb1⟩
    have B1 := hide hb1
    have T1 := hide ((unhide H).below hb1)
    clear hb1 CS
    go_wp2_with fail
    refine (unhide CC w1 (unhide T1)).mono ?_
    rintro e w2 ⟨rfl, hb2⟩
    have B2 := hide ((unhide B1).trans (hb2.mono (unhide B1).size))
    clear hb2 CC B1
    go_wp2
    go_ret
    rw [unhide R]
    exact ⟨rfl, unhide B2⟩
  have z5 : (s == 5) = false := by simpa using q5
  have R : Hid (clC p = 1) := hide (by unfold clC; rw [EC, ES]; rw [unhide CN, if_neg q0, if_neg q5])
  clear EC ES
  go_enter Tryd.func23, Tryd.ntmps23
  go_wp2_with fail
  refine (unhide CS).mono ?_
  rintro e w1 ⟨rfl, hb1⟩
  have B1 := hide hb1
  have T1 := hide ((unhide H).below hb1)
  clear hb1 CS
  go_wp2_with fail
  refine (unhide CC w1 (unhide T1)).mono ?_
  rintro e w2 ⟨rfl, hb2⟩
  have B2 := hide ((unhide B1).trans (hb2.mono (unhide B1).size))
  clear hb2 CC B1
  go_wp2
  go_ret
  rw [unhide R]
  exact ⟨rfl, unhide B2⟩
set_option maxHeartbeats 2000000 in
set_option maxRecDepth 100000 in
theorem dirClass_any (p : Int) (w : World) (ht : TabAt w) : Calls Tryd.prog 16 #[.int .i64 p] w fun e w' => e = .returned (.int .i64 (clI p)) ∧ Below w.heap.size w w' := by
  have CB := hide (byCat_any p w ht)
  clear ht
  by_cases h43 : p = 43
  · subst h43
    go_enter Tryd.func16, Tryd.ntmps16
    go_wp2
    go_ret
    exact ⟨rfl, Below.refl _ _⟩
  have z43 : (p == 43) = false := by simpa using h43
  by_cases h45 : p = 45
  · subst h45
    go_enter Tryd.func16, Tryd.ntmps16
    go_wp2
    go_ret
    exact ⟨rfl, Below.refl _ _⟩
  have z45 : (p == 45) = false := by simpa using h45
  by_cases h44 : p = 44
  · subst h44
    go_enter Tryd.func16, Tryd.ntmps16
    go_wp2
    go_ret
    exact ⟨rfl, Below.refl _ _⟩
  have z44 : (p == 44) = false := by simpa using h44
  by_cases h46 : p = 46
  · subst h46
    go_enter Tryd.func16, Tryd.ntmps16
    go_wp2
    go_ret
    exact ⟨rfl, Below.refl _ _⟩
  have z46 : (p == 46) = false := by simpa using h46
  by_cases h58 : p = 58
  · subst h58
    go_enter Tryd.func16, Tryd.ntmps16
    go_wp2
    go_ret
    exact ⟨rfl, Below.refl _ _⟩
  have z58 : (p == 58) = false := by simpa using h58
  by_cases h47 : p = 47
  · subst h47
    go_enter Tryd.func16, Tryd.ntmps16
    go_wp2
    go_ret
    exact ⟨rfl, Below.refl _ _⟩
  have z47 : (p == 47) = false := by simpa using h47
  by_cases h10 : p = 10
  · subst h10
    go_enter Tryd.func16, Tryd.ntmps16
    go_wp2
    go_ret
    exact ⟨rfl, Below.refl _ _⟩
  have z10 : (p == 10) = false := by simpa using h10
  by_cases h13 : p = 13
  · subst h13
    go_enter Tryd.func16, Tryd.ntmps16
    go_wp2
    go_ret
    exact ⟨rfl, Below.refl _ _⟩
  have z13 : (p == 13) = false := by simpa using h13
  by_cases h9 : p = 9
  · subst h9
    go_enter Tryd.func16, Tryd.ntmps16
    go_wp2
    go_ret
    exact ⟨rfl, Below.refl _ _⟩
  have z9 : (p == 9) = false := by simpa using h9
  by_cases h7947 : p = 7947
  · subst h7947
    go_enter Tryd.func16, Tryd.ntmps16
    go_wp2
    go_ret
    exact ⟨rfl, Below.refl _ _⟩
  have z7947 : (p == 7947) = false := by simpa using h7947
  by_cases hf : 7938 ≤ p ∧ p ≤ 7946
  · obtain ⟨f1, f2⟩ := hf
    have R : Hid (clI p = 10 + p - 7938) := hide (by unfold clI; rw [if_neg (by omega), if_neg (by omega), if_neg (by omega), if_neg (by omega), if_neg (by omega), if_pos (by omega)])
    go_enter Tryd.func16, Tryd.ntmps16
    go_wp2_with fail
    refine (cw_any p 7938 7946 _).mono ?_
    rintro e w1 ⟨rfl, rfl⟩
    rw [show (decide ((7938 : Int) ≤ p) && decide (p ≤ 7946)) = true by simp [f1, f2]]
    go_wp2
    go_ret
    rw [unhide R]
    exact ⟨rfl, Below.refl _ _⟩
  · have R : Hid (clI p = clC p) := hide (by unfold clI; rw [if_neg (by omega), if_neg (by omega), if_neg (by omega), if_neg (by omega), if_neg (by omega), if_neg hf])
    have hfb : (decide ((7938 : Int) ≤ p) && decide (p ≤ 7946)) = false := by
      cases h : (decide ((7938 : Int) ≤ p) && decide (p ≤ 7946))
      · rfl
      · simp at h; exact absurd h hf
    go_enter Tryd.func16, Tryd.ntmps16
    go_wp2_with fail
    refine (cw_any p 7938 7946 _).mono ?_
    rintro e w1 ⟨rfl, rfl⟩
    rw [hfb]
    go_wp2_with fail
    refine (unhide CB).mono ?_
    rintro e w1 ⟨rfl, hb⟩
    have HB := hide hb
    clear hb CB
    go_wp2
    go_ret
    rw [unhide R]
    exact ⟨rfl, unhide HB⟩
theorem isIso_any (c : Int) (w : World) : Calls Tryd.prog 15 #[.int .i64 c] w fun e w' => e = .returned (.bool (decide (15 ≤ c ∧ c ≤ 17))) ∧ w' = w := by
  by_cases h1 : c = 15
  · subst h1; go_enter Tryd.func15, Tryd.ntmps15; go_wp2; go_ret; simp
  by_cases h2 : c = 16
  · subst h2; go_enter Tryd.func15, Tryd.ntmps15; go_wp2; go_ret; simp
  by_cases h3 : c = 17
  · subst h3; go_enter Tryd.func15, Tryd.ntmps15; go_wp2; go_ret; simp
  have z1 : (c == 15) = false := by simpa using h1
  have z2 : (c == 16) = false := by simpa using h2
  have z3 : (c == 17) = false := by simpa using h3
  have hd : decide (15 ≤ c ∧ c ≤ 17) = false := decide_eq_false (by omega)
  go_enter Tryd.func15, Tryd.ntmps15
  go_wp2
  go_ret
  rw [hd]
  exact ⟨rfl, rfl⟩
end Go.Proofs.YtheakbjddonknaaDoor.Bs
