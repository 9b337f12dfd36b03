/- The classes of points of directions, as the specification tells them. -/
import Derived.Test.YtheakbjddonknaaDoorBasN
namespace Go.Proofs.YtheakbjddonknaaDoor.Bs
open Go.RowKit Chr
set_option linter.unusedVariables false
set_option maxRecDepth 100000 in
set_option maxHeartbeats 1000000 in
theorem l09Class_any (p : Int) (w : World) : Calls Tryd.prog 13 #[.int .i64 p] w fun e w' => e = .returned (.int .i64 (clS p)) ∧ Below w.heap.size w w' := by
  have CC := hide (sCat p w)
  have CS : Hid (∀ w', Calls Tryd.prog 20 #[.int .i64 p] w' fun e w'' => e = .returned (.int .i64 (scr p)) ∧ Below w'.heap.size w' w'') := hide (fun w' => scrS_any p w')
  have IN : Hid (∀ w', Calls Tryd.prog 21 #[.int .i64 p, .string ⟨#[44, 46, 58, 47]⟩] w' fun e w'' => e = .returned (.bool (sep p)) ∧ w'' = w') := hide (fun w' => in_sep p w')
  obtain ⟨c, EC⟩ : ∃ c, cat p = c := ⟨_, rfl⟩
  obtain ⟨s, ES⟩ : ∃ s, scr p = s := ⟨_, rfl⟩
  have CL : Hid (clS p = (if p = 10 ∨ p = 13 then 6 else if c = 2 ∨ p = 9 then 7 else if 7938 ≤ p ∧ p ≤ 7946 then 11 + p - 7938 else if p = 7947 then 1
  else if c = 8 ∧ s = 5 then 3 else if c = 8 then 2 else if p = 43 ∨ p = 45 then 4 else if p = 44 ∨ p = 46 ∨ p = 58 ∨ p = 47 then 5
  else if c = 3 then 9 else if c = 1 ∨ c = 11 then 10 else if s = 5 then 1 else if 0 < s then 0 else 8)) := hide (by unfold clS; rw [EC, ES])
  rw [EC] at CC
  rw [ES] at CS
  clear EC ES
  by_cases h10 : p = 10
  · have y10 : (p == 10) = true := by simpa using h10
    have R : Hid (clS p = 6) := hide (by rw [unhide CL, if_pos (by omega)])
    clear h10
    clear CL
    go_enter Tryd.func13, Tryd.ntmps13
    go_wp2_with fail
    refine (unhide CC).mono ?_
    rintro e w1 ⟨rfl, hb⟩
    have B0 := hide hb
    clear hb CC
    go_wp2
    go_ret
    rw [unhide R]
    exact ⟨rfl, unhide B0⟩
  have z10 : (p == 10) = false := by simpa using h10
  by_cases h13 : p = 13
  · have y13 : (p == 13) = true := by simpa using h13
    have R : Hid (clS p = 6) := hide (by rw [unhide CL, if_pos (by omega)])
    clear h13
    clear CL
    go_enter Tryd.func13, Tryd.ntmps13
    go_wp2_with fail
    refine (unhide CC).mono ?_
    rintro e w1 ⟨rfl, hb⟩
    have B0 := hide hb
    clear hb CC
    go_wp2
    go_ret
    rw [unhide R]
    exact ⟨rfl, unhide B0⟩
  have z13 : (p == 13) = false := by simpa using h13
  by_cases q2 : c = 2
  · subst q2
    have R : Hid (clS p = 7) := hide (by rw [unhide CL]; rw [if_neg (by omega), if_pos (by omega)])
    clear CL
    go_enter Tryd.func13, Tryd.ntmps13
    go_wp2_with fail
    refine (unhide CC).mono ?_
    rintro e w1 ⟨rfl, hb⟩
    have B0 := hide hb
    clear hb CC
    go_wp2
    go_ret
    rw [unhide R]
    exact ⟨rfl, unhide B0⟩
  have z2 : (c == 2) = false := by simpa using q2
  by_cases h9 : p = 9
  · have y9 : (p == 9) = true := by simpa using h9
    have R : Hid (clS p = 7) := hide (by rw [unhide CL]; rw [if_neg (by omega), if_pos (by omega)])
    clear h9
    clear CL
    go_enter Tryd.func13, Tryd.ntmps13
    go_wp2_with fail
    refine (unhide CC).mono ?_
    rintro e w1 ⟨rfl, hb⟩
    have B0 := hide hb
    clear hb CC
    go_wp2
    go_ret
    rw [unhide R]
    exact ⟨rfl, unhide B0⟩
  have z9 : (p == 9) = false := by simpa using h9
  by_cases hf : 7938 ≤ p ∧ p ≤ 7946
  · obtain ⟨f1, f2⟩ := hf
    have R : Hid (clS p = 11 + p - 7938) := hide (by rw [unhide CL]; rw [if_neg (by omega), if_neg (by omega), if_pos (by omega)])
    clear CL
    go_enter Tryd.func13, Tryd.ntmps13
    go_wp2_with fail
    refine (unhide CC).mono ?_
    rintro e w1 ⟨rfl, hb⟩
    have B0 := hide hb
    clear hb CC
    go_wp2
    go_ret
    rw [unhide R]
    exact ⟨rfl, unhide B0⟩
  have hf2 : p < 7938 ∨ 7946 < p := by omega
  have CL3 : Hid (clS p = (if p = 7947 then 1 else if c = 8 ∧ s = 5 then 3 else if c = 8 then 2 else if p = 43 ∨ p = 45 then 4 else if p = 44 ∨ p = 46 ∨ p = 58 ∨ p = 47 then 5 else if c = 3 then 9 else if c = 1 ∨ c = 11 then 10 else if s = 5 then 1 else if 0 < s then 0 else 8)) := hide (by rw [unhide CL, if_neg (by omega), if_neg (by omega), if_neg hf])
  clear CL hf
  have CL := CL3
  clear CL3
  rcases hf2 with f | f
  · have f' : ¬ 7938 ≤ p := by omega
    by_cases hB : p = 7947
    · have yB : (p == 7947) = true := by simpa using hB
      have R : Hid (clS p = 1) := hide (by rw [unhide CL, if_pos hB])
      clear hB
      clear CL
      go_enter Tryd.func13, Tryd.ntmps13
      go_wp2_with fail
      refine (unhide CC).mono ?_
      rintro e w1 ⟨rfl, hb⟩
      have B0 := hide hb
      clear hb CC
      go_wp2
      go_ret
      rw [unhide R]
      exact ⟨rfl, unhide B0⟩
    have zB : (p == 7947) = false := by simpa using hB
    by_cases q8 : c = 8
    · subst q8
      by_cases q5 : s = 5
      · subst q5
        have R : Hid (clS p = 3) := hide (by rw [unhide CL]; rw [if_neg hB, if_pos ⟨rfl, rfl⟩])
        clear CL
        go_enter Tryd.func13, Tryd.ntmps13
        go_wp2_with fail
        refine (unhide CC).mono ?_
        rintro e w1 ⟨rfl, hb⟩
        have B0 := hide hb
        clear hb CC
        go_wp2_with fail
        refine (unhide CS _).mono ?_
        rintro e w2 ⟨rfl, hb⟩
        have B1 := hide ((unhide B0).trans (hb.mono (unhide B0).size))
        clear hb B0
        go_wp2
        go_ret
        rw [unhide R]
        exact ⟨rfl, unhide B1⟩
      · have z5 : (s == 5) = false := by simpa using q5
        have R : Hid (clS p = 2) := hide (by rw [unhide CL]; rw [if_neg hB, if_neg (by intro h; exact q5 h.2), if_pos rfl])
        clear CL
        go_enter Tryd.func13, Tryd.ntmps13
        go_wp2_with fail
        refine (unhide CC).mono ?_
        rintro e w1 ⟨rfl, hb⟩
        have B0 := hide hb
        clear hb CC
        go_wp2_with fail
        refine (unhide CS _).mono ?_
        rintro e w2 ⟨rfl, hb⟩
        have B1 := hide ((unhide B0).trans (hb.mono (unhide B0).size))
        clear hb B0
        go_wp2
        go_ret
        rw [unhide R]
        exact ⟨rfl, unhide B1⟩
    have z8 : (c == 8) = false := by simpa using q8
    by_cases h43 : p = 43
    · have y43 : (p == 43) = true := by simpa using h43
      have R : Hid (clS p = 4) := hide (by rw [unhide CL]; rw [if_neg hB, if_neg (by intro h; exact q8 h.1), if_neg q8, if_pos (by omega)])
      clear h43
      clear CL
      go_enter Tryd.func13, Tryd.ntmps13
      go_wp2_with fail
      refine (unhide CC).mono ?_
      rintro e w1 ⟨rfl, hb⟩
      have B0 := hide hb
      clear hb CC
      go_wp2
      go_ret
      rw [unhide R]
      exact ⟨rfl, unhide B0⟩
    have z43 : (p == 43) = false := by simpa using h43
    by_cases h45 : p = 45
    · have y45 : (p == 45) = true := by simpa using h45
      have R : Hid (clS p = 4) := hide (by rw [unhide CL]; rw [if_neg hB, if_neg (by intro h; exact q8 h.1), if_neg q8, if_pos (by omega)])
      clear h45
      clear CL
      go_enter Tryd.func13, Tryd.ntmps13
      go_wp2_with fail
      refine (unhide CC).mono ?_
      rintro e w1 ⟨rfl, hb⟩
      have B0 := hide hb
      clear hb CC
      go_wp2
      go_ret
      rw [unhide R]
      exact ⟨rfl, unhide B0⟩
    have z45 : (p == 45) = false := by simpa using h45
    cases hin : sep p
    · have hin2 : ¬ (p = 44 ∨ p = 46 ∨ p = 58 ∨ p = 47) := by simp [sep] at hin; omega
      by_cases q3 : c = 3
      · subst q3
        have R : Hid (clS p = 9) := hide (by rw [unhide CL]; rw [if_neg hB, if_neg (by intro h; exact q8 h.1), if_neg q8, if_neg (by omega), if_neg hin2]; rfl)
        clear CL
        go_enter Tryd.func13, Tryd.ntmps13
        go_wp2_with fail
        refine (unhide CC).mono ?_
        rintro e w1 ⟨rfl, hb⟩
        have B0 := hide hb
        clear hb CC
        go_wp2_with fail
        refine (unhide IN _).mono ?_
        rintro e wi0 ⟨rfl, rfl⟩
        rw [hin]
        go_wp2
        go_ret
        rw [unhide R]
        exact ⟨rfl, unhide B0⟩
      have z3 : (c == 3) = false := by simpa using q3
      by_cases q1 : c = 1
      · subst q1
        have R : Hid (clS p = 10) := hide (by rw [unhide CL]; rw [if_neg hB, if_neg (by intro h; exact q8 h.1), if_neg q8, if_neg (by omega), if_neg hin2]; rfl)
        clear CL
        go_enter Tryd.func13, Tryd.ntmps13
        go_wp2_with fail
        refine (unhide CC).mono ?_
        rintro e w1 ⟨rfl, hb⟩
        have B0 := hide hb
        clear hb CC
        go_wp2_with fail
        refine (unhide IN _).mono ?_
        rintro e wi0 ⟨rfl, rfl⟩
        rw [hin]
        go_wp2
        go_ret
        rw [unhide R]
        exact ⟨rfl, unhide B0⟩
      have z1 : (c == 1) = false := by simpa using q1
      by_cases q11 : c = 11
      · subst q11
        have R : Hid (clS p = 10) := hide (by rw [unhide CL]; rw [if_neg hB, if_neg (by intro h; exact q8 h.1), if_neg q8, if_neg (by omega), if_neg hin2]; rfl)
        clear CL
        go_enter Tryd.func13, Tryd.ntmps13
        go_wp2_with fail
        refine (unhide CC).mono ?_
        rintro e w1 ⟨rfl, hb⟩
        have B0 := hide hb
        clear hb CC
        go_wp2_with fail
        refine (unhide IN _).mono ?_
        rintro e wi0 ⟨rfl, rfl⟩
        rw [hin]
        go_wp2
        go_ret
        rw [unhide R]
        exact ⟨rfl, unhide B0⟩
      have z11 : (c == 11) = false := by simpa using q11
      by_cases q5 : s = 5
      · subst q5
        have R : Hid (clS p = 1) := hide (by rw [unhide CL]; rw [if_neg hB, if_neg (by intro h; exact q8 h.1), if_neg q8, if_neg (by omega), if_neg hin2, if_neg q3, if_neg (by omega)]; rfl)
        clear CL
        go_enter Tryd.func13, Tryd.ntmps13
        go_wp2_with fail
        refine (unhide CC).mono ?_
        rintro e w1 ⟨rfl, hb⟩
        have B0 := hide hb
        clear hb CC
        go_wp2_with fail
        refine (unhide IN _).mono ?_
        rintro e wi0 ⟨rfl, rfl⟩
        rw [hin]
        go_wp2_with fail
        refine (unhide CS _).mono ?_
        rintro e w2 ⟨rfl, hb⟩
        have B1 := hide ((unhide B0).trans (hb.mono (unhide B0).size))
        clear hb B0
        go_wp2
        go_ret
        rw [unhide R]
        exact ⟨rfl, unhide B1⟩
      have z5 : (s == 5) = false := by simpa using q5
      by_cases q0 : 0 < s
      · skip
        have R : Hid (clS p = 0) := hide (by rw [unhide CL]; rw [if_neg hB, if_neg (by intro h; exact q8 h.1), if_neg q8, if_neg (by omega), if_neg hin2, if_neg q3, if_neg (by omega), if_neg q5, if_pos q0])
        clear CL
        go_enter Tryd.func13, Tryd.ntmps13
        go_wp2_with fail
        refine (unhide CC).mono ?_
        rintro e w1 ⟨rfl, hb⟩
        have B0 := hide hb
        clear hb CC
        go_wp2_with fail
        refine (unhide IN _).mono ?_
        rintro e wi0 ⟨rfl, rfl⟩
        rw [hin]
        go_wp2_with fail
        refine (unhide CS _).mono ?_
        rintro e w2 ⟨rfl, hb⟩
        have B1 := hide ((unhide B0).trans (hb.mono (unhide B0).size))
        clear hb B0
        go_wp2_with fail
        refine (unhide CS _).mono ?_
        rintro e w3 ⟨rfl, hb⟩
        have B2 := hide ((unhide B1).trans (hb.mono (unhide B1).size))
        clear hb B1
        go_wp2
        go_ret
        rw [unhide R]
        exact ⟨rfl, unhide B2⟩
      · skip
        have R : Hid (clS p = 8) := hide (by rw [unhide CL]; rw [if_neg hB, if_neg (by intro h; exact q8 h.1), if_neg q8, if_neg (by omega), if_neg hin2, if_neg q3, if_neg (by omega), if_neg q5, if_neg q0])
        clear CL
        go_enter Tryd.func13, Tryd.ntmps13
        go_wp2_with fail
        refine (unhide CC).mono ?_
        rintro e w1 ⟨rfl, hb⟩
        have B0 := hide hb
        clear hb CC
        go_wp2_with fail
        refine (unhide IN _).mono ?_
        rintro e wi0 ⟨rfl, rfl⟩
        rw [hin]
        go_wp2_with fail
        refine (unhide CS _).mono ?_
        rintro e w2 ⟨rfl, hb⟩
        have B1 := hide ((unhide B0).trans (hb.mono (unhide B0).size))
        clear hb B0
        go_wp2_with fail
        refine (unhide CS _).mono ?_
        rintro e w3 ⟨rfl, hb⟩
        have B2 := hide ((unhide B1).trans (hb.mono (unhide B1).size))
        clear hb B1
        go_wp2
        go_ret
        rw [unhide R]
        exact ⟨rfl, unhide B2⟩
    · have hin2 : p = 44 ∨ p = 46 ∨ p = 58 ∨ p = 47 := by simp [sep] at hin; omega
      have R : Hid (clS p = 5) := hide (by rw [unhide CL]; rw [if_neg hB, if_neg (by intro h; exact q8 h.1), if_neg q8, if_neg (by omega), if_pos hin2])
      clear CL
      go_enter Tryd.func13, Tryd.ntmps13
      go_wp2_with fail
      refine (unhide CC).mono ?_
      rintro e w1 ⟨rfl, hb⟩
      have B0 := hide hb
      clear hb CC
      go_wp2_with fail
      refine (unhide IN _).mono ?_
      rintro e wi0 ⟨rfl, rfl⟩
      rw [hin]
      go_wp2
      go_ret
      rw [unhide R]
      exact ⟨rfl, unhide B0⟩
  · have f' : 7938 ≤ p := by omega
    have f'' : ¬ p ≤ 7946 := by omega
    by_cases hB : p = 7947
    · have yB : (p == 7947) = true := by simpa using hB
      have R : Hid (clS p = 1) := hide (by rw [unhide CL, if_pos hB])
      clear hB
      clear CL
      go_enter Tryd.func13, Tryd.ntmps13
      go_wp2_with fail
      refine (unhide CC).mono ?_
      rintro e w1 ⟨rfl, hb⟩
      have B0 := hide hb
      clear hb CC
      go_wp2
      go_ret
      rw [unhide R]
      exact ⟨rfl, unhide B0⟩
    have zB : (p == 7947) = false := by simpa using hB
    by_cases q8 : c = 8
    · subst q8
      by_cases q5 : s = 5
      · subst q5
        have R : Hid (clS p = 3) := hide (by rw [unhide CL]; rw [if_neg hB, if_pos ⟨rfl, rfl⟩])
        clear CL
        go_enter Tryd.func13, Tryd.ntmps13
        go_wp2_with fail
        refine (unhide CC).mono ?_
        rintro e w1 ⟨rfl, hb⟩
        have B0 := hide hb
        clear hb CC
        go_wp2_with fail
        refine (unhide CS _).mono ?_
        rintro e w2 ⟨rfl, hb⟩
        have B1 := hide ((unhide B0).trans (hb.mono (unhide B0).size))
        clear hb B0
        go_wp2
        go_ret
        rw [unhide R]
        exact ⟨rfl, unhide B1⟩
      · have z5 : (s == 5) = false := by simpa using q5
        have R : Hid (clS p = 2) := hide (by rw [unhide CL]; rw [if_neg hB, if_neg (by intro h; exact q5 h.2), if_pos rfl])
        clear CL
        go_enter Tryd.func13, Tryd.ntmps13
        go_wp2_with fail
        refine (unhide CC).mono ?_
        rintro e w1 ⟨rfl, hb⟩
        have B0 := hide hb
        clear hb CC
        go_wp2_with fail
        refine (unhide CS _).mono ?_
        rintro e w2 ⟨rfl, hb⟩
        have B1 := hide ((unhide B0).trans (hb.mono (unhide B0).size))
        clear hb B0
        go_wp2
        go_ret
        rw [unhide R]
        exact ⟨rfl, unhide B1⟩
    have z8 : (c == 8) = false := by simpa using q8
    by_cases h43 : p = 43
    · have y43 : (p == 43) = true := by simpa using h43
      have R : Hid (clS p = 4) := hide (by rw [unhide CL]; rw [if_neg hB, if_neg (by intro h; exact q8 h.1), if_neg q8, if_pos (by omega)])
      clear h43
      clear CL
      go_enter Tryd.func13, Tryd.ntmps13
      go_wp2_with fail
      refine (unhide CC).mono ?_
      rintro e w1 ⟨rfl, hb⟩
      have B0 := hide hb
      clear hb CC
      go_wp2
      go_ret
      rw [unhide R]
      exact ⟨rfl, unhide B0⟩
    have z43 : (p == 43) = false := by simpa using h43
    by_cases h45 : p = 45
    · have y45 : (p == 45) = true := by simpa using h45
      have R : Hid (clS p = 4) := hide (by rw [unhide CL]; rw [if_neg hB, if_neg (by intro h; exact q8 h.1), if_neg q8, if_pos (by omega)])
      clear h45
      clear CL
      go_enter Tryd.func13, Tryd.ntmps13
      go_wp2_with fail
      refine (unhide CC).mono ?_
      rintro e w1 ⟨rfl, hb⟩
      have B0 := hide hb
      clear hb CC
      go_wp2
      go_ret
      rw [unhide R]
      exact ⟨rfl, unhide B0⟩
    have z45 : (p == 45) = false := by simpa using h45
    cases hin : sep p
    · have hin2 : ¬ (p = 44 ∨ p = 46 ∨ p = 58 ∨ p = 47) := by simp [sep] at hin; omega
      by_cases q3 : c = 3
      · subst q3
        have R : Hid (clS p = 9) := hide (by rw [unhide CL]; rw [if_neg hB, if_neg (by intro h; exact q8 h.1), if_neg q8, if_neg (by omega), if_neg hin2]; rfl)
        clear CL
        go_enter Tryd.func13, Tryd.ntmps13
        go_wp2_with fail
        refine (unhide CC).mono ?_
        rintro e w1 ⟨rfl, hb⟩
        have B0 := hide hb
        clear hb CC
        go_wp2_with fail
        refine (unhide IN _).mono ?_
        rintro e wi0 ⟨rfl, rfl⟩
        rw [hin]
        go_wp2
        go_ret
        rw [unhide R]
        exact ⟨rfl, unhide B0⟩
      have z3 : (c == 3) = false := by simpa using q3
      by_cases q1 : c = 1
      · subst q1
        have R : Hid (clS p = 10) := hide (by rw [unhide CL]; rw [if_neg hB, if_neg (by intro h; exact q8 h.1), if_neg q8, if_neg (by omega), if_neg hin2]; rfl)
        clear CL
        go_enter Tryd.func13, Tryd.ntmps13
        go_wp2_with fail
        refine (unhide CC).mono ?_
        rintro e w1 ⟨rfl, hb⟩
        have B0 := hide hb
        clear hb CC
        go_wp2_with fail
        refine (unhide IN _).mono ?_
        rintro e wi0 ⟨rfl, rfl⟩
        rw [hin]
        go_wp2
        go_ret
        rw [unhide R]
        exact ⟨rfl, unhide B0⟩
      have z1 : (c == 1) = false := by simpa using q1
      by_cases q11 : c = 11
      · subst q11
        have R : Hid (clS p = 10) := hide (by rw [unhide CL]; rw [if_neg hB, if_neg (by intro h; exact q8 h.1), if_neg q8, if_neg (by omega), if_neg hin2]; rfl)
        clear CL
        go_enter Tryd.func13, Tryd.ntmps13
        go_wp2_with fail
        refine (unhide CC).mono ?_
        rintro e w1 ⟨rfl, hb⟩
        have B0 := hide hb
        clear hb CC
        go_wp2_with fail
        refine (unhide IN _).mono ?_
        rintro e wi0 ⟨rfl, rfl⟩
        rw [hin]
        go_wp2
        go_ret
        rw [unhide R]
        exact ⟨rfl, unhide B0⟩
      have z11 : (c == 11) = false := by simpa using q11
      by_cases q5 : s = 5
      · subst q5
        have R : Hid (clS p = 1) := hide (by rw [unhide CL]; rw [if_neg hB, if_neg (by intro h; exact q8 h.1), if_neg q8, if_neg (by omega), if_neg hin2, if_neg q3, if_neg (by omega)]; rfl)
        clear CL
        go_enter Tryd.func13, Tryd.ntmps13
        go_wp2_with fail
        refine (unhide CC).mono ?_
        rintro e w1 ⟨rfl, hb⟩
        have B0 := hide hb
        clear hb CC
        go_wp2_with fail
        refine (unhide IN _).mono ?_
        rintro e wi0 ⟨rfl, rfl⟩
        rw [hin]
        go_wp2_with fail
        refine (unhide CS _).mono ?_
        rintro e w2 ⟨rfl, hb⟩
        have B1 := hide ((unhide B0).trans (hb.mono (unhide B0).size))
        clear hb B0
        go_wp2
        go_ret
        rw [unhide R]
        exact ⟨rfl, unhide B1⟩
      have z5 : (s == 5) = false := by simpa using q5
      by_cases q0 : 0 < s
      · skip
        have R : Hid (clS p = 0) := hide (by rw [unhide CL]; rw [if_neg hB, if_neg (by intro h; exact q8 h.1), if_neg q8, if_neg (by omega), if_neg hin2, if_neg q3, if_neg (by omega), if_neg q5, if_pos q0])
        clear CL
        go_enter Tryd.func13, Tryd.ntmps13
        go_wp2_with fail
        refine (unhide CC).mono ?_
        rintro e w1 ⟨rfl, hb⟩
        have B0 := hide hb
        clear hb CC
        go_wp2_with fail
        refine (unhide IN _).mono ?_
        rintro e wi0 ⟨rfl, rfl⟩
        rw [hin]
        go_wp2_with fail
        refine (unhide CS _).mono ?_
        rintro e w2 ⟨rfl, hb⟩
        have B1 := hide ((unhide B0).trans (hb.mono (unhide B0).size))
        clear hb B0
        go_wp2_with fail
        refine (unhide CS _).mono ?_
        rintro e w3 ⟨rfl, hb⟩
        have B2 := hide ((unhide B1).trans (hb.mono (unhide B1).size))
        clear hb B1
        go_wp2
        go_ret
        rw [unhide R]
        exact ⟨rfl, unhide B2⟩
      · skip
        have R : Hid (clS p = 8) := hide (by rw [unhide CL]; rw [if_neg hB, if_neg (by intro h; exact q8 h.1), if_neg q8, if_neg (by omega), if_neg hin2, if_neg q3, if_neg (by omega), if_neg q5, if_neg q0])
        clear CL
        go_enter Tryd.func13, Tryd.ntmps13
        go_wp2_with fail
        refine (unhide CC).mono ?_
        rintro e w1 ⟨rfl, hb⟩
        have B0 := hide hb
        clear hb CC
        go_wp2_with fail
        refine (unhide IN _).mono ?_
        rintro e wi0 ⟨rfl, rfl⟩
        rw [hin]
        go_wp2_with fail
        refine (unhide CS _).mono ?_
        rintro e w2 ⟨rfl, hb⟩
        have B1 := hide ((unhide B0).trans (hb.mono (unhide B0).size))
        clear hb B0
        go_wp2_with fail
        refine (unhide CS _).mono ?_
        rintro e w3 ⟨rfl, hb⟩
        have B2 := hide ((unhide B1).trans (hb.mono (unhide B1).size))
        clear hb B1
        go_wp2
        go_ret
        rw [unhide R]
        exact ⟨rfl, unhide B2⟩
    · have hin2 : p = 44 ∨ p = 46 ∨ p = 58 ∨ p = 47 := by simp [sep] at hin; omega
      omega
theorem sIso_any (c : Int) (w : World) : Calls Tryd.prog 14 #[.int .i64 c] w fun e w' => e = .returned (.bool (decide (16 ≤ c ∧ c ≤ 18))) ∧ w' = w := by
  by_cases h1 : 16 ≤ c
  · by_cases h2 : c ≤ 18
    · rw [decide_eq_true (p := 16 ≤ c ∧ c ≤ 18) ⟨h1, h2⟩]
      go_enter Tryd.func14, Tryd.ntmps14
      go_wp2
      go_ret
      exact ⟨rfl, rfl⟩
    · rw [decide_eq_false (p := 16 ≤ c ∧ c ≤ 18) (by omega)]
      go_enter Tryd.func14, Tryd.ntmps14
      go_wp2
      go_ret
      exact ⟨rfl, rfl⟩
  · rw [decide_eq_false (p := 16 ≤ c ∧ c ≤ 18) (by omega)]
    go_enter Tryd.func14, Tryd.ntmps14
    go_wp2
    go_ret
    exact ⟨rfl, rfl⟩
end Go.Proofs.YtheakbjddonknaaDoor.Bs
