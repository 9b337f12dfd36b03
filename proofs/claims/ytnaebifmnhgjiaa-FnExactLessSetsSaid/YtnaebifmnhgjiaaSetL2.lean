/- The law of LessSets. -/
import Derived.Test.YtnaebifmnhgjiaaSetG
import Derived.Test.YtnaebifmnhgjiaaSetW2
namespace Go.Proofs.Ytnaebifmnhgjiaa
open Go.RowKit
set_option maxHeartbeats 1000000 in
theorem specLessSets (va vb : Value) (A C : List Sp) (B1 B2 : Nat) (w : World) (h1 : SpRow w B1 va A) (h2 : SpRow w B2 vb C) (lA : A.length ≤ 1048576) (lC : C.length ≤ 1048576) :
    Calls Try.prog 41 #[va, vb] w fun e w' => ∃ (sv : Value) (M : List Sp), e = .returned sv ∧ SetOf 2 A C M ∧ M.length ≤ 32768 ∧ SpRow w' w.heap.size sv M ∧ Below w.heap.size w w' := by
  go_enter Try.func41, Try.ntmps41
  go_wp2_with fail
  refine (l04Set_any va vb A C 2 (by omega) B1 B2 w h1 h2 lA lC).mono ?_
  rintro e w1 ⟨sv, M, rfl, hs, hl, hr, hb⟩
  have R := hide (⟨hs, hl, hr, hb⟩ : _ ∧ _ ∧ _ ∧ _)
  clear hs hl hr hb
  go_wp2
  go_ret
  exact ⟨_, _, rfl, (unhide R).1, (unhide R).2.1, (unhide R).2.2.1, (unhide R).2.2.2⟩
set_option maxHeartbeats 1000000 in
theorem implLessSets (va vb : Value) (A C : List Sp) (B1 B2 : Nat) (w : World) (h1 : SpRow w B1 va A) (h2 : SpRow w B2 vb C) (lA : A.length ≤ 1048576) (lC : C.length ≤ 1048576) :
    Calls Try.prog 42 #[va, vb] w fun e w' => ∃ (sv : Value) (M : List Sp), e = .returned sv ∧ SetOf 2 A C M ∧ M.length ≤ 32768 ∧ SpRow w' w.heap.size sv M ∧ Below w.heap.size w w' := by
  go_enter Try.func42, Try.ntmps42
  go_wp2_with fail
  refine (merge2 va vb A C B1 B2 w h1 h2 lA lC).mono ?_
  rintro e w1 ⟨sv, M, rfl, hs, hl, hr, hb⟩
  have R := hide (⟨hs, hl, hr, hb⟩ : _ ∧ _ ∧ _ ∧ _)
  clear hs hl hr hb
  go_wp2
  go_ret
  exact ⟨_, _, rfl, (unhide R).1, (unhide R).2.1, (unhide R).2.2.1, (unhide R).2.2.2⟩
set_option maxHeartbeats 8000000 in
set_option maxRecDepth 100000 in
theorem lawLessSets (va : Value) (A : List Sp) (vb : Value) (C : List Sp) (w : World) (hA : SpsAt w va A) (mA : A.length ≤ maxLen) (hC : SpsAt w vb C) (mC : C.length ≤ maxLen) :
    Calls Try.prog 11 #[va, vb] w fun e w' => e = .returned (.bool true) ∧ Below w.heap.size w w' := by
  have HA := hide hA
  have HC := hide hC
  obtain ⟨a1, c1, rfl, _⟩ := hA
  obtain ⟨a2, c2, rfl, _⟩ := hC
  unfold maxLen at mA mC
  by_cases q1 : (1048576 : Int) - A.length < 0
  · go_enter Try.func11, Try.ntmps11
    go_wp2_with fail
    refine (szSpans_any _ _ _ _ (by omega) _ (by omega)).mono ?_
    rintro e w' ⟨rfl, rfl⟩
    rw [if_pos (by omega)]
    go_wp2
    go_ret
    exact ⟨rfl, Below.refl _ _⟩
  by_cases q2 : (1048576 : Int) - A.length - C.length < 0
  · go_enter Try.func11, Try.ntmps11
    go_wp2_with fail
    refine (szSpans_any _ _ _ _ (by omega) _ (by omega)).mono ?_
    rintro e w' ⟨rfl, rfl⟩
    rw [if_neg (by omega)]
    go_wp2_with fail
    refine (szSpans_any _ _ _ _ (by omega) _ (by omega)).mono ?_
    rintro e w' ⟨rfl, rfl⟩
    rw [if_pos (by omega)]
    go_wp2
    go_ret
    exact ⟨rfl, Below.refl _ _⟩
  have lA : A.length ≤ 1048576 := by omega
  have lC : C.length ≤ 1048576 := by omega
  go_enter Try.func11, Try.ntmps11
  go_wp2_with fail
  refine (szSpans_any _ _ _ _ (by omega) _ (by omega)).mono ?_
  rintro e w' ⟨rfl, rfl⟩
  rw [if_neg (by omega)]
  go_wp2_with fail
  refine (szSpans_any _ _ _ _ (by omega) _ (by omega)).mono ?_
  rintro e w' ⟨rfl, rfl⟩
  rw [if_neg (by omega)]
  go_wp2_with fail
  refine (toSpans _ A _ (unhide HA) lA).mono ?_
  rintro e w1 ⟨rfl, hs, hb⟩
  have S1 := hide hs
  have W1 := hide hb
  clear hs hb
  go_wp2_with fail
  refine (toSpans _ C _ ((unhide HC).below (unhide W1)) lC).mono ?_
  rintro e w2 ⟨rfl, hs, hb⟩
  have S2 := hide hs
  have S1' := hide ((unhide S1).below hb)
  have W2 := hide ((unhide W1).trans (hb.mono (unhide W1).size))
  clear hs hb S1 W1
  go_wp2_with fail
  refine (specLessSets _ _ A C _ _ _ (unhide S1') (unhide S2) lA lC).mono ?_
  rintro e w3 ⟨wv, M, rfl, hso, hlM, hs, hb⟩
  have HSO := hide hso
  have Q3 := hide hs
  have N3 : Hid (∀ k, wv.ownBlock = some k → k < w3.heap.size) := hide (fun k hk => (World.ownsRow.lt (unhide Q3) k hk).2)
  have W3 := hide ((unhide W2).trans (hb.mono (unhide W2).size))
  clear hso hs hb S1' S2 W2
  go_wp2_with fail
  refine (toSpans _ A _ ((unhide HA).below (unhide W3)) lA).mono ?_
  rintro e w4 ⟨rfl, hs, hb⟩
  have X4 := hide hs
  have Q4 := hide ((unhide Q3).below hb)
  have W4 := hide ((unhide W3).trans (hb.mono (unhide W3).size))
  have z4 := hb.size
  have y4 := (World.ownsRow.lt (unhide X4) w3.heap.size rfl).2
  have y3 := (unhide W3).size
  clear hs hb Q3 W3
  go_wp2_with fail
  refine (toSpans _ C _ ((unhide HC).below (unhide W4)) lC).mono ?_
  rintro e w5 ⟨rfl, hs, hb⟩
  have Y5 := hide hs
  have X5 := hide ((unhide X4).below hb)
  have Q5 := hide ((unhide Q4).below hb)
  have W5 := hide ((unhide W4).trans (hb.mono (unhide W4).size))
  have y5 := (World.ownsRow.lt (unhide Y5) w4.heap.size rfl).2
  clear hs hb X4 Q4 W4
  go_wp2_with fail
  refine (implLessSets _ _ A C _ _ _ (unhide X5) (unhide Y5) lA lC).mono ?_
  rintro e w6 ⟨gv, M2, rfl, hso, _, hs, hb⟩
  obtain rfl := setOf_one (unhide HSO) hso
  have G6 := hide hs
  have N6 : Hid (∀ k, gv.ownBlock = some k → w5.heap.size ≤ k) := hide (fun k hk => (World.ownsRow.lt (unhide G6) k hk).1)
  have X6 := hide ((unhide X5).below hb)
  have Y6 := hide ((unhide Y5).below hb)
  have Q6 := hide ((unhide Q5).below hb)
  have W6 := hide ((unhide W5).trans (hb.mono (unhide W5).size))
  have z6 := hb.size
  clear hso hs hb X5 Y5 Q5 W5
  go_wp2_with fail
  refine (eqSpans _ _ M _ _ _ (unhide G6) (unhide Q6) (by omega)).mono ?_
  rintro e w7 ⟨rfl, hb⟩
  have G7 := hide ((unhide G6).below hb)
  have X7 := hide ((unhide X6).below hb)
  have Y7 := hide ((unhide Y6).below hb)
  have Q7 := hide ((unhide Q6).below hb)
  have W7 := hide ((unhide W6).trans (hb.mono (unhide W6).size))
  have z7 := hb.size
  clear hb G6 X6 Y6 Q6 W6
  go_wp2_with fail
  refine (toSpans _ A _ ((unhide HA).below (unhide W7)) lA).mono ?_
  rintro e w8 ⟨rfl, hs, hb⟩
  have E8 := hide hs
  have G8 := hide ((unhide G7).below hb)
  have X8 := hide ((unhide X7).below hb)
  have Y8 := hide ((unhide Y7).below hb)
  have Q8 := hide ((unhide Q7).below hb)
  have W8 := hide ((unhide W7).trans (hb.mono (unhide W7).size))
  have z8 := hb.size
  clear hs hb G7 X7 Y7 Q7 W7
  go_wp2_with fail
  refine (eqSpans _ _ A _ _ _ (unhide X8) (unhide E8) lA).mono ?_
  rintro e w9 ⟨rfl, hb⟩
  have G9 := hide ((unhide G8).below hb)
  have X9 := hide ((unhide X8).below hb)
  have Y9 := hide ((unhide Y8).below hb)
  have Q9 := hide ((unhide Q8).below hb)
  have W9 := hide ((unhide W8).trans (hb.mono (unhide W8).size))
  have z9 := hb.size
  clear hb G8 X8 Y8 Q8 W8 E8
  go_wp2_with fail
  refine (toSpans _ C _ ((unhide HC).below (unhide W9)) lC).mono ?_
  rintro e w10 ⟨rfl, hs, hb⟩
  have E10 := hide hs
  have G10 := hide ((unhide G9).below hb)
  have X10 := hide ((unhide X9).below hb)
  have Y10 := hide ((unhide Y9).below hb)
  have Q10 := hide ((unhide Q9).below hb)
  have W10 := hide ((unhide W9).trans (hb.mono (unhide W9).size))
  have z10 := hb.size
  clear hs hb G9 X9 Y9 Q9 W9
  go_wp2_with fail
  refine (eqSpans _ _ C _ _ _ (unhide Y10) (unhide E10) lC).mono ?_
  rintro e w11 ⟨rfl, hb⟩
  have G11 := hide ((unhide G10).below hb)
  have X11 := hide ((unhide X10).below hb)
  have Y11 := hide ((unhide Y10).below hb)
  have Q11 := hide ((unhide Q10).below hb)
  have W11 := hide ((unhide W10).trans (hb.mono (unhide W10).size))
  have z11 := hb.size
  clear hb G10 X10 Y10 Q10 W10 E10
  go_wp2_with fail
  refine (markG _ _ A.length _ A 1 _ (by omega) rfl lA (unhide X11)).mono ?_
  rintro e w12 ⟨rfl, hg⟩
  have G12 := hide (row_grown (unhide G11) hg (fun k hk => by have := unhide N6 k hk; omega))
  have Y12 := hide (row_grown (unhide Y11) hg (fun k hk => by simp [Value.ownBlock] at hk; omega))
  have Q12 := hide (row_grown (unhide Q11) hg (fun k hk => by have := unhide N3 k hk; omega))
  have W12 := hide ((unhide W11).trans (grown_below hg (by omega) (unhide W11).size))
  have z12 := hg.size
  clear hg G11 X11 Y11 Q11 W11
  go_wp2_with fail
  refine (markG _ _ C.length _ C _ _ (by omega) rfl lC (unhide Y12)).mono ?_
  rintro e w13 ⟨rfl, hg⟩
  have G13 := hide (row_grown (unhide G12) hg (fun k hk => by have := unhide N6 k hk; omega))
  have Q13 := hide (row_grown (unhide Q12) hg (fun k hk => by have := unhide N3 k hk; omega))
  have W13 := hide ((unhide W12).trans (grown_below hg (by omega) (unhide W12).size))
  have z13 := hg.size
  clear hg G12 Y12 Q12 W12
  have hpos : ¬ (1 + (A.length : Int) * 3 + (C.length : Int) * 3) < 0 := by omega
  go_wp2_with fail
  refine (eqSpans _ _ M _ _ _ (unhide G13) (unhide Q13) (by omega)).mono ?_
  rintro e w14 ⟨rfl, hb⟩
  have G14 := hide ((unhide G13).below hb)
  have Q14 := hide ((unhide Q13).below hb)
  have W14 := hide ((unhide W13).trans (hb.mono (unhide W13).size))
  have z14 := hb.size
  clear hb G13 Q13 W13
  go_wp2_with fail
  refine (markV _ _ M _ (unhide G14) (by omega)).mono ?_
  rintro e w15 ⟨rfl, hm, hb⟩
  have M15 := hide hm
  have Q15 := hide (row_belowB (unhide Q14) hb (fun k hk => by have := unhide N3 k hk; omega))
  have W15 := hide ((unhide W14).trans (hb.mono (by omega)))
  have z15 := hb.size
  clear hm hb G14 Q14 W14
  have hpos2 : ¬ (1 + (M.length : Int) * 3) < 0 := by omega
  have hne : ((1 + (M.length : Int) * 3) != (1 + (M.length : Int) * 3)) = false := by simp
  go_wp2_with fail
  refine (heldV _ _ M.length _ (unhide M15) (by omega)).mono ?_
  rintro e w16 ⟨rfl, rfl⟩
  go_wp2_with fail
  refine (toSpans _ A _ ((unhide HA).below (unhide W15)) lA).mono ?_
  rintro e w17 ⟨rfl, hs, hb⟩
  have X17 := hide hs
  have M17 := hide ((unhide M15).below hb)
  have Q17 := hide ((unhide Q15).below hb)
  have W17 := hide ((unhide W15).trans (hb.mono (unhide W15).size))
  clear hs hb M15 Q15 W15
  go_wp2_with fail
  refine (toSpans _ C _ ((unhide HC).below (unhide W17)) lC).mono ?_
  rintro e w18 ⟨rfl, hs, hb⟩
  have Y18 := hide hs
  have X18 := hide ((unhide X17).below hb)
  have M18 := hide ((unhide M17).below hb)
  have Q18 := hide ((unhide Q17).below hb)
  have W18 := hide ((unhide W17).trans (hb.mono (unhide W17).size))
  clear hs hb X17 M17 Q17 W17
  go_wp2_with fail
  refine (implLessSets _ _ A C _ _ _ (unhide X18) (unhide Y18) lA lC).mono ?_
  rintro e w19 ⟨hv, M3, rfl, hso, _, hs, hb⟩
  obtain rfl := setOf_one (unhide HSO) hso
  have H19 := hide hs
  have M19 := hide ((unhide M18).below hb)
  have Q19 := hide ((unhide Q18).below hb)
  have W19 := hide ((unhide W18).trans (hb.mono (unhide W18).size))
  clear hso hs hb X18 Y18 M18 Q18 W18
  go_wp2_with fail
  refine (eqSpans _ _ M _ _ _ (unhide H19) (unhide Q19) (by omega)).mono ?_
  rintro e w20 ⟨rfl, hb⟩
  have M20 := hide ((unhide M19).below hb)
  have W20 := hide ((unhide W19).trans (hb.mono (unhide W19).size))
  clear hb M19 W19 H19 Q19
  go_wp2_with fail
  refine (heldV _ _ M.length _ (unhide M20) (by omega)).mono ?_
  rintro e w21 ⟨rfl, rfl⟩
  go_wp2
  go_ret
  exact ⟨rfl, unhide W20⟩
end Go.Proofs.Ytnaebifmnhgjiaa
