/- The law of Selected. -/
import Derived.Test.YtfnaclpkpjembaaBidU
namespace Go.Proofs.Ytfnaclpkpjembaa.Bd
open Go.RowKit
set_option linter.unusedVariables false
set_option maxHeartbeats 4000000 in
set_option maxRecDepth 100000 in
theorem lawSelected (v : Value) (L : List Int) (fr to : Int) (w : World) (h : IntsAt w v L) (hm : L.length ≤ maxLen) (_ : (Lit.int .i64 fr).wf = true) (_ : (Lit.int .i64 to).wf = true) :
    Calls Try.prog 6 #[v, .int .i64 fr, .int .i64 to] w fun e w' => e = .returned (.bool true) ∧ Below w.heap.size w w' := by
  have HA := hide h
  obtain ⟨va, vc, rfl, _⟩ := h
  unfold maxLen at hm
  by_cases hl : 1048576 < L.length
  · have hl' : (1048576 : Int) < (L.length : Int) := by omega
    go_enter Try.func6, Try.ntmps6
    go_wp2
    go_ret
    exact ⟨rfl, Below.refl _ _⟩
  have hl' : ¬ (1048576 : Int) < (L.length : Int) := by omega
  have lA : L.length ≤ 1048576 := by omega
  go_enter Try.func6, Try.ntmps6
  go_wp2_with fail
  refine (toInts _ L _ (unhide HA) lA).mono ?_
  rintro e w1 ⟨rfl, hs, hb, _⟩
  have S1 : Hid (Own w1 w.heap.size _ L) := hide hs
  have W1 := hide hb
  clear hs hb
  go_wp2_with fail
  refine (specSelected _ L fr to _ (unhide S1).at lA).mono ?_
  rintro e w2 ⟨wv, m, rfl, ho, hb⟩
  obtain ⟨m0, lO, lO2⟩ := selA_len L fr to
  obtain rfl : m0 = m := by have := ho.len; omega
  have Q2 := hide ho
  have W2 := hide ((unhide W1).trans (hb.mono (unhide W1).size))
  have N2 : Hid (∀ k, wv.ownBlock = some k → k < w2.heap.size) := hide (fun k hk => (World.ownsRow.lt (unhide Q2) k hk).2)
  clear ho hb S1 W1
  go_wp2_with fail
  refine (toInts _ L _ ((unhide HA).below (unhide W2)) lA).mono ?_
  rintro e w3 ⟨rfl, hs, hb, hz⟩
  have X3 : Hid (Own w3 w2.heap.size (.slice (some ⟨w2.heap.size, 0, none⟩) L.length L.length) L) := hide hs
  have Q3 := hide ((unhide Q2).below hb)
  have W3 := hide ((unhide W2).trans (hb.mono (unhide W2).size))
  have z2 := (unhide W2).size
  have z3 := hb.size
  clear hs hb Q2 W2
  generalize w2.heap.size = g at *
  go_wp2_with fail
  refine (implSelected _ L fr to _ (unhide X3).at lA).mono ?_
  rintro e w4 ⟨gv, m1, rfl, ho, hb⟩
  obtain rfl : m0 = m1 := by have := ho.len; omega
  have G4 : Hid (StRow w4 w3.heap.size gv m0 (selA L fr to)) := hide ho
  have N4 : Hid (∀ k, gv.ownBlock = some k → w3.heap.size ≤ k) := hide (fun k hk => (World.ownsRow.lt (unhide G4) k hk).1)
  have X4 := hide ((unhide X3).below hb)
  have Q4 := hide ((unhide Q3).below hb)
  have W4 := hide ((unhide W3).trans (hb.mono (unhide W3).size))
  have z4 := hb.size
  clear ho hb X3 Q3 W3
  go_wp2_with fail
  refine (eqStretchs_any _ _ m0 (selA L fr to) _ _ _ (unhide G4) (unhide Q4) (by omega)).mono ?_
  rintro e w5 ⟨rfl, hb⟩
  have G5 := hide ((unhide G4).below hb)
  have X5 := hide ((unhide X4).below hb)
  have Q5 := hide ((unhide Q4).below hb)
  have W5 := hide ((unhide W4).trans (hb.mono (unhide W4).size))
  have z5 := hb.size
  clear hb G4 X4 Q4 W4
  go_wp2_with fail
  refine (toInts _ L _ ((unhide HA).below (unhide W5)) lA).mono ?_
  rintro e w6 ⟨rfl, hs, hb, _⟩
  have E6 : Hid (Own w6 w5.heap.size _ L) := hide hs
  have G6 := hide ((unhide G5).below hb)
  have X6 := hide ((unhide X5).below hb)
  have Q6 := hide ((unhide Q5).below hb)
  have W6 := hide ((unhide W5).trans (hb.mono (unhide W5).size))
  have z6 := hb.size
  clear hs hb G5 X5 Q5 W5
  go_wp2_with fail
  refine (eqInts _ _ L _ (unhide X6).at (unhide E6).at lA).mono ?_
  rintro e w7 ⟨rfl, hb⟩
  have G7 := hide ((unhide G6).below hb)
  have X7 := hide ((unhide X6).below hb)
  have Q7 := hide ((unhide Q6).below hb)
  have W7 := hide ((unhide W6).trans (hb.mono (unhide W6).size))
  have z7 := hb.size
  clear hb G6 X6 Q6 W6 E6
  go_wp2_with fail
  refine (markI_own _ L.length _ _ 1 _ (by omega) lA (unhide X7)).mono ?_
  rintro e w8 ⟨rfl, _, hg⟩
  have G8 := hide ((unhide G7).keep hg (fun k hk e => by have := unhide N4 k hk; simp [Value.ownBlock] at e; omega))
  have Q8 := hide ((unhide Q7).keep hg (fun k hk e => by have := unhide N2 k hk; simp [Value.ownBlock] at e; omega))
  have W8 := hide ((unhide W7).trans (grown_bel hg (fun k e => by simp [Value.ownBlock] at e; omega) (unhide W7).size))
  have z8 := hg.size
  clear hg G7 X7 Q7 W7
  have hpos : ¬ (1 + (L.length : Int)) < 0 := by omega
  go_wp2_with fail
  refine (eqStretchs_any _ _ m0 (selA L fr to) _ _ _ (unhide G8) (unhide Q8) (by omega)).mono ?_
  rintro e w9 ⟨rfl, hb⟩
  have G9 := hide ((unhide G8).below hb)
  have Q9 := hide ((unhide Q8).below hb)
  have W9 := hide ((unhide W8).trans (hb.mono (unhide W8).size))
  have z9 := hb.size
  clear hb G8 Q8 W8
  go_wp2_with fail
  refine (markSt _ m0 _ _ _ (by omega) (unhide G9)).mono ?_
  rintro e w10 ⟨rfl, hmk, hg⟩
  have M10 := hide hmk
  have Q10 := hide ((unhide Q9).keep hg (fun k hk e => by have := unhide N2 k hk; have := unhide N4 k e; omega))
  have W10 := hide ((unhide W9).trans (grown_bel hg (fun k e => by have := unhide N4 k e; omega) (unhide W9).size))
  clear hmk hg G9 Q9 W9
  have hpos2 : ¬ (1 + (m0 : Int) * 2) < 0 := by omega
  have hne : ((1 + (m0 : Int) * 2) != (1 + (m0 : Int) * 2)) = false := by simp
  go_wp2_with fail
  refine (heldSt _ m0 _ _ (by omega) (unhide M10)).mono ?_
  rintro e w11 ⟨rfl, rfl⟩
  go_wp2_with fail
  refine (toInts _ L _ ((unhide HA).below (unhide W10)) lA).mono ?_
  rintro e w12 ⟨rfl, hs, hb, _⟩
  have X12 : Hid (Own w12 w11.heap.size _ L) := hide hs
  have M12 := hide (ownsRow_below (unhide M10) hb)
  have Q12 := hide ((unhide Q10).below hb)
  have W12 := hide ((unhide W10).trans (hb.mono (unhide W10).size))
  clear hs hb M10 Q10 W10
  go_wp2_with fail
  refine (implSelected _ L fr to _ (unhide X12).at lA).mono ?_
  rintro e w13 ⟨hv, m2, rfl, ho, hb⟩
  obtain rfl : m0 = m2 := by have := ho.len; omega
  have H13 : Hid (StRow w13 w12.heap.size hv m0 (selA L fr to)) := hide ho
  have M13 := hide (ownsRow_below (unhide M12) hb)
  have Q13 := hide ((unhide Q12).below hb)
  have W13 := hide ((unhide W12).trans (hb.mono (unhide W12).size))
  clear ho hb M12 Q12 W12 X12
  go_wp2_with fail
  refine (eqStretchs_any _ _ m0 (selA L fr to) _ _ _ (unhide H13) (unhide Q13) (by omega)).mono ?_
  rintro e w14 ⟨rfl, hb⟩
  have M14 := hide (ownsRow_below (unhide M13) hb)
  have W14 := hide ((unhide W13).trans (hb.mono (unhide W13).size))
  clear hb M13 H13 Q13 W13
  go_wp2_with fail
  refine (heldSt _ m0 _ _ (by omega) (unhide M14)).mono ?_
  rintro e w15 ⟨rfl, rfl⟩
  go_wp2
  go_ret
  exact ⟨rfl, unhide W14⟩
end Go.Proofs.Ytfnaclpkpjembaa.Bd
