/- The law of TurnedPasses. -/
import Derived.Test.YtaebmajaefpcfaaDoorPasZ
namespace Go.Proofs.YtaebmajaefpcfaaDoor.Pas
open Go.RowKit
set_option linter.unusedVariables false
theorem num_szq (P : List Pa) (k : Nat) : num P k ≤ 1 + 5 * szq P k + k := by
  induction k with
  | zero => simp [num, szq]
  | succ k ih =>
    have e1 : num P (k + 1) = num P k + (gp P k).1.length * 5 + 1 := rfl
    have e2 : szq P (k + 1) = szq P k + szR (gp P k).1 := rfl
    have e3 : szR (gp P k).1 = (gp P k).1.length + szk (gp P k).1 (gp P k).1.length := rfl
    omega
theorem num_fit {P : List Pa} (h : ¬ lf 1048576 (szP P) < 0) : num P P.length ≤ 8388608 := by
  have := num_szq P P.length
  by_cases c : (1048576 : Int) - (szP P : Int) < 0
  · rw [lf_no c] at h; omega
  · have e : szP P = P.length + szq P P.length := rfl
    omega
theorem ans_props (P : List Pa) : (ans P).length ≤ 10 ∧ ∀ i, i < (ans P).length → (gp (ans P) i).1.length ≤ 100 := by
  unfold ans
  by_cases h : (right P && canA P) = true
  · rw [if_pos h]
    have hr : right P = true := by
      cases hh : right P with
      | true => rfl
      | false => rw [hh] at h; cases h
    unfold right at hr
    rw [Bool.and_eq_true, decide_eq_true_iff] at hr
    obtain ⟨h10, hq⟩ := hr
    rw [tl_len, down_len]
    refine ⟨h10, fun i hi => ?_⟩
    have hg : gp (tl P (down P.length P.length)) i = tp (gp P (P.length - 1 - i)) := by
      simp [tl, down, gp, List.getD, hi]
    rw [hg]
    show (tr (gp P (P.length - 1 - i)).1 _).length ≤ 100
    rw [tr_len]
    have hk := okq_at hq (show P.length - 1 - i < P.length by omega)
    unfold okP at hk
    rw [Bool.and_eq_true, Bool.and_eq_true, decide_eq_true_iff, decide_eq_true_iff] at hk
    have e : cnt P (P.length - 1 - i + 1) = cnt P (P.length - 1 - i) + (gp P (P.length - 1 - i)).1.length := rfl
    omega
  · rw [if_neg h]
    exact ⟨by simp, fun i hi => by simp at hi⟩
theorem num_few (Q : List Pa) (h : ∀ i, i < Q.length → (gp Q i).1.length ≤ 100) (k : Nat) (hk : k ≤ Q.length) : num Q k ≤ 1 + k * 501 := by
  induction k with
  | zero => simp [num]
  | succ k ih =>
    have e1 : num Q (k + 1) = num Q k + (gp Q k).1.length * 5 + 1 := rfl
    have := h k (by omega)
    have := ih (by omega)
    omega
theorem num_ans (P : List Pa) : num (ans P) (ans P).length ≤ 8388608 := by
  obtain ⟨h1, h2⟩ := ans_props P
  have := num_few (ans P) h2 (ans P).length (Nat.le_refl _)
  omega
theorem mkP_len (P : List Pa) : (mkP P).length = P.length := mkQ_len P P.length
set_option maxRecDepth 100000 in
set_option maxHeartbeats 16000000 in
theorem lawT (v : Value) (P : List Pa) (w : World) (hv : PaAt 0 w v P) (hf : FitP P) (hT : Tabs w) :
    Calls Tryd.prog 4 #[v] w fun e w' => e = .returned (.bool true) ∧ Below w.heap.size w w' := by
  have CZ := hide (fun W h => szPasses_any v P 0 W h hf)
  have HV := hide hv
  obtain ⟨va, vc, rfl⟩ := hv.form
  clear hv hf
  by_cases hleft : lf 1048576 (szP P) < 0
  · generalize lf 1048576 (szP P) = R at *
    clear hT
    go_enter Tryd.func4, Tryd.ntmps4
    go_wp2_with (go_at_call 5; refine ((unhide CZ) _ (unhide HV)).mono ?_; rintro e w1 ⟨rfl, hb1⟩; have B1 := hide hb1; clear hb1)
    go_ret
    exact ⟨rfl, unhide B1⟩
  · have hs := fits hleft
    have hn := num_fit hleft
    obtain ⟨ha1, ha2⟩ := ans_props P
    have CT := hide (fun W h => toPasses_any (.slice va P.length vc) P 0 W h hs.1 (fun i hi => (hs.2 i hi).1))
    have CX := hide (fun W h => toPassesX (.slice va P.length vc) P 0 W h hs.1 (fun i hi => (hs.2 i hi).1))
    have CS := hide (fun V B W h => specT V P B W h hs)
    have CI := hide (fun V B W h (hb : Below w.heap.size w W) => implT V P B W h hs (Utf8Tabs_below hT hb))
    have CE := hide (fun V1 V2 B1 B2 W g1 g2 => eqPasses_any V1 V2 P B1 B2 W g1 g2 hs.1 (fun i hi => (hs.2 i hi).1))
    have CA := hide (fun V1 V2 B1 B2 W g1 g2 => eqPasses_any V1 V2 (ans P) B1 B2 W g1 g2 (by omega) (fun i hi => by have := ha2 i hi; omega))
    have CM := hide (fun lo hi W h1 h2 => markP_any lo hi (.slice (some ⟨lo, 0, none⟩) P.length P.length) P W h1 hn hs.1 h2)
    have CN := hide (fun lo hi V W h1 h2 => markP_any lo hi V (ans P) W h1 (num_ans P) (by omega) h2)
    have CH := hide (fun B V W h => heldP_any B V (ans P) W (num_ans P) (by omega) h)
    have hp1 : ¬ ((num P P.length : Nat) : Int) < 0 := by omega
    have hp2 : ¬ ((num (ans P) (ans P).length : Nat) : Int) < 0 := by omega
    have hpp : (((num (ans P) (ans P).length : Nat) : Int) != ((num (ans P) (ans P).length : Nat) : Int)) = false := by simp
    have hR : ¬ lf 1048576 (szP P) < 0 := hleft
    clear hs hT hleft hn ha1 ha2
    generalize lf 1048576 (szP P) = R at *
    generalize num P P.length = M at *
    generalize num (ans P) (ans P).length = N at *
    generalize hmk : mkP (ans P) = MA at *
    generalize ans P = A at *
    go_enter Tryd.func4, Tryd.ntmps4
    go_wp2_with fail
    refine ((unhide CZ) _ (unhide HV)).mono ?_
    rintro e w1 ⟨rfl, hb1⟩
    have B1 := hide hb1
    clear hb1 CZ
    go_wp2_with fail
    refine ((unhide CT) _ ((unhide HV).below (unhide B1))).mono ?_
    rintro e w2 ⟨rfl, hp2', hb2⟩
    have P2 := hide hp2'
    have B2 := hide ((unhide B1).trans (hb2.mono (unhide B1).size))
    clear hb2 hp2'
    go_wp2_with fail
    refine ((unhide CS) _ _ _ (unhide P2)).mono ?_
    rintro e w3 ⟨⟨u0, rfl, hu0⟩, hb3⟩
    have U3 := hide hu0
    have B3 := hide ((unhide B2).trans (hb3.mono (unhide B2).size))
    obtain ⟨ua, uc, rfl⟩ := hu0.form
    clear hb3 P2 hu0
    go_wp2_with fail
    refine ((unhide CX) _ ((unhide HV).below (unhide B3))).mono ?_
    rintro e w4 ⟨rfl, hx4, hb4⟩
    have X4 := hide hx4
    have C4 := hide hb4
    have B4 := hide ((unhide B3).trans (hb4.mono (unhide B3).size))
    have hs34 := hb4.size
    clear hb4 hx4
    go_wp2_with fail
    refine ((unhide CI) _ _ _ (unhide X4).pa (unhide B4)).mono ?_
    rintro e w5 ⟨⟨g0, rfl, hg0⟩, hb5⟩
    have G5 := hide hg0
    have X5 := hide ((unhide X4).below hb5)
    have C5 := hide ((unhide C4).trans (hb5.mono hs34))
    have B5 := hide ((unhide B4).trans (hb5.mono (unhide B4).size))
    have hs45 := hb5.size
    obtain ⟨ga, gc, rfl⟩ := hg0.pa.form
    clear hb5 hg0 X4
    go_wp2_with fail
    refine ((unhide CA) _ _ _ _ _ (unhide G5).pa ((unhide U3).below (unhide C5))).mono ?_
    rintro e w6 ⟨rfl, hb6⟩
    have G6 := hide ((unhide G5).below hb6)
    have X6 := hide ((unhide X5).below hb6)
    have C6 := hide ((unhide C5).trans (hb6.mono (by omega)))
    have B6 := hide ((unhide B5).trans (hb6.mono (unhide B5).size))
    have hs56 := hb6.size
    clear hb6 G5 X5
    go_wp2_with fail
    refine ((unhide CT) _ ((unhide HV).below (unhide B6))).mono ?_
    rintro e w7 ⟨rfl, hp7, hb7⟩
    have P7 := hide hp7
    have G7 := hide ((unhide G6).below hb7)
    have X7 := hide ((unhide X6).below hb7)
    have C7 := hide ((unhide C6).trans (hb7.mono (by omega)))
    have B7 := hide ((unhide B6).trans (hb7.mono (unhide B6).size))
    have hs67 := hb7.size
    clear hb7 hp7 G6 X6
    go_wp2_with fail
    refine ((unhide CE) _ _ _ _ _ (unhide X7).pa (unhide P7)).mono ?_
    rintro e w8 ⟨rfl, hb8⟩
    have G8 := hide ((unhide G7).below hb8)
    have X8 := hide ((unhide X7).below hb8)
    have C8 := hide ((unhide C7).trans (hb8.mono (by omega)))
    have B8 := hide ((unhide B7).trans (hb8.mono (unhide B7).size))
    have hs78 := hb8.size
    clear hb8 G7 X7 P7
    go_wp2_with fail
    refine ((unhide CM) _ _ _ (by omega) (unhide X8)).mono ?_
    rintro e w9 ⟨rfl, _, hc9⟩
    have G9 := hide ((unhide G8).at (fun k h1 h2 h3 => hc9.2 k h1 h3))
    have C9 := hide ((unhide C8).trans hc9.1)
    have B9 := hide ((unhide B8).trans (hc9.1.mono (by have := (unhide B3).size; omega)))
    have hs89 := hc9.1.size
    clear hc9 G8 X8
    go_wp2_with (go_at_call 9; refine ((unhide CA) _ _ _ _ _ (unhide G9).pa ((unhide U3).below (unhide C9))).mono ?_; rintro e w10 ⟨rfl, hb10⟩; have G10 := hide ((unhide G9).below hb10); have C10 := hide ((unhide C9).trans (hb10.mono (by omega))); have B10 := hide ((unhide B9).trans (hb10.mono (unhide B9).size)); have hs910 := hb10.size; clear hb10 G9)
    refine ((unhide CN) _ _ _ _ (by omega) (unhide G10)).mono ?_
    rintro e w11 ⟨rfl, hm11, hc11⟩
    have M11 := hide hm11
    have C11 := hide ((unhide C10).trans (hc11.1.mono (by omega)))
    have B11 := hide ((unhide B10).trans (hc11.1.mono (by have := (unhide B3).size; omega)))
    have hs1011 := hc11.1.size
    clear hc11 hm11 G10
    go_wp2_with fail
    refine ((unhide CH) _ _ _ (unhide M11).pa).mono ?_
    rintro e w12 ⟨rfl, hb12⟩
    have M12 := hide ((unhide M11).below hb12)
    have C12 := hide ((unhide C11).trans (hb12.mono (by omega)))
    have B12 := hide ((unhide B11).trans (hb12.mono (unhide B11).size))
    have hs1112 := hb12.size
    clear hb12 M11
    go_wp2_with fail
    refine ((unhide CT) _ ((unhide HV).below (unhide B12))).mono ?_
    rintro e w13 ⟨rfl, hp13, hb13⟩
    have P13 := hide hp13
    have M13 := hide ((unhide M12).below hb13)
    have C13 := hide ((unhide C12).trans (hb13.mono (by omega)))
    have B13 := hide ((unhide B12).trans (hb13.mono (unhide B12).size))
    have hs1213 := hb13.size
    clear hb13 hp13 M12
    go_wp2_with fail
    refine ((unhide CI) _ _ _ (unhide P13) (unhide B13)).mono ?_
    rintro e w14 ⟨⟨h0, rfl, hh0⟩, hb14⟩
    have H14 := hide hh0
    have M14 := hide ((unhide M13).below hb14)
    have C14 := hide ((unhide C13).trans (hb14.mono (by omega)))
    have B14 := hide ((unhide B13).trans (hb14.mono (unhide B13).size))
    have hs1314 := hb14.size
    obtain ⟨hha, hhc, rfl⟩ := hh0.pa.form
    clear hb14 hh0 M13 P13
    go_wp2_with fail
    refine ((unhide CA) _ _ _ _ _ (unhide H14).pa ((unhide U3).below (unhide C14))).mono ?_
    rintro e w15 ⟨rfl, hb15⟩
    have M15 := hide ((unhide M14).below hb15)
    have B15 := hide ((unhide B14).trans (hb15.mono (unhide B14).size))
    clear hb15 M14 H14
    go_wp2_with fail
    refine ((unhide CH) _ _ _ (unhide M15).pa).mono ?_
    rintro e w16 ⟨rfl, hb16⟩
    have B16 := hide ((unhide B15).trans (hb16.mono (unhide B15).size))
    clear hb16
    go_wp2
    go_ret
    exact ⟨rfl, unhide B16⟩
end Go.Proofs.YtaebmajaefpcfaaDoor.Pas
