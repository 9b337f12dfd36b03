/- The law FnFolded. -/
import Derived.Test.YtiodngmbpnkoeaaDoorFdP
import Derived.Test.YtiodngmbpnkoeaaDoorCsdD
namespace Go.Proofs.YtiodngmbpnkoeaaDoor
namespace Cas
open Go.RowKit
set_option linter.unusedVariables false
set_option maxHeartbeats 8000000 in
set_option maxRecDepth 100000 in
theorem lawFolded (w : World) (a : Option Addr) (len cap : Nat) (hc : Dr.CodeIn w a len) (ht : Both w) :
    Calls Tryd.prog 3 #[.slice a len cap] w fun e w' => e = .returned (.bool true) ∧ Below w.heap.size w w' := by
  by_cases hl : 1048576 < len
  · have hl' : (1048576 : Int) < (len : Int) := by omega
    go_enter Tryd.func3, Tryd.ntmps3
    go_wp2
    go_ret
    exact ⟨rfl, Below.refl _ _⟩
  have hl' : ¬ (1048576 : Int) < (len : Int) := by omega
  have HT := hide ht
  have DC := hide (Dr.drawFold_any w a len cap (by omega) hc)
  clear ht hc
  go_enter Tryd.func3, Tryd.ntmps3
  go_wp2_with fail
  refine (unhide DC).mono ?_
  rintro e w1 ⟨t, rfl, ht1, hb1⟩
  have B1 := hide hb1
  clear hb1 DC hl hl'
  have CF := hide (fun W h => implFold t W h (by omega))
  have SF := hide (fun W => specFold t W (by omega))
  by_cases g1 : 10000 < t.size
  · have g1' : (10000 : Int) < (t.size : Int) := by omega
    generalize strOfNums (foldT t) = F at *
    go_wp2_with fail
    refine ((unhide CF) _ ((unhide HT).below (unhide B1)).2).mono ?_
    rintro e w2 ⟨rfl, hb⟩
    have B2 := hide ((unhide B1).trans (hb.mono (unhide B1).size))
    clear hb B1
    go_wp2_with fail
    refine ((unhide SF) _).mono ?_
    rintro e w3 ⟨rfl, hb⟩
    have B3 := hide ((unhide B2).trans (hb.mono (unhide B2).size))
    clear hb B2
    go_wp2_with fail
    refine ((unhide SF) _).mono ?_
    rintro e w4 ⟨rfl, hb⟩
    have B4 := hide ((unhide B3).trans (hb.mono (unhide B3).size))
    clear hb B3
    go_wp2
    go_ret
    exact ⟨rfl, unhide B4⟩
  · have g1' : ¬ (10000 : Int) < (t.size : Int) := by omega
    have hs : t.size ≤ 10000 := by omega
    have fb := fold_became hs
    have ub := upper_became hs
    have lb := lower_became hs
    have tb := title_became hs
    have CU := hide (fun W h => implUpperT t W h (by omega))
    have SU := hide (fun W => specUpperT t W (by omega))
    have CL := hide (fun W h => implLowerT t W h (by omega))
    have SL := hide (fun W => specLowerT t W (by omega))
    have CT := hide (fun W h => implTitleT t W h (by omega))
    have ST := hide (fun W => specTitleT t W (by omega))
    have FF := hide (fun W h => implFold (strOfNums (foldT t)) W h (by omega))
    have FU := hide (fun W h => implFold (strOfNums (upperT t)) W h (by omega))
    have FL := hide (fun W h => implFold (strOfNums (lowerT t)) W h (by omega))
    have FT := hide (fun W h => implFold (strOfNums (titleT t)) W h (by omega))
    rw [fb.2.1] at FF
    rw [ub.2.1] at FU
    rw [lb.2.1] at FL
    rw [tb.2.1] at FT
    have K1 := hide (fun W h => implSame t (strOfNums (upperT t)) W h)
    have K2 := hide (fun W h => implSame (strOfNums (lowerT t)) t W h)
    have K3 := hide (fun W h => implSame (strOfNums (foldT t)) (strOfNums (upperT t)) W h)
    have K4 := hide (fun W h => implSame t (strOfNums (nmlOut 1 t)) W h)
    rw [csl_same (by omega) ub.1 ub.2.2.symm] at K1
    rw [csl_same lb.1 (by omega) lb.2.2] at K2
    rw [csl_same fb.1 ub.1 (fb.2.2.trans ub.2.2.symm)] at K3
    rw [csl_d hs] at K4
    have CN := hide (fun W => implNormalize 1 t W (by omega))
    clear fb ub lb tb hs
    generalize strOfNums (foldT t) = F at *
    generalize strOfNums (upperT t) = U at *
    generalize strOfNums (lowerT t) = V at *
    generalize strOfNums (titleT t) = T at *
    generalize strOfNums (nmlOut 1 t) = D at *
    go_wp2_with fail
    refine ((unhide CF) _ ((unhide HT).below (unhide B1)).2).mono ?_
    rintro e w2 ⟨rfl, hb⟩
    have B2 := hide ((unhide B1).trans (hb.mono (unhide B1).size))
    clear hb B1
    go_wp2_with fail
    refine ((unhide SF) _).mono ?_
    rintro e w3 ⟨rfl, hb⟩
    have B3 := hide ((unhide B2).trans (hb.mono (unhide B2).size))
    clear hb B2
    go_wp2_with fail
    refine ((unhide CU) _ ((unhide HT).below (unhide B3)).2).mono ?_
    rintro e w4 ⟨rfl, hb⟩
    have B4 := hide ((unhide B3).trans (hb.mono (unhide B3).size))
    clear hb B3
    go_wp2_with fail
    refine ((unhide CL) _ ((unhide HT).below (unhide B4))).mono ?_
    rintro e w5 ⟨rfl, hb⟩
    have B5 := hide ((unhide B4).trans (hb.mono (unhide B4).size))
    clear hb B4
    go_wp2_with fail
    refine ((unhide SU) _).mono ?_
    rintro e w6 ⟨rfl, hb⟩
    have B6 := hide ((unhide B5).trans (hb.mono (unhide B5).size))
    clear hb B5
    go_wp2_with fail
    refine ((unhide SL) _).mono ?_
    rintro e w7 ⟨rfl, hb⟩
    have B7 := hide ((unhide B6).trans (hb.mono (unhide B6).size))
    clear hb B6
    go_wp2_with fail
    refine ((unhide CT) _ ((unhide HT).below (unhide B7))).mono ?_
    rintro e w8 ⟨rfl, hb⟩
    have B8 := hide ((unhide B7).trans (hb.mono (unhide B7).size))
    clear hb B7
    go_wp2_with fail
    refine ((unhide ST) _).mono ?_
    rintro e w9 ⟨rfl, hb⟩
    have B9 := hide ((unhide B8).trans (hb.mono (unhide B8).size))
    clear hb B8
    go_wp2_with fail
    refine ((unhide FF) _ ((unhide HT).below (unhide B9)).2).mono ?_
    rintro e w10 ⟨rfl, hb⟩
    have B10 := hide ((unhide B9).trans (hb.mono (unhide B9).size))
    clear hb B9
    go_wp2_with fail
    refine ((unhide FU) _ ((unhide HT).below (unhide B10)).2).mono ?_
    rintro e w11 ⟨rfl, hb⟩
    have B11 := hide ((unhide B10).trans (hb.mono (unhide B10).size))
    clear hb B10
    go_wp2_with fail
    refine ((unhide FL) _ ((unhide HT).below (unhide B11)).2).mono ?_
    rintro e w12 ⟨rfl, hb⟩
    have B12 := hide ((unhide B11).trans (hb.mono (unhide B11).size))
    clear hb B11
    go_wp2_with fail
    refine ((unhide CT) _ ((unhide HT).below (unhide B12))).mono ?_
    rintro e w13 ⟨rfl, hb⟩
    have B13 := hide ((unhide B12).trans (hb.mono (unhide B12).size))
    clear hb B12
    go_wp2_with fail
    refine ((unhide FT) _ ((unhide HT).below (unhide B13)).2).mono ?_
    rintro e w14 ⟨rfl, hb⟩
    have B14 := hide ((unhide B13).trans (hb.mono (unhide B13).size))
    clear hb B13
    go_wp2_with fail
    refine ((unhide K1) _ ((unhide HT).below (unhide B14)).2).mono ?_
    rintro e w15 ⟨rfl, hb⟩
    have B15 := hide ((unhide B14).trans (hb.mono (unhide B14).size))
    clear hb B14
    go_wp2_with fail
    refine ((unhide K2) _ ((unhide HT).below (unhide B15)).2).mono ?_
    rintro e w16 ⟨rfl, hb⟩
    have B16 := hide ((unhide B15).trans (hb.mono (unhide B15).size))
    clear hb B15
    go_wp2_with fail
    refine ((unhide K3) _ ((unhide HT).below (unhide B16)).2).mono ?_
    rintro e w17 ⟨rfl, hb⟩
    have B17 := hide ((unhide B16).trans (hb.mono (unhide B16).size))
    clear hb B16
    go_wp2_with fail
    refine ((unhide CN) _).mono ?_
    rintro e w18 ⟨rfl, hb⟩
    have B18 := hide ((unhide B17).trans (hb.mono (unhide B17).size))
    clear hb B17
    go_wp2_with fail
    refine ((unhide K4) _ ((unhide HT).below (unhide B18)).2).mono ?_
    rintro e w19 ⟨rfl, hb⟩
    have B19 := hide ((unhide B18).trans (hb.mono (unhide B18).size))
    clear hb B18
    go_wp2
    go_ret
    exact ⟨rfl, unhide B19⟩
end Cas
end Go.Proofs.YtiodngmbpnkoeaaDoor
