/- The law of ShowPasses. -/
import Derived.Test.YtfjnjednliacdaaDoorShwT
namespace Go.Proofs.YtfjnjednliacdaaDoor.Pas
open Go.RowKit
set_option linter.unusedVariables false
theorem small_of {P : List Pa} (h : ¬ lf 1048576 (szP P) < 0) : Small P := fits h
set_option maxRecDepth 100000 in
set_option maxHeartbeats 8000000 in
theorem lawS (v : Value) (P : List Pa) (w : World) (hv : PaAt 0 w v P) (hf : FitP P) (hT : Tabs w) (hN : NamAt w) :
    Calls Tryd.prog 3 #[v] w fun e w' => e = .returned (.bool true) ∧ Below w.heap.size w w' := by
  have CZ := hide (fun W h => szPasses_any v P 0 W h hf)
  have HV := hide hv
  obtain ⟨va, vc, rfl⟩ := hv.form
  clear hv hf
  by_cases hleft : lf 1048576 (szP P) < 0
  · generalize lf 1048576 (szP P) = R at *
    clear hT
    go_enter Tryd.func3, Tryd.ntmps3
    go_wp2_with (go_at_call 4; refine ((unhide CZ) _ (unhide HV)).mono ?_; rintro e w1 ⟨rfl, hb1⟩; have B1 := hide hb1; clear hb1)
    go_ret
    exact ⟨rfl, unhide B1⟩
  · have hs := small_of hleft
    have CT := hide (fun W h => toPasses_any (.slice va P.length vc) P 0 W h hs.1 (fun i hi => (hs.2 i hi).1))
    have CS := hide (fun V B W h => specS V P B W h hs)
    have CI := hide (fun V B W h (hb : Below w.heap.size w W) => implS V P B W h hs (Utf8Tabs_below hT hb) (hN.below hb))
    have CE := hide (fun V1 V2 B1 B2 W g1 g2 => eqPasses_any V1 V2 P B1 B2 W g1 g2 hs.1 (fun i hi => (hs.2 i hi).1))
    have hR : ¬ lf 1048576 (szP P) < 0 := hleft
    clear hs hT hleft hN
    generalize lf 1048576 (szP P) = R at *
    generalize strOfNums (shP P) = F at *
    go_enter Tryd.func3, Tryd.ntmps3
    go_wp2_with fail
    refine ((unhide CZ) _ (unhide HV)).mono ?_
    rintro e w1 ⟨rfl, hb1⟩
    have B1 := hide hb1
    clear hb1 CZ
    go_wp2_with fail
    refine ((unhide CT) _ ((unhide HV).below (unhide B1))).mono ?_
    rintro e w2 ⟨rfl, hp2, hb2⟩
    have P2 := hide hp2
    have B2 := hide ((unhide B1).trans (hb2.mono (unhide B1).size))
    clear hb2 hp2
    go_wp2_with fail
    refine ((unhide CS) _ _ _ (unhide P2)).mono ?_
    rintro e w3 ⟨rfl, hb3⟩
    have B3 := hide ((unhide B2).trans (hb3.mono (unhide B2).size))
    clear hb3 P2
    go_wp2_with fail
    refine ((unhide CT) _ ((unhide HV).below (unhide B3))).mono ?_
    rintro e w4 ⟨rfl, hp4, hb4⟩
    have P4 := hide hp4
    have B4 := hide ((unhide B3).trans (hb4.mono (unhide B3).size))
    clear hb4 hp4
    go_wp2_with fail
    refine ((unhide CI) _ _ _ (unhide P4) (unhide B4)).mono ?_
    rintro e w5 ⟨rfl, hb5⟩
    have P5 := hide ((unhide P4).below hb5)
    have B5 := hide ((unhide B4).trans (hb5.mono (unhide B4).size))
    clear hb5 P4
    go_wp2_with fail
    refine ((unhide CT) _ ((unhide HV).below (unhide B5))).mono ?_
    rintro e w6 ⟨rfl, hp6, hb6⟩
    have P6 := hide hp6
    have P56 := hide ((unhide P5).below hb6)
    have B6 := hide ((unhide B5).trans (hb6.mono (unhide B5).size))
    clear hb6 hp6 P5
    go_wp2_with fail
    refine ((unhide CE) _ _ _ _ _ (unhide P56) (unhide P6)).mono ?_
    rintro e w7 ⟨rfl, hb7⟩
    have B7 := hide ((unhide B6).trans (hb7.mono (unhide B6).size))
    clear hb7
    go_wp2
    go_ret
    exact ⟨rfl, unhide B7⟩
end Go.Proofs.YtfjnjednliacdaaDoor.Pas
