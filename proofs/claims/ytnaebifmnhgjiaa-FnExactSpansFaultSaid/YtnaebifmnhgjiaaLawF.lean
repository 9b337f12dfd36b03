/- The law of SpansFault. -/
import Derived.Test.YtnaebifmnhgjiaaSpnF
namespace Go.Proofs.Ytnaebifmnhgjiaa
open Go.RowKit
set_option maxHeartbeats 2000000 in
theorem lawSpansFault (v : Value) (L : List Sp) (w : World) (h : SpsAt w v L) (hm : L.length ≤ maxLen) :
    Calls Try.prog 3 #[v] w fun e w' => e = .returned (.bool true) ∧ Below w.heap.size w w' := by
  obtain ⟨a, c, rfl, h'⟩ := id h
  clear h'
  have HS := hide h
  clear h
  unfold maxLen at hm
  by_cases hL : 1048576 < L.length
  · have hneg : (1048576 : Int) - (L.length : Int) < 0 := by omega
    go_enter Try.func3, Try.ntmps3
    go_wp2_with fail
    refine (szSpans_any _ _ _ _ (by omega) _ (by omega)).mono ?_
    rintro e w' ⟨rfl, rfl⟩
    rw [if_pos (by omega)]
    go_wp2
    go_ret
    exact ⟨rfl, Below.refl _ _⟩
  · have hneg : ¬ (1048576 : Int) - (L.length : Int) < 0 := by omega
    go_enter Try.func3, Try.ntmps3
    go_wp2_with fail
    refine (szSpans_any _ _ _ _ (by omega) _ (by omega)).mono ?_
    rintro e w' ⟨rfl, rfl⟩
    rw [if_neg (by omega)]
    go_wp2_with fail
    refine (toSpans _ L _ (unhide HS) (by omega)).mono ?_
    rintro e w1 ⟨rfl, hs, hb⟩
    have S1 := hide hs
    have B1 := hide hb
    clear hs hb
    go_wp2_with fail
    refine (specFault _ L _ _ (unhide S1) (by omega)).mono ?_
    rintro e w2 ⟨rfl, hb⟩
    have B2 := hide ((unhide B1).trans (hb.mono (unhide B1).size))
    clear hb S1 B1
    go_wp2_with fail
    refine (toSpans _ L _ ((unhide HS).below (unhide B2)) (by omega)).mono ?_
    rintro e w3 ⟨rfl, hs, hb⟩
    have S3 := hide hs
    have B3 := hide ((unhide B2).trans (hb.mono (unhide B2).size))
    clear hs hb B2
    go_wp2_with fail
    refine (implFault _ L _ _ (unhide S3) (by omega)).mono ?_
    rintro e w4 ⟨rfl, hb⟩
    have S4 := hide ((unhide S3).below hb)
    have B4 := hide ((unhide B3).trans (hb.mono (unhide B3).size))
    clear hb S3 B3
    have hne : (faultOf L != faultOf L) = false := by simp
    go_wp2_with fail
    refine (toSpans _ L _ ((unhide HS).below (unhide B4)) (by omega)).mono ?_
    rintro e w5 ⟨rfl, hs, hb⟩
    have S5 := hide hs
    have T5 := hide ((unhide S4).below hb)
    have B5 := hide ((unhide B4).trans (hb.mono (unhide B4).size))
    clear hs hb B4 S4
    go_wp2_with fail
    refine (eqSpans _ _ L _ _ _ (unhide T5) (unhide S5) (by omega)).mono ?_
    rintro e w6 ⟨rfl, hb⟩
    have B6 := hide ((unhide B5).trans (hb.mono (unhide B5).size))
    clear hb
    go_wp2
    go_ret
    exact ⟨rfl, unhide B6⟩
end Go.Proofs.Ytnaebifmnhgjiaa
