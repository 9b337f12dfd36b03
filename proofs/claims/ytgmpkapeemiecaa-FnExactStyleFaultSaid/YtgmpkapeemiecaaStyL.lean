/- The law of StyleFault. -/
import Derived.Test.YtgmpkapeemiecaaStyW
import Derived.Test.YtgmpkapeemiecaaStyT
import Derived.Test.YtgmpkapeemiecaaStyI
namespace Go.Proofs.Ytgmpkapeemiecaa.Sty
open Go.RowKit
set_option linter.unusedVariables false
set_option maxRecDepth 100000 in
set_option maxHeartbeats 8000000 in
theorem lawStyF (p d c : Int) (v : Value) (K : List ByteArray) (w : World) (hv : StrsAt w v K) (hl0 : K.length ≤ maxLen) (hs0 : ∀ i, i < K.length → (nthS K i).size ≤ maxLen) :
    Calls Try.prog 5 #[.agg #[.int .i64 p, .int .i64 d, .int .i64 c, v]] w fun e w' => e = .returned (.bool true) ∧ Below w.heap.size w w' := by
  have CZ := hide (fun W h => szStyle_any p d c v K W h (by unfold maxLen at hl0; omega) (fun i hi => by have := hs0 i hi; unfold maxLen at this; omega))
  clear hl0 hs0
  have HV := hide hv
  have B0 := hide ((Below.refl w.heap.size w).alloc (Nat.le_refl _) (.cells #[.int .i64 p, .int .i64 d, .int .i64 c, v] 34))
  have Z0 := hide (heap_new w (.cells #[.int .i64 p, .int .i64 d, .int .i64 c, v] 34))
  have hw0 : w.heap.size < (w.alloc (.cells #[.int .i64 p, .int .i64 d, .int .i64 c, v] 34)).heap.size := by simp
  obtain ⟨va, vc, rfl, _⟩ := hv
  go_enter Try.func5, Try.ntmps5
  go_upto_region 3 with (go_at_call 17; refine ((unhide CZ) _ (StrsAt.below (unhide HV) (unhide B0))).mono ?_; rintro e w1 ⟨R, rfl, hb1, hR⟩; have HR := hide hR; have B1 := hide ((unhide B0).trans (hb1.mono (unhide B0).size)); have k1 := (hb1.block w.heap.size hw0).trans (unhide Z0); have y1 := Nat.lt_of_lt_of_le hw0 hb1.size; clear hb1 hR)
  clear B0 Z0 hw0 CZ
  obtain ⟨⟨x0, x1, x2, x3⟩, _⟩ := four_cells k1
  by_cases hneg : R < 0
  · go_wp2
    go_ret
    exact ⟨rfl, unhide B1⟩
  · have hfit : K.length ≤ 1048576 ∧ ∀ i, i < K.length → (nthS K i).size ≤ 1048576 := by
      rcases unhide HR with h | h
      · exact absurd h hneg
      · exact h.2
    obtain ⟨f1, f2⟩ := hfit
    have CT := hide (fun W h => toStyle_any p d c (.slice va K.length vc) K W h f1)
    have CS := hide (fun V W h => specSty p d c V K W h f2 f1)
    have CI := hide (fun V W h => implSty p d c V K W h f2 f1)
    have CE := hide (fun V1 V2 W g1 g2 => eqStyle_any p d c V1 V2 K W g1 g2 f1)
    clear f1 f2 HR
    generalize sf p d c K = F at *
    have hFF : (F != F) = false := by simp
    go_upto_region 6 with (first
      | (go_at_call 19; refine ((unhide CT) _ (StrsAt.below (unhide HV) (unhide B1))).mono ?_; rintro e w2 ⟨v2, rfl, en2, hb2⟩; have E2 := hide en2; have B2 := hide ((unhide B1).trans (hb2.mono (unhide B1).size)); have k2 := (hb2.block w.heap.size y1).trans k1; have y2 := Nat.lt_of_lt_of_le y1 hb2.size; clear hb2 en2)
      | (go_at_call 18; refine ((unhide CS) _ _ (unhide E2)).mono ?_; rintro e w3 ⟨rfl, hb3⟩; have B3 := hide ((unhide B2).trans (hb3.mono (unhide B2).size)); have k3 := (hb3.block w.heap.size y2).trans k2; have y3 := Nat.lt_of_lt_of_le y2 hb3.size; obtain ⟨⟨p0, p1, p2, p3⟩, _⟩ := four_cells k3; clear hb3))
    clear x0 x1 x2 x3 k1 k2 E2 B1 B2 y1 y2 CS
    go_upto_region 7 with (go_at_call 19; refine ((unhide CT) _ (StrsAt.below (unhide HV) (unhide B3))).mono ?_; rintro e w4 ⟨v4, rfl, en4, hb4⟩; have E4 := hide en4; have B4 := hide ((unhide B3).trans (hb4.mono (unhide B3).size)); have k4 := (hb4.block w.heap.size y3).trans k3; have y4 := Nat.lt_of_lt_of_le y3 hb4.size; obtain ⟨a4, c4, e4, _⟩ := en4; subst e4; clear hb4)
    clear p0 p1 p2 p3 k3 B3 y3
    have B5 := hide ((unhide B4).alloc (unhide B4).size (.cells #[.int .i64 p, .int .i64 d, .int .i64 c, .slice a4 K.length c4] 37))
    have n5 := heap_new w4 (.cells #[.int .i64 p, .int .i64 d, .int .i64 c, .slice a4 K.length c4] 37)
    have k5 := (Below.heap_alloc w4 (.cells #[.int .i64 p, .int .i64 d, .int .i64 c, .slice a4 K.length c4] 37) _ y4).trans k4
    have E5 := hide (StrsAt.below (unhide E4) ((Below.refl w4.heap.size w4).alloc (Nat.le_refl _) (.cells #[.int .i64 p, .int .i64 d, .int .i64 c, .slice a4 K.length c4] 37)))
    have y5 : w.heap.size < (w4.alloc (.cells #[.int .i64 p, .int .i64 d, .int .i64 c, .slice a4 K.length c4] 37)).heap.size := by simp; omega
    have y5' : w4.heap.size < (w4.alloc (.cells #[.int .i64 p, .int .i64 d, .int .i64 c, .slice a4 K.length c4] 37)).heap.size := by simp
    generalize w4.alloc (.cells #[.int .i64 p, .int .i64 d, .int .i64 c, .slice a4 K.length c4] 37) = w5 at *
    obtain ⟨⟨t0, t1, t2, t3⟩, _⟩ := four_cells n5
    go_upto_region 10 with (go_at_call 20; refine ((unhide CI) _ _ (unhide E5)).mono ?_; rintro e w6 ⟨rfl, hb6⟩; have B6 := hide ((unhide B5).trans (hb6.mono (unhide B5).size)); have n6 := (hb6.block w4.heap.size y5').trans n5; have k6 := (hb6.block w.heap.size y5).trans k5; have E6 := hide (StrsAt.below (unhide E5) hb6); have y6 := Nat.lt_of_lt_of_le y5 hb6.size; have y6' := Nat.lt_of_lt_of_le y5' hb6.size; clear hb6)
    clear t0 t1 t2 t3 n5 k5 k4 E5 E4 B4 B5 y5 y5' CI y4
    obtain ⟨⟨t0, t1, t2, t3⟩, _⟩ := four_cells n6
    obtain ⟨⟨u0, u1, u2, u3⟩, _⟩ := four_cells k6
    go_region_with (first
      | (go_at_call 19; refine ((unhide CT) _ (StrsAt.below (unhide HV) (unhide B6).drew)).mono ?_; rintro e w8 ⟨v8, rfl, en8, hb8⟩; have E8 := hide en8; have E68 := hide (StrsAt.below (StrsAt.below (unhide E6) ((Below.refl w6.heap.size w6).drew)) hb8); have B8 := hide ((unhide B6).drew.trans (hb8.mono (unhide B6).size)); have n8 := (hb8.block w4.heap.size y6').trans n6; obtain ⟨⟨s0, s1, s2, s3⟩, _⟩ := four_cells n8; clear hb8 en8 n8)
      | (go_at_call 21; refine ((unhide CE) _ _ _ (unhide E68) (unhide E8)).mono ?_; rintro e w9 ⟨rfl, hb9⟩; have B9 := hide ((unhide B8).trans (hb9.mono (unhide B8).size)); clear hb9))
    all_goals
      go_wp2
      go_ret
      exact ⟨rfl, unhide B9⟩
end Go.Proofs.Ytgmpkapeemiecaa.Sty
