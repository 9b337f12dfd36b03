/- The law of CollatorFault. -/
import Derived.Test.YtgcpdpkkobkamaaColS
namespace Go.Proofs.Ytgcpdpkkobkamaa.Col
open Go.RowKit
set_option linter.unusedVariables false
theorem left_fits {E : List En} (h : ¬ left 1048576 E < 0) : E.length ≤ 1048576 ∧ ∀ i, i < E.length → (ge E i).1.size ≤ 1048576 ∧ (ge E i).2.length ≤ 1048576 := by
  unfold left at h
  by_cases c : (1048576 : Int) - (E.length : Int) - (szk E E.length : Int) < 0
  · rw [if_pos c] at h; omega
  · refine ⟨by omega, fun i hi => ?_⟩
    have := szk_up E i E.length hi
    unfold sz1 at this
    omega
theorem en_of {B : Nat} {w : World} {v : Value} {E : List En} (h : EnAt (Rr B) w v E) : EnAt SpsAt w v E := by
  obtain ⟨a, cap, rfl, h⟩ := h
  refine ⟨a, cap, rfl, ?_⟩
  rcases h with h | ⟨b, off, rfl, hbs, hc⟩
  · exact .inl h
  · refine .inr ⟨b, off, rfl, hbs, fun i hi => ?_⟩
    obtain ⟨c1, u, c2, hu⟩ := hc i hi
    exact ⟨c1, u, c2, sps_of hu⟩
set_option maxRecDepth 100000 in
set_option maxHeartbeats 8000000 in
theorem lawColl (v : Value) (s : Int) (p : Bool) (E : List En) (w : World) (hv : EnAt SpsAt w v E) (hE0 : E.length ≤ maxLen) (hsz0 : ∀ i, i < E.length → (ge E i).1.size ≤ maxLen ∧ (ge E i).2.length ≤ maxLen) :
    Calls Try.prog 3 #[.agg #[v, .int .i64 s, .bool p]] w fun e w' => e = .returned (.bool true) ∧ Below w.heap.size w w' := by
  have hE : E.length ≤ 9223372036854775807 := by unfold maxLen at hE0; omega
  have hsz : ∀ i, i < E.length → (ge E i).1.size ≤ 9223372036854775807 ∧ (ge E i).2.length ≤ 9223372036854775807 := fun i hi => by
    have := hsz0 i hi
    unfold maxLen at this
    omega
  clear hE0 hsz0
  have CZ := hide (fun W h => szColl_any v s p E W h hE hsz)
  have HV := hide hv
  have B0 := hide ((Below.refl w.heap.size w).alloc (Nat.le_refl _) (.cells #[v, .int .i64 s, .bool p] 24))
  have Z0 := hide (heap_new w (.cells #[v, .int .i64 s, .bool p] 24))
  have hw0 : w.heap.size < (w.alloc (.cells #[v, .int .i64 s, .bool p] 24)).heap.size := by simp
  obtain ⟨va, vc, rfl, _⟩ := hv
  by_cases hleft : left 1048576 E < 0
  · clear hsz
    generalize left 1048576 E = R at *
    go_enter Try.func3, Try.ntmps3
    go_wp2_with (go_at_call 4; refine ((unhide CZ) _ (EnAt.below keepS (unhide HV) (unhide B0))).mono ?_; rintro e w1 ⟨rfl, hb1⟩; have B1 := hide ((unhide B0).trans (hb1.mono (unhide B0).size)); clear hb1)
    go_ret
    exact ⟨rfl, unhide B1⟩
  · obtain ⟨f1, f2⟩ := left_fits hleft
    have CT := hide (fun W h => toColl_any (.slice va E.length vc) s p E W h f1 (fun i hi => (f2 i hi).2))
    have CS := hide (fun V W h => collSpec V s p E W h f1 f2)
    have CI := hide (fun V W h => collImpl V s p E W h f1 (fun i hi => (f2 i hi).2))
    have CE := hide (fun V1 V2 B1 B2 W g1 g2 => eqColl_any V1 V2 s p E B1 B2 W g1 g2 f1 (fun i hi => (f2 i hi).2))
    have hR : 0 ≤ left 1048576 E := by omega
    clear hsz f1 f2 hE
    generalize left 1048576 E = R at *
    generalize flt s E = F at *
    have hFF : (F != F) = false := by simp
    have TOK : True := trivial
    go_enter Try.func3, Try.ntmps3
    go_upto_region 5 with (go_at_call 4; refine ((unhide CZ) _ (EnAt.below keepS (unhide HV) (unhide B0))).mono ?_; rintro e w1 ⟨rfl, hb1⟩; have B1 := hide ((unhide B0).trans (hb1.mono (unhide B0).size)); have k1 := (hb1.block w.heap.size hw0).trans (unhide Z0); have y1 := Nat.lt_of_lt_of_le hw0 hb1.size; obtain ⟨x0, x1, x2, _, _, _⟩ := three_cells k1; clear hb1)
    go_upto_region 6 with (first
      | (go_at_call 6; refine ((unhide CT) _ (EnAt.below keepS (unhide HV) (unhide B1))).mono ?_; rintro e w2 ⟨g2, rfl, hg2, en2, hb2⟩; have E2 := hide (en_of en2); have B2 := hide ((unhide B1).trans (hb2.mono (unhide B1).size)); have k2 := (hb2.block w.heap.size y1).trans k1; have y2 := Nat.lt_of_lt_of_le y1 hb2.size; clear hb2 en2)
      | (go_at_call 5; refine ((unhide CS) _ _ (unhide E2)).mono ?_; rintro e w3 ⟨rfl, hb3⟩; have B3 := hide ((unhide B2).trans (hb3.mono (unhide B2).size)); have k3 := (hb3.block w.heap.size y2).trans k2; have y3 := Nat.lt_of_lt_of_le y2 hb3.size; obtain ⟨p0, p1, p2, _, _, _⟩ := three_cells k3; clear hb3))
    clear x0 x1 x2 k1 k2 E2
    go_upto_region 7 with (go_at_call 6; refine ((unhide CT) _ (EnAt.below keepS (unhide HV) (unhide B3))).mono ?_; rintro e w4 ⟨g4, rfl, hg4, en4, hb4⟩; have E4 := hide en4; have B4 := hide ((unhide B3).trans (hb4.mono (unhide B3).size)); have k4 := (hb4.block w.heap.size y3).trans k3; have y4 := Nat.lt_of_lt_of_le y3 hb4.size; clear hb4 en4)
    clear p0 p1 p2 k3
    have B5 := hide ((unhide B4).alloc (unhide B4).size (.cells #[.slice (some ⟨g4, 0, none⟩) E.length E.length, .int .i64 s, .bool p] 29))
    have n5 := heap_new w4 (.cells #[.slice (some ⟨g4, 0, none⟩) E.length E.length, .int .i64 s, .bool p] 29)
    have k5 := (Below.heap_alloc w4 (.cells #[.slice (some ⟨g4, 0, none⟩) E.length E.length, .int .i64 s, .bool p] 29) _ y4).trans k4
    have E5 := hide (EnAt.below (keepR g4) (unhide E4) ((Below.refl w4.heap.size w4).alloc (Nat.le_refl _) (.cells #[.slice (some ⟨g4, 0, none⟩) E.length E.length, .int .i64 s, .bool p] 29)))
    have y5 : w.heap.size < (w4.alloc (.cells #[.slice (some ⟨g4, 0, none⟩) E.length E.length, .int .i64 s, .bool p] 29)).heap.size := by simp; omega
    have y5' : w4.heap.size < (w4.alloc (.cells #[.slice (some ⟨g4, 0, none⟩) E.length E.length, .int .i64 s, .bool p] 29)).heap.size := by simp
    generalize w4.alloc (.cells #[.slice (some ⟨g4, 0, none⟩) E.length E.length, .int .i64 s, .bool p] 29) = w5 at *
    obtain ⟨t0, t1, t2, _, _, _⟩ := three_cells n5
    go_upto_region 10 with (go_at_call 7; refine ((unhide CI) _ _ (en_of (unhide E5))).mono ?_; rintro e w6 ⟨rfl, hb6⟩; have B6 := hide ((unhide B5).trans (hb6.mono (unhide B5).size)); have n6 := (hb6.block w4.heap.size y5').trans n5; have k6 := (hb6.block w.heap.size y5).trans k5; have E6 := hide (EnAt.below (keepR g4) (unhide E5) hb6); have y6 := Nat.lt_of_lt_of_le y5 hb6.size; have y6' := Nat.lt_of_lt_of_le y5' hb6.size; clear hb6)
    clear t0 t1 t2 n5 k5 k4 E5 E4 B4 B5 y5 y5'
    obtain ⟨t0, t1, t2, _, _, _⟩ := three_cells n6
    obtain ⟨u0, u1, u2, _, _, _⟩ := three_cells k6
    go_region_with (first
      | (go_at_call 6; refine ((unhide CT) _ (EnAt.below keepS (unhide HV) (unhide B6).drew)).mono ?_; rintro e w8 ⟨g8, rfl, hg8, en8, hb8⟩; have E8 := hide en8; have E68 := hide (EnAt.below (keepR g4) (EnAt.below (keepR g4) (unhide E6) (drew_below w6)) hb8); have B8 := hide ((unhide B6).drew.trans (hb8.mono (unhide B6).size)); have n8 := (hb8.block w4.heap.size y6').trans n6; obtain ⟨s0, s1, s2, _, _, _⟩ := three_cells n8; clear hb8 en8 n8)
      | (go_at_call 8; refine ((unhide CE) _ _ _ _ _ (unhide E68) (unhide E8)).mono ?_; rintro e w9 ⟨rfl, hb9⟩; have B9 := hide ((unhide B8).trans (hb9.mono (unhide B8).size)); clear hb9))
    all_goals
      go_wp2
      go_ret
      exact ⟨rfl, unhide B9⟩
end Go.Proofs.Ytgcpdpkkobkamaa.Col
