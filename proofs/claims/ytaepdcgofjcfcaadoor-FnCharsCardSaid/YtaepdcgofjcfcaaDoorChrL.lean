/- CharCuts of the program and of the specification, and the law. -/
import Derived.Test.YtaepdcgofjcfcaaDoorChrX
namespace Go.Proofs.YtaepdcgofjcfcaaDoor
namespace Chr
open Go.RowKit
def cutsOut (s : ByteArray) : List Int := if 65536 < s.size then [] else cutsL s (bsS (pts s))
theorem cutsOut_le (s : ByteArray) : (cutsOut s).length ≤ 65537 := by
  unfold cutsOut cutsL
  split
  · simp
  · split
    · simp
    · have h1 := ctk_len s (bsS (pts s)) (bsS (pts s)).length
      have h2 := bsS_len (pts s)
      have h3 := pts_le s
      simp
      omega
set_option maxRecDepth 100000 in
theorem cutsNil (s : ByteArray) (g c : Nat) (w : World) : Calls Tryd.prog 17 #[.string s, .slice (some ⟨g, 0, none⟩) 0 c] w fun e w' => ∃ v, e = .returned v ∧ w'.ownsRow w.heap.size 2 1 v ([] : List Int).length (([] : List Int).map (Value.int .i64)) ∧ Below w.heap.size w w' := by
  go_enter Tryd.func17, Tryd.ntmps17
  go_wp2
  go_ret
  exact ⟨_, rfl, World.ownsRow_nil _ _ _ _, Below.refl _ _⟩
theorem sts_len (L : List Int) : (sts L).length = L.length := by simp [sts]
theorem own_mono {w : World} {B B2 n : Nat} {v : Value} {xs : List Value} (h : w.ownsRow B2 2 1 v n xs) (hb : B ≤ B2) : w.ownsRow B 2 1 v n xs := by
  refine ⟨h.1, ?_⟩
  rcases h.2 with h' | ⟨g, cap, cur, hv, hg, r⟩
  · exact .inl h'
  · exact .inr ⟨g, cap, cur, hv, by omega, r⟩
set_option maxRecDepth 100000 in
set_option maxHeartbeats 1000000 in
theorem implCharCuts (s : ByteArray) (w : World) (ht : TabAt w) (hs : s.size ≤ 1048576) : Calls Tryd.prog 6 #[.string s] w fun e w' =>
    ∃ v, e = .returned v ∧ w'.ownsRow w.heap.size 2 1 v (cutsOut s).length ((cutsOut s).map (Value.int .i64)) ∧ Below w.heap.size w w' := by
  have HT := hide ht
  clear ht
  have CP := hide (fun W => implPointsOf s W hs)
  have CS := hide (fun v W h1 h2 => charStarts_any v (ptsOut s) W h1 (ptsOut_le s) h2)
  by_cases hb : 65536 < s.size
  · have e : ptsOut s = [] := by unfold ptsOut; rw [if_pos hb]
    have e2 : cutsOut s = [] := by unfold cutsOut; rw [if_pos hb]
    rw [e] at CP CS
    rw [e2]
    clear e e2
    go_enter Tryd.func6, Tryd.ntmps6
    go_wp2_with (first
      | (go_at_call 19; refine ((unhide CP) _).mono ?_; rintro e w1 ⟨v1, rfl, ho1, hb1⟩; have B1 := hide hb1; have O1 := hide ho1; clear ho1 hb1)
      | (go_at_call 18; refine ((unhide CS) _ _ (IntsAt.owned (unhide O1)) ((unhide HT).below (unhide B1))).mono ?_; rintro e w2 ⟨c, rfl, hh2, hb2⟩; have B2 := hide (join2 (unhide B1) hb2); clear hb2 hh2)
      | (go_at_call 17; refine (cutsNil s _ _ _).mono ?_; rintro e w3 ⟨v3, rfl, ho3, hb3⟩; have O3 := hide (own_mono ho3 (unhide B2).size); have B3 := hide (join2 (unhide B2) hb3); clear ho3 hb3))
    go_ret
    exact ⟨_, rfl, unhide O3, unhide B3⟩
  · have e : ptsOut s = pts s := by unfold ptsOut; rw [if_neg hb]
    have e2 : cutsOut s = cutsL s (sts (pts s)) := by unfold cutsOut; rw [if_neg hb, sts_eq]
    rw [e] at CP CS
    rw [e2]
    have CC := hide (fun g c W h => cutsAhead_any s g c (sts (pts s)) W (by omega) (sts_len _) h)
    rw [sts_len] at CC
    clear e e2
    go_enter Tryd.func6, Tryd.ntmps6
    go_wp2_with (first
      | (go_at_call 19; refine ((unhide CP) _).mono ?_; rintro e w1 ⟨v1, rfl, ho1, hb1⟩; have B1 := hide hb1; have O1 := hide ho1; clear ho1 hb1)
      | (go_at_call 18; refine ((unhide CS) _ _ (IntsAt.owned (unhide O1)) ((unhide HT).below (unhide B1))).mono ?_; rintro e w2 ⟨c, rfl, hh2, hb2⟩; have B2 := hide (join2 (unhide B1) hb2); have H2 := hide (bools_of hh2); clear hb2 hh2)
      | (go_at_call 17; refine ((unhide CC) _ _ _ (unhide H2)).mono ?_; rintro e w3 ⟨v3, rfl, ho3, hb3⟩; have O3 := hide (own_mono ho3 (unhide B2).size); have B3 := hide (join2 (unhide B2) hb3); clear ho3 hb3))
    go_ret
    exact ⟨_, rfl, unhide O3, unhide B3⟩
set_option maxRecDepth 100000 in
theorem specCharCuts (s : ByteArray) (w : World) (hs : s.size ≤ 1048576) : Calls Tryd.prog 10 #[.string s] w fun e w' => ∃ v, e = .returned v ∧ IntsAt w' v (cutsOut s) ∧ Below w.heap.size w w' := by
  by_cases hb : 65536 < s.size
  · have HE := hide (show cutsOut s = [] by unfold cutsOut; rw [if_pos hb])
    go_enter Tryd.func10, Tryd.ntmps10
    go_wp2
    go_ret
    refine ⟨_, rfl, ?_, bel1 _ _⟩
    rw [unhide HE]
    exact ⟨_, _, rfl, .inl rfl⟩
  · have HE := hide (show cutsOut s = cutsL s (bsS (pts s)) by unfold cutsOut; rw [if_neg hb])
    have CS := hide (fun W => sChars s W (by omega))
    go_enter Tryd.func10, Tryd.ntmps10
    go_wp2_with (go_at_call 21; refine ((unhide CS) _).mono ?_; rintro e w1 ⟨v1, rfl, hv1, hb1⟩; have B1 := hide hb1; have I1 := hide hv1; clear hv1 hb1)
    go_ret
    exact ⟨_, rfl, by rw [unhide HE]; exact unhide I1, unhide B1⟩
end Chr
end Go.Proofs.YtaepdcgofjcfcaaDoor
