/- CharCuts of the program and of the specification, and the law. -/
import Derived.Test.YtommeaklnndcnaaDoorChrX
namespace Go.Proofs.YtommeaklnndcnaaDoor
namespace Chr
open Go.RowKit
def cutsOut (s : ByteArray) : List Int := if 65536 < s.size then [] else cutsL s (bsS (pts s))
theorem cutsOut_le (s : ByteArray) : (cutsOut s).length ≤ 65537 := by
  unfold cutsOut cutsL
  split
  · simp
  · split
    · simp
    · have h1 := ctk_len s (bsS (pts s)) (bsS (pts s)).length
      have h2 := bsS_len (pts s)
      have h3 := pts_le s
      simp
      omega
set_option maxRecDepth 100000 in
theorem cutsNil (s : ByteArray) (g c : Nat) (w : World) : Calls Tryd.prog 98 #[.string s, .slice (some ⟨g, 0, none⟩) 0 c] w fun e w' => ∃ v, e = .returned v ∧ w'.ownsRow w.heap.size 2 1 v ([] : List Int).length (([] : List Int).map (Value.int .i64)) ∧ Below w.heap.size w w' := by
  go_enter Tryd.func98, Tryd.ntmps98
  go_wp2
  go_ret
  exact ⟨_, rfl, World.ownsRow_nil _ _ _ _, Below.refl _ _⟩
theorem sts_len (L : List Int) : (sts L).length = L.length := by simp [sts]
theorem own_mono {w : World} {B B2 n : Nat} {v : Value} {xs : List Value} (h : w.ownsRow B2 2 1 v n xs) (hb : B ≤ B2) : w.ownsRow B 2 1 v n xs := by
  refine ⟨h.1, ?_⟩
  rcases h.2 with h' | ⟨g, cap, cur, hv, hg, r⟩
  · exact .inl h'
  · exact .inr ⟨g, cap, cur, hv, by omega, r⟩
set_option maxRecDepth 100000 in
set_option maxHeartbeats 1000000 in
theorem implCharCuts (s : ByteArray) (w : World) (ht : TabAt w) (hs : s.size ≤ 1048576) : Calls Tryd.prog 36 #[.string s] w fun e w' =>
    ∃ v, e = .returned v ∧ w'.ownsRow w.heap.size 2 1 v (cutsOut s).length ((cutsOut s).map (Value.int .i64)) ∧ Below w.heap.size w w' := by
  have HT := hide ht
  clear ht
  have CP := hide (fun W => implPointsOf s W hs)
  have CS := hide (fun v W h1 h2 => charStarts_any v (ptsOut s) W h1 (ptsOut_le s) h2)
  by_cases hb : 65536 < s.size
  · have e : ptsOut s = [] := by unfold ptsOut; rw [if_pos hb]
    have e2 : cutsOut s = [] := by unfold cutsOut; rw [if_pos hb]
    rw [e] at CP CS
    rw [e2]
    clear e e2
    go_enter Tryd.func36, Tryd.ntmps36
    go_wp2_with (first
      | (go_at_call 100; refine ((unhide CP) _).mono ?_; rintro e w1 ⟨v1, rfl, ho1, hb1⟩; have B1 := hide hb1; have O1 := hide ho1; clear ho1 hb1)
      | (go_at_call 99; refine ((unhide CS) _ _ (IntsAt.owned (unhide O1)) ((unhide HT).below (unhide B1))).mono ?_; rintro e w2 ⟨c, rfl, hh2, hb2⟩; have B2 := hide (join2 (unhide B1) hb2); clear hb2 hh2)
      | (go_at_call 98; refine (cutsNil s _ _ _).mono ?_; rintro e w3 ⟨v3, rfl, ho3, hb3⟩; have O3 := hide (own_mono ho3 (unhide B2).size); have B3 := hide (join2 (unhide B2) hb3); clear ho3 hb3))
    go_ret
    exact ⟨_, rfl, unhide O3, unhide B3⟩
  · have e : ptsOut s = pts s := by unfold ptsOut; rw [if_neg hb]
    have e2 : cutsOut s = cutsL s (sts (pts s)) := by unfold cutsOut; rw [if_neg hb, sts_eq]
    rw [e] at CP CS
    rw [e2]
    have CC := hide (fun g c W h => cutsAhead_any s g c (sts (pts s)) W (by omega) (sts_len _) h)
    rw [sts_len] at CC
    clear e e2
    go_enter Tryd.func36, Tryd.ntmps36
    go_wp2_with (first
      | (go_at_call 100; refine ((unhide CP) _).mono ?_; rintro e w1 ⟨v1, rfl, ho1, hb1⟩; have B1 := hide hb1; have O1 := hide ho1; clear ho1 hb1)
      | (go_at_call 99; refine ((unhide CS) _ _ (IntsAt.owned (unhide O1)) ((unhide HT).below (unhide B1))).mono ?_; rintro e w2 ⟨c, rfl, hh2, hb2⟩; have B2 := hide (join2 (unhide B1) hb2); have H2 := hide (bools_of hh2); clear hb2 hh2)
      | (go_at_call 98; refine ((unhide CC) _ _ _ (unhide H2)).mono ?_; rintro e w3 ⟨v3, rfl, ho3, hb3⟩; have O3 := hide (own_mono ho3 (unhide B2).size); have B3 := hide (join2 (unhide B2) hb3); clear ho3 hb3))
    go_ret
    exact ⟨_, rfl, unhide O3, unhide B3⟩
set_option maxRecDepth 100000 in
theorem specCharCuts (s : ByteArray) (w : World) (hs : s.size ≤ 1048576) : Calls Tryd.prog 39 #[.string s] w fun e w' => ∃ v, e = .returned v ∧ IntsAt w' v (cutsOut s) ∧ Below w.heap.size w w' := by
  by_cases hb : 65536 < s.size
  · have HE := hide (show cutsOut s = [] by unfold cutsOut; rw [if_pos hb])
    go_enter Tryd.func39, Tryd.ntmps39
    go_wp2
    go_ret
    refine ⟨_, rfl, ?_, bel1 _ _⟩
    rw [unhide HE]
    exact ⟨_, _, rfl, .inl rfl⟩
  · have HE := hide (show cutsOut s = cutsL s (bsS (pts s)) by unfold cutsOut; rw [if_neg hb])
    have CS := hide (fun W => sChars s W (by omega))
    go_enter Tryd.func39, Tryd.ntmps39
    go_wp2_with (go_at_call 102; refine ((unhide CS) _).mono ?_; rintro e w1 ⟨v1, rfl, hv1, hb1⟩; have B1 := hide hb1; have I1 := hide hv1; clear hv1 hb1)
    go_ret
    exact ⟨_, rfl, by rw [unhide HE]; exact unhide I1, unhide B1⟩
set_option maxRecDepth 100000 in
set_option maxHeartbeats 1000000 in
theorem lawCharCuts (s : ByteArray) (w : World) (ht : TabAt w) : Calls Tryd.prog 9 #[.string s] w fun e w' => e = .returned (.bool true) ∧ Below w.heap.size w w' := by
  by_cases hs : 1048576 < s.size
  · go_enter Tryd.func9, Tryd.ntmps9
    go_wp2
    go_ret
    exact ⟨rfl, Below.refl _ _⟩
  · obtain ⟨L, hL⟩ : ∃ L, cutsOut s = L := ⟨_, rfl⟩
    have HT := hide ht
    clear ht
    have hn := cutsOut_le s
    rw [hL] at hn
    have HS : Hid (s.size ≤ 1048576) := hide (by omega)
    have spec := fun W => specCharCuts s W (unhide HS)
    have impl := fun W (h : TabAt W) => implCharCuts s W h (unhide HS)
    rw [hL] at spec impl
    have SP := hide spec
    have IM := hide impl
    clear spec impl hL
    have hm : (1 + (L.length : Int) != 1 + (L.length : Int)) = false := by simp
    have h0 : ¬ (1 + (L.length : Int) < 0) := by omega
    go_enter Tryd.func9, Tryd.ntmps9
    go_wp2_with fail
    refine ((unhide SP) _).mono ?_
    rintro e w1 ⟨v0, rfl, ho0, hb1⟩
    have HO0 := hide ho0
    have HD := hide hb1
    clear ho0 hb1
    go_wp2_with fail
    refine ((unhide IM) _ ((unhide HT).below (unhide HD))).mono ?_
    rintro e w2 ⟨g, rfl, ho2, hb2⟩
    have HG2 := hide ho2
    have C2 := hide hb2
    clear ho2 hb2
    go_wp2_with fail
    refine (eqInts _ _ L _ (IntsAt.owned (unhide HG2)) ((unhide HO0).below (unhide C2)) (by omega)).mono ?_
    rintro e w3 ⟨rfl, hb3⟩
    have HG3 := hide (ownsRow_below (unhide HG2) hb3)
    have C3 := hide ((unhide C2).trans (hb3.mono (unhide C2).size))
    clear hb3 HG2 C2
    go_wp2_with fail
    refine (mark_any w1.heap.size g L 1 _ (by omega) (by omega) (by omega) (unhide HG3)).mono ?_
    rintro e w4 ⟨rfl, ho4, hb4⟩
    have HG4 := hide ho4
    have C4 := hide ((unhide C3).trans hb4)
    clear ho4 hb4 HG3 C3
    go_wp2_with fail
    refine (held_any g L.length 1 _ (by omega) (by omega) (by omega) (owned_seq (unhide HG4))).mono ?_
    rintro e w4' ⟨rfl, rfl⟩
    go_wp2_with fail
    refine ((unhide IM) _ (((unhide HT).below (unhide HD)).below (unhide C4))).mono ?_
    rintro e w5 ⟨h, rfl, ho5, hb5⟩
    have HH5 := hide ho5
    have HG5 := hide (ownsRow_below (unhide HG4) hb5)
    have C5 := hide ((unhide C4).trans (hb5.mono (unhide C4).size))
    clear ho5 hb5 HG4 C4
    go_wp2_with fail
    refine (eqInts _ _ L _ (IntsAt.owned (unhide HH5)) ((unhide HO0).below (unhide C5)) (by omega)).mono ?_
    rintro e w6 ⟨rfl, hb6⟩
    have HG6 := hide (ownsRow_below (unhide HG5) hb6)
    have C6 := hide ((unhide C5).trans (hb6.mono (unhide C5).size))
    clear hb6 HG5 C5 HH5
    go_wp2_with fail
    refine (held_any g L.length 1 _ (by omega) (by omega) (by omega) (owned_seq (unhide HG6))).mono ?_
    rintro e w6' ⟨rfl, rfl⟩
    go_wp2
    go_ret
    exact ⟨rfl, (unhide HD).trans ((unhide C6).mono (unhide HD).size)⟩
end Chr
end Go.Proofs.YtommeaklnndcnaaDoor
