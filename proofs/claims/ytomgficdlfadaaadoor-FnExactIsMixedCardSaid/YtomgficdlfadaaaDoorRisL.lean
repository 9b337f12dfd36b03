/- ScriptsOf and IsMixed of the specification; the laws. -/
import Derived.Test.YtomgficdlfadaaaDoorRisS
import Derived.Test.YtomgficdlfadaaaDoorMarksA
namespace Go.Proofs.YtomgficdlfadaaaDoor.Ris
open Go.RowKit
set_option linter.unusedVariables false
set_option maxRecDepth 100000 in
set_option maxHeartbeats 2000000 in
theorem mixedS (v : Value) (L : List Int) (w : World) (hv : IntsAt w v L) (hL : L.length ≤ 131072) (hP : ∀ x ∈ L, 0 ≤ x ∧ x ≤ 1114111) :
    Calls Tryd.prog 18 #[v] w fun e w' => e = .returned (.bool (decide (1 < (all (tld let1 scr L L.length)).length) || decide (1 < (all (tld dgt1 sysS L L.length)).length))) ∧ Below w.heap.size w w' := by
  have HV := hide hv
  have HP := hide hP
  clear hP
  obtain ⟨va, cap, rfl, _⟩ := hv
  have HO0 := hide (ob_lit w)
  have HB0 : Hid (Below w.heap.size w (w.alloc (.cells #[] 2))) := hide (al1 _ _)
  go_enter Tryd.func18, Tryd.ntmps18
  go_wp2
  go_loopw [3, 4] (fun lv iv wr => ∃ k : Nat, k ≤ L.length ∧ iv = .int .i64 k ∧ Hid (Ob w.heap.size wr lv (all (tld dgt1 sysS L k))) ∧ Hid (Below w.heap.size w wr)) (fun _ iv _ => L.length - (intOf iv).toNat)
  case atStart => exact ⟨0, Nat.zero_le _, rfl, HO0, HB0⟩
  case round =>
    obtain ⟨k, hk, rfl, HO, HB⟩ := hrel
    clear HO0 HB0
    have hBs := (unhide HB).size
    have hal := allT_len dgt1 sysS L k
    by_cases hlt : k < L.length
    · obtain ⟨b, off, cp, he, hbw, hc⟩ := rd_at (unhide HV) (by omega)
      cases he
      have kc := ((unhide HB).cell (p := ⟨b, off + k, none⟩) hbw).trans (hc k hlt)
      have hbr : b < wr.heap.size := by omega
      have hpp := (unhide HP) _ (nth_in hlt)
      have CA := hide (fun W => specCat (nth L k) W)
      rw [cat_eq] at CA
      have CT := hide (fun W => sysS_any (nth L k) W hpp.1 hpp.2)
      have HY := hide (fun h => tld_yes (ask := dgt1) (tel := sysS) hlt h)
      have HN := hide (fun h => tld_no (ask := dgt1) (tel := sysS) hlt h)
      clear hc hpp
      cases ha : dgt1 (nth L k) with
      | true =>
        have hc8 : (catI (nth L k) == 8) = true := ha
        have HS : Hid (all (tld dgt1 sysS L (k + 1)) = put (all (tld dgt1 sysS L k)) (sysS (nth L k))) := hide (by rw [(unhide HY) ha, all_snoc])
        clear ha HY HN
        generalize catI (nth L k) = c at *
        generalize hZ : sysS (nth L k) = z at *
        clear hZ
        generalize nth L k = p at *
        generalize hA : all (tld dgt1 sysS L k) = Rr at *
        clear hA
        have CPt := hide (fun V W h o => putS w.heap.size V Rr z W h (by omega) o)
        go_wp2_with (first
          | (go_at_call 31; refine ((unhide CA) _).mono ?_; rintro e w1 ⟨rfl, hb1⟩; have kc1 := (hb1.cell (p := ⟨b, off + k, none⟩) hbr).trans kc; have O1 := hide ((unhide HO).below hb1); have B1 := hide (j2 (unhide HB) hb1); have h1s := (unhide B1).size; clear hb1)
          | (go_at_call 32; refine ((unhide CT) _).mono ?_; rintro e w' ⟨rfl, hw⟩; obtain rfl := hw.symm; clear hw)
          | (go_at_call 23; refine ((unhide CPt) _ _ h1s (unhide O1)).mono ?_; rintro e w4 ⟨v4, rfl, ho4, hb4⟩; have O4 := hide ho4; have B4 := hide (j2 (unhide B1) hb4); clear ho4 hb4))
        go_roundw
        case rel => exact ⟨k + 1, by omega, by go_num, hide (by rw [unhide HS]; exact unhide O4), B4⟩
        case measure => simp [intOf]; omega
      | false =>
        have hc8 : (catI (nth L k) == 8) = false := ha
        have HS := hide ((unhide HN) ha)
        clear ha HY HN
        generalize catI (nth L k) = c at *
        generalize nth L k = p at *
        go_wp2_with (go_at_call 31; refine ((unhide CA) _).mono ?_; rintro e w1 ⟨rfl, hb1⟩; have O1 := hide ((unhide HO).below hb1); have B1 := hide (j2 (unhide HB) hb1); clear hb1)
        go_roundw
        case rel => exact ⟨k + 1, by omega, by go_num, hide (by rw [unhide HS]; exact unhide O1), B1⟩
        case measure => simp [intOf]; omega
    · obtain rfl : k = L.length := by omega
      have CS := hide (fun V W h => scriptsS V L W h hL)
      obtain ⟨X, hX⟩ : ∃ X, all (tld let1 scr L L.length) = X := ⟨_, rfl⟩
      obtain ⟨Y, hY⟩ : ∃ Y, all (tld dgt1 sysS L L.length) = Y := ⟨_, rfl⟩
      have HX := hide hX
      have HY := hide hY
      rw [hX] at CS
      rw [hY] at HO
      have hU : undef = Value.tuple #[] := rfl
      clear hX hY
      obtain ⟨_, go', co', rfl, _, _, _⟩ := unhide HO
      by_cases h1 : 1 < X.length
      · have h1' : (1 : Int) < (X.length : Int) := by omega
        go_wp2_with (go_at_call 12; refine ((unhide CS) _ _ ((unhide HV).below (unhide HB))).mono ?_; rintro e w5 ⟨v5, rfl, ho5, hb5⟩; obtain ⟨_, g5, c5, rfl, _, _, _⟩ := ho5; have B5 := hide (j2 (unhide HB) hb5); clear hb5)
        go_ret
        exact ⟨by rw [unhide HX, decide_eq_true h1, Bool.true_or]; rfl, unhide B5⟩
      · have h1' : ¬ (1 : Int) < (X.length : Int) := by omega
        go_wp2_with (go_at_call 12; refine ((unhide CS) _ _ ((unhide HV).below (unhide HB))).mono ?_; rintro e w5 ⟨v5, rfl, ho5, hb5⟩; obtain ⟨_, g5, c5, rfl, _, _, _⟩ := ho5; have B5 := hide (j2 (unhide HB) hb5); clear hb5)
        go_ret
        exact ⟨by rw [unhide HX, unhide HY, decide_eq_false h1, Bool.false_or]; show Ending.returned (.bool (decide ((1 : Int) < (X.length : Int)) || decide ((1 : Int) < (Y.length : Int)))) = _; rw [decide_eq_false (show ¬ (1 : Int) < (X.length : Int) by omega), Bool.false_or, show decide ((1 : Int) < (Y.length : Int)) = decide (1 < Y.length) by rw [decide_eq_decide]; omega], unhide B5⟩
theorem steps_bd2 (s : ByteArray) : ∀ n, ∀ p ∈ (steps s n).1, 0 ≤ p ∧ p ≤ 1114111
  | 0 => by simp [steps]
  | n + 1 => by
    unfold steps
    split
    · rename_i h
      intro p hp
      rcases List.mem_append.1 hp with hp | hp
      · exact steps_bd2 s n p hp
      · rw [List.mem_singleton] at hp
        have := (dN_bd s _ h).2.2
        omega
    · exact steps_bd2 s n
theorem pts_bd2 (s : ByteArray) : ∀ x ∈ pts s, 0 ≤ x ∧ x ≤ 1114111 := steps_bd2 s _
set_option maxRecDepth 100000 in
theorem specScs (s : ByteArray) (w : World) : Calls Tryd.prog 5 #[.string s] w fun e w' => ∃ v, e = .returned v ∧ IntsAt w' v (scs s) ∧ Below w.heap.size w w' := by
  by_cases hs : 65536 < s.size
  · have hs' : (65536 : Int) < (s.size : Int) := by omega
    have HE : Hid (scs s = []) := hide (by unfold scs ptsOut; rw [if_pos hs]; rfl)
    go_enter Tryd.func5, Tryd.ntmps5
    go_wp2
    go_ret
    exact ⟨_, rfl, by rw [unhide HE]; exact ⟨_, _, rfl, .inl rfl⟩, al1 _ _⟩
  · have hs' : ¬ (65536 : Int) < (s.size : Int) := by omega
    have hpo : ptsOut s = pts s := by unfold ptsOut; rw [if_neg (by omega)]
    have CP := hide (l01Points s w (by omega))
    have hle := pts_le s
    have CS := hide (fun v W h => scriptsS v (pts s) W h (by omega))
    have HE : Hid (scs s = all (tld let1 scr (pts s) (pts s).length)) := hide (by unfold scs; rw [hpo])
    clear hpo hle
    generalize scs s = Z at *
    generalize all (tld let1 scr (pts s) (pts s).length) = U at *
    generalize pts s = L at *
    go_enter Tryd.func5, Tryd.ntmps5
    go_wp2_with (first
      | (go_at_call 13; refine (unhide CP).mono ?_; rintro e w1 ⟨v1, rfl, ho1, hb1⟩; have I1 := hide (IntsAt.owned ho1); have B1 := hide hb1; clear ho1 hb1)
      | (go_at_call 12; refine ((unhide CS) _ _ (unhide I1)).mono ?_; rintro e w2 ⟨v2, rfl, ho2, hb2⟩; have O2 := hide (IntsAt.owned ho2.1); have B2 := hide (j2 (unhide B1) hb2); clear ho2 hb2))
    go_ret
    exact ⟨_, rfl, by rw [unhide HE]; exact unhide O2, unhide B2⟩
set_option maxRecDepth 100000 in
theorem specMix (s : ByteArray) (w : World) : Calls Tryd.prog 10 #[.string s] w fun e w' => e = .returned (.bool (mix s)) ∧ Below w.heap.size w w' := by
  have hU : undef = Value.tuple #[] := rfl
  by_cases hs : s.size ≤ 65536
  · have hs' : (s.size : Int) ≤ 65536 := by omega
    have hpo : ptsOut s = pts s := by unfold ptsOut; rw [if_neg (by omega)]
    have CP := hide (fun W => l01Points s W (by omega))
    have hle := pts_le s
    have CS := hide (fun v W h => mixedS v (pts s) W h (by omega) (pts_bd2 s))
    have HE : Hid (mix s = (decide (1 < (all (tld let1 scr (pts s) (pts s).length)).length) || decide (1 < (all (tld dgt1 sysS (pts s) (pts s).length)).length))) := hide (by unfold mix scs sys; rw [hpo, tld_sys])
    clear hpo hle
    rw [← unhide HE] at CS
    clear HE
    generalize mix s = z at *
    generalize pts s = L at *
    go_enter Tryd.func10, Tryd.ntmps10
    go_wp2_with (first
      | (go_at_call 13; refine ((unhide CP) _).mono ?_; rintro e w1 ⟨v1, rfl, ho1, hb1⟩; have I1 := hide (IntsAt.owned ho1); have B1 := hide hb1; clear ho1 hb1)
      | (go_at_call 18; refine ((unhide CS) _ _ (unhide I1)).mono ?_; rintro e w2 ⟨rfl, hb2⟩; have B2 := hide (j2 (unhide B1) hb2); clear hb2))
    go_ret
    exact ⟨rfl, unhide B2⟩
  · have hs' : ¬ (s.size : Int) ≤ 65536 := by omega
    have HE : Hid (mix s = false) := hide (by unfold mix scs sys ptsOut; rw [if_pos (by omega)]; rfl)
    go_enter Tryd.func10, Tryd.ntmps10
    go_wp2
    go_ret
    exact ⟨by rw [unhide HE]; rfl, Below.refl _ _⟩
set_option maxRecDepth 100000 in
theorem lawMix (s : ByteArray) (w : World) (ht : TabAt w) : Calls Tryd.prog 4 #[.string s] w fun e w' => e = .returned (.bool true) ∧ Below w.heap.size w w' := by
  have HT := hide ht
  clear ht
  by_cases hs : s.size ≤ 1048576
  · have C1 := hide (specMix s w)
    have C2 := hide (fun W h => implMix s W h hs)
    have hs' : ¬ (1048576 : Int) < (s.size : Int) := by omega
    generalize mix s = t at *
    have hne : (t != t) = false := by simp
    go_enter Tryd.func4, Tryd.ntmps4
    go_wp2_with (first
      | (go_at_call 10; refine (unhide C1).mono ?_; rintro e w1 ⟨rfl, hb1⟩; have T1 := hide ((unhide HT).below hb1); have B1 := hide hb1; clear hb1)
      | (go_at_call 11; refine ((unhide C2) _ (unhide T1)).mono ?_; rintro e w2 ⟨rfl, hb2⟩; have B2 := hide (j2 (unhide B1) hb2); clear hb2))
    go_ret
    exact ⟨rfl, unhide B2⟩
  · have hs' : (1048576 : Int) < (s.size : Int) := by omega
    go_enter Tryd.func4, Tryd.ntmps4
    go_wp2
    go_ret
    exact ⟨rfl, Below.refl _ _⟩
set_option maxRecDepth 100000 in
set_option maxHeartbeats 2000000 in
theorem lawScs (s : ByteArray) (w : World) (ht : TabAt w) : Calls Tryd.prog 3 #[.string s] w fun e w' => e = .returned (.bool true) ∧ Below w.heap.size w w' := by
  by_cases hs0 : 1048576 < s.size
  · have hs' : (1048576 : Int) < (s.size : Int) := by omega
    go_enter Tryd.func3, Tryd.ntmps3
    go_wp2
    go_ret
    exact ⟨rfl, Below.refl _ _⟩
  have hs : s.size ≤ 1048576 := by omega
  have hs' : ¬ (1048576 : Int) < (s.size : Int) := by omega
  clear hs0
  have HT := hide ht
  clear ht
  have hn : (scs s).length ≤ 65536 := Nat.le_trans (allT_len _ _ _ _) (out_len s hs)
  have SP := hide (fun W => specScs s W)
  have IM := hide (fun W h => implScs s W h hs)
  generalize scs s = L at *
  have hm : (1 + (L.length : Int) != 1 + (L.length : Int)) = false := by simp
  have h0 : ¬ (1 + (L.length : Int) < 0) := by omega
  go_enter Tryd.func3, Tryd.ntmps3
  go_wp2_with fail
  refine ((unhide SP) _).mono ?_
  rintro e w1 ⟨v0, rfl, ho0, hb1⟩
  have HO0 := hide ho0
  have HD := hide hb1
  clear ho0 hb1
  go_wp2_with fail
  refine ((unhide IM) _ ((unhide HT).below (unhide HD))).mono ?_
  rintro e w2 ⟨g, rfl, ho2, hb2⟩
  have HG2 := hide ho2
  have C2 := hide hb2
  clear ho2 hb2
  go_wp2_with fail
  refine (eqInts _ _ L _ (IntsAt.owned (unhide HG2)) ((unhide HO0).below (unhide C2)) (by omega)).mono ?_
  rintro e w3 ⟨rfl, hb3⟩
  have HG3 := hide (ownsRow_below (unhide HG2) hb3)
  have C3 := hide ((unhide C2).trans (hb3.mono (unhide C2).size))
  clear hb3 HG2 C2
  go_wp2_with fail
  refine (mark_anyA w1.heap.size g L 1 _ (by omega) (by omega) (by omega) (unhide HG3)).mono ?_
  rintro e w4 ⟨rfl, ho4, hb4⟩
  have HG4 := hide ho4
  have C4 := hide ((unhide C3).trans hb4)
  clear ho4 hb4 HG3 C3
  go_wp2_with fail
  refine (held_anyA g L.length 1 _ (by omega) (by omega) (by omega) (IntsAt.owned (unhide HG4))).mono ?_
  rintro e w4' ⟨rfl, rfl⟩
  go_wp2_with fail
  refine ((unhide IM) _ (((unhide HT).below (unhide HD)).below (unhide C4))).mono ?_
  rintro e w5 ⟨h, rfl, ho5, hb5⟩
  have HH5 := hide ho5
  have HG5 := hide (ownsRow_below (unhide HG4) hb5)
  have C5 := hide ((unhide C4).trans (hb5.mono (unhide C4).size))
  clear ho5 hb5 HG4 C4
  go_wp2_with fail
  refine (eqInts _ _ L _ (IntsAt.owned (unhide HH5)) ((unhide HO0).below (unhide C5)) (by omega)).mono ?_
  rintro e w6 ⟨rfl, hb6⟩
  have HG6 := hide (ownsRow_below (unhide HG5) hb6)
  have C6 := hide ((unhide C5).trans (hb6.mono (unhide C5).size))
  clear hb6 HG5 C5 HH5
  go_wp2_with fail
  refine (held_anyA g L.length 1 _ (by omega) (by omega) (by omega) (IntsAt.owned (unhide HG6))).mono ?_
  rintro e w6' ⟨rfl, rfl⟩
  go_wp2
  go_ret
  exact ⟨rfl, (unhide HD).trans ((unhide C6).mono (unhide HD).size)⟩
end Go.Proofs.YtomgficdlfadaaaDoor.Ris
