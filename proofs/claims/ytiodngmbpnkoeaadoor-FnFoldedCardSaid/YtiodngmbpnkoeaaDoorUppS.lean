/- Upper case of a text, as the program and the specification tell it; the law of Upper. -/
import Derived.Test.YtiodngmbpnkoeaaDoorFolS
import Derived.Deep.Cut
namespace Go.Proofs.YtiodngmbpnkoeaaDoor
namespace Cas
open Go.RowKit
def upperT (s : ByteArray) : List Int := Go.Proofs.YtiodngmbpnkoeaaDoor.small (textL ((ptsOut s).flatMap uo1))
theorem upper_len (s : ByteArray) : ((ptsOut s).flatMap uo1).length ≤ 131072 := by
  have h1 := flat_len (ptsOut s) uo_len
  have h2 := ptsOut_le s
  omega
set_option maxRecDepth 100000 in
set_option maxHeartbeats 4000000 in
theorem implUpperT (s : ByteArray) (w : World) (ht : BlkAt w) (hs : s.size ≤ 1048576) : Calls Tryd.prog 7 #[.string s] w fun e w' => e = .returned (.string (strOfNums (upperT s))) ∧ Below w.heap.size w w' := by
  obtain ⟨i0, hi, hz0, hz1, hz2⟩ := info_parts info2
  have HT := hide ht
  clear ht
  have CP := hide (fun W => implPointsOf s W hs)
  have CX := hide (fun v W h => boundedI v ((ptsOut s).flatMap uo1) W h (by have := upper_len s; omega))
  have HL := hide (ptsOut_le s)
  have HP := hide (ptsOut_pt s)
  have HU : Hid (upperT s = Go.Proofs.YtiodngmbpnkoeaaDoor.small (textL ((ptsOut s).flatMap uo1))) := hide rfl
  rw [flat_eq (ptsOut s) (fun p _ => (uo_eq p).symm)] at CX HU
  generalize ptsOut s = L at *
  generalize upperT s = T at *
  have hL := unhide HL
  clear HL
  go_enter Tryd.func7, Tryd.ntmps7
  go_upto_region 2 with (go_at_call 19; refine ((unhide CP) _).mono ?_; rintro e w1 ⟨v1, rfl, ho1, hb1⟩; have HV := hide (IntsAt.owned ho1); have B1 := hide hb1; clear hb1; obtain ⟨a, cap, rfl, _⟩ := IntsAt.owned ho1; clear ho1)
  have HT1 := hide ((unhide HT).below (unhide B1))
  go_wp2_with (at_make; refine wpList_make_own _ rfl _ _ 32 rfl w1.heap.size 2 i0 (.int .i64 0) 1 Tryd.underlying32 hi hz0 hz1 .i64 .i64 _ L.length rfl rfl rfl (by rw [hz2]; omega) (by unfold maxLen; omega) (by omega) ?_)
  intro w2 hown hgrow
  have HO0 : Hid (w2.ownsRow w1.heap.size 2 1 (.slice (some ⟨w1.heap.size, 0, none⟩) 0 L.length) ((L.take 0).flatMap ui1).length (((L.take 0).flatMap ui1).map (Value.int .i64))) := hide (by simpa using hown)
  have HB0 : Hid (Below w1.heap.size w1 w2) := hide ((Below.refl _ _).grown hgrow (Nat.le_refl _) (fun k hk => by cases hk))
  clear hown hgrow
  go_wp2
  go_loopw [4, 15] (fun v' x wr => ∃ k : Nat, x = .int .i64 k ∧ k ≤ L.length ∧ Hid (wr.ownsRow w1.heap.size 2 1 v' ((L.take k).flatMap ui1).length (((L.take k).flatMap ui1).map (Value.int .i64))) ∧ Hid (Below w1.heap.size w1 wr)) (fun _ x _ => L.length - (intOf x).toNat)
  case atStart => exact ⟨0, rfl, by omega, HO0, HB0⟩
  case round =>
    obtain ⟨k, rfl, hk, HO, HB⟩ := hrel
    clear HO0 HB0
    have hBs := (unhide HB).size
    have hkl := flat_take_len L k ui_len
    by_cases hlt : k < L.length
    · obtain ⟨b, off, cp, he, hbw, hc⟩ := rd_at (unhide HV) (by omega)
      cases he
      have kc := ((unhide HB).cell (p := ⟨b, off + k, none⟩) hbw).trans (hc k hlt)
      have hbr : b < wr.heap.size := by omega
      have HPT := hide (pt_of ((unhide HP) _ (mem_nth hlt)))
      have HS := hide (flat_take (f := ui1) L k hlt)
      obtain ⟨p, hpk⟩ : ∃ p, nth L k = p := ⟨_, rfl⟩
      rw [show L.getD k 0 = p from hpk] at HS
      rw [hpk] at kc HPT
      clear hc hpk
      have hp0 := (unhide HPT).1
      have hp1 := (unhide HPT).2.1
      have CT := hide (fun W => tw_any p W)
      have CI := hide (fun W => inScript_any p 530 W hp0 hp1 (by omega) (by omega))
      have CL := hide (fun W h => implUpper p W h)
      rw [show upI p = upS p from if_pos (unhide HPT)] at CL
      have HF : Hid (ui1 p = if tw p = 608 then [530 + p - tw p, 530 + p - tw p] else [upS p]) := hide rfl
      obtain ⟨q, hq⟩ : ∃ q, tw p = q := ⟨_, rfl⟩
      rw [hq] at CT CI HF
      obtain ⟨y, hy⟩ : ∃ y, 530 + p - q = y := ⟨_, rfl⟩
      rw [hy] at CI HF
      clear hq hy
      by_cases c1 : q = 608
      · rw [if_pos c1] at HF
        have c1' : (q == 608) = true := by simp [c1]
        clear c1
        go_wp2_with (first | (go_at_call 25; refine ((unhide CI) _).mono ?_; rintro e w9 ⟨rfl, hw9⟩; obtain rfl := hw9.symm; clear hw9) | (go_at_call 24; refine ((unhide CT) _).mono ?_; rintro e w9 ⟨rfl, hw9⟩; obtain rfl := hw9.symm; clear hw9) | (at_builtin; refine wpList_append_own _ rfl _ _ 32 rfl w1.heap.size 2 i0 (.int .i64 0) 1 8 Tryd.underlying32 hi hz0 hz1 hz2 rfl (by decide) _ _ _ rfl (owned_alloc (unhide HO) _) ⟨wr.heap.size, 0, none⟩ 2 2 [.int .i64 y, .int .i64 y] rfl rfl (two_new _ _ _ _) (by intro u hu; simp at hu; rcases hu with rfl | rfl <;> rfl) (by unfold maxLen; omega) (by omega) (by simp; omega) ?_))
        intro v' w4 hown' hgrow _
        have R := hide (row_many (R := (L.take k).flatMap ui1) (S := [y, y]) (unhide HB) (Below.refl _ _) (by omega) (unhide HO) hown' (by simp) hgrow)
        clear hown' hgrow
        go_wp2
        go_roundw
        case rel => exact ⟨k + 1, by go_num, by omega, hide (by rw [unhide HS, unhide HF]; exact (unhide R).1), hide (unhide R).2⟩
        case measure => simp [intOf]; omega
      · rw [if_neg c1] at HF
        have c1' : (q == 608) = false := by simp [c1]
        clear c1
        generalize upS p = z at *
        go_wp2_with (first | (go_at_call 24; refine ((unhide CT) _).mono ?_; rintro e w9 ⟨rfl, hw9⟩; obtain rfl := hw9.symm; clear hw9) | (go_at_call 26; refine ((unhide CL) _ ((unhide HT1).below (unhide HB))).mono ?_; rintro e w3 ⟨rfl, hb3⟩; have O3 := hide (ownsRow_below (unhide HO) hb3); have B3 := hide (hb3.mono hBs); have z3 := hb3.size; clear hb3) | (at_builtin; refine wpList_append_own _ rfl _ _ 32 rfl w1.heap.size 2 i0 (.int .i64 0) 1 8 Tryd.underlying32 hi hz0 hz1 hz2 rfl (by decide) _ _ _ rfl (owned_alloc (unhide O3) _) ⟨w3.heap.size, 0, none⟩ 1 1 [.int .i64 z] rfl rfl (cell_one_new _ _ _) (by intro u hu; simp at hu; subst hu; rfl) (by unfold maxLen; omega) (by omega) (by simp; omega) ?_))
        intro v' w4 hown' hgrow _
        have R := hide (row_many (R := (L.take k).flatMap ui1) (S := [z]) (unhide HB) (unhide B3) (by omega) (unhide O3) hown' (by simp) hgrow)
        clear hown' hgrow
        go_wp2
        go_roundw
        case rel => exact ⟨k + 1, by go_num, by omega, hide (by rw [unhide HS, unhide HF]; exact (unhide R).1), hide (unhide R).2⟩
        case measure => simp [intOf]; omega
    · obtain rfl : k = L.length := by omega
      have HO2 : Hid (IntsAt wr u4 (L.flatMap ui1)) := hide (by have := unhide HO; rw [List.take_length] at this; exact IntsAt.owned this)
      go_wp2_with (go_at_call 17; refine ((unhide CX) _ _ (unhide HO2)).mono ?_; rintro e w5 ⟨rfl, hb5⟩; have B5 := hide (join2 (join2 (unhide B1) (unhide HB)) hb5); clear hb5)
      go_ret
      exact ⟨by rw [unhide HU]; rfl, unhide B5⟩
set_option maxRecDepth 100000 in
set_option maxHeartbeats 4000000 in
theorem specUpperT (s : ByteArray) (w : World) (hs : s.size ≤ 1048576) : Calls Tryd.prog 9 #[.string s] w fun e w' => e = .returned (.string (strOfNums (upperT s))) ∧ Below w.heap.size w w' := by
  by_cases hb : 65536 < s.size
  · have HE := hide (show upperT s = [] by unfold upperT ptsOut; rw [if_pos hb]; rfl)
    go_enter Tryd.func9, Tryd.ntmps9
    go_wp2
    go_ret
    exact ⟨by rw [unhide HE]; rfl, Below.refl _ _⟩
  obtain ⟨i0, hi, hz0, hz1, hz2⟩ := info_parts info2
  have e : ptsOut s = pts s := by unfold ptsOut; rw [if_neg hb]
  have HU : Hid (upperT s = Go.Proofs.YtiodngmbpnkoeaaDoor.small (textL ((pts s).flatMap uo1))) := hide (by unfold upperT; rw [e])
  have CP := hide (fun W => l01Points s W (by omega))
  have CX := hide (fun v W h => l01Text v ((pts s).flatMap uo1) W h (by have := upper_len s; rw [e] at this; omega))
  have CM := hide (fun W => smallS (textL ((pts s).flatMap uo1)) W)
  have HL : Hid ((pts s).length ≤ 65536) := hide (by have := pts_le s; omega)
  have HP := hide (pts_pt s)
  clear e
  generalize pts s = L at *
  generalize upperT s = T at *
  have hL := unhide HL
  clear HL
  go_enter Tryd.func9, Tryd.ntmps9
  go_upto_region 4 with (go_at_call 23; refine ((unhide CP) _).mono ?_; rintro e w1 ⟨v1, rfl, ho1, hb1⟩; have HV := hide (IntsAt.owned ho1); have B1 := hide hb1; clear hb1; obtain ⟨a, cap, rfl, _⟩ := IntsAt.owned ho1; clear ho1)
  have HO0 : Hid ((w1.alloc (.cells #[] 2)).ownsRow w1.heap.size 2 1 (.slice (some ⟨w1.heap.size, 0, none⟩) 0 0) ((L.take 0).flatMap uo1).length (((L.take 0).flatMap uo1).map (Value.int .i64))) := hide (World.ownsRow_lit w1 #[] 0 (Nat.le_refl _) (by unfold maxLen; omega) rfl)
  have HB0 : Hid (Below w1.heap.size w1 (w1.alloc (.cells #[] 2))) := hide (below1 _ _)
  go_wp2
  go_loopw [4, 5] (fun v' x wr => ∃ k : Nat, x = .int .i64 k ∧ k ≤ L.length ∧ Hid (wr.ownsRow w1.heap.size 2 1 v' ((L.take k).flatMap uo1).length (((L.take k).flatMap uo1).map (Value.int .i64))) ∧ Hid (Below w1.heap.size w1 wr)) (fun _ x _ => L.length - (intOf x).toNat)
  case atStart => exact ⟨0, rfl, by omega, HO0, HB0⟩
  case round =>
    obtain ⟨k, rfl, hk, HO, HB⟩ := hrel
    clear HO0 HB0
    have hBs := (unhide HB).size
    have hkl := flat_take_len L k uo_len
    by_cases hlt : k < L.length
    · obtain ⟨b, off, cp, he, hbw, hc⟩ := rd_at (unhide HV) (by omega)
      cases he
      have kc := ((unhide HB).cell (p := ⟨b, off + k, none⟩) hbw).trans (hc k hlt)
      have hbr : b < wr.heap.size := by omega
      have HPT := hide (pt_of ((unhide HP) _ (mem_nth hlt)))
      have HS := hide (flat_take (f := uo1) L k hlt)
      obtain ⟨p, hpk⟩ : ∃ p, nth L k = p := ⟨_, rfl⟩
      rw [show L.getD k 0 = p from hpk] at HS
      rw [hpk] at kc HPT
      clear hc hpk
      have hp0 := (unhide HPT).1
      have hp1 := (unhide HPT).2.1
      have CS := hide (fun W => sharp_any p W hp0 hp1)
      have CL := hide (fun W => up_any p W hp0 hp1)
      obtain ⟨bb0, bb1⟩ := bl_in hp0 hp1
      have HF : Hid (uo1 p = if 0 < bl p ∧ p = bl p + 96 then [bl p + 18, bl p + 18] else [upS p]) := hide rfl
      obtain ⟨q, hq⟩ : ∃ q, bl p = q := ⟨_, rfl⟩
      rw [hq] at CS HF bb0 bb1
      clear hq
      by_cases c1 : 0 < q ∧ p = q + 96
      · rw [if_pos c1] at HF
        rw [show (decide (0 < q) && (p == q + 96)) = true by simp [c1.1, c1.2]] at CS
        clear c1
        go_wp2_with (first | (go_at_call 28; refine ((unhide CS) _).mono ?_; rintro e w9 ⟨rfl, hw9⟩; obtain rfl := hw9.symm; clear hw9) | (at_builtin; refine wpList_append_own _ rfl _ _ 32 rfl w1.heap.size 2 i0 (.int .i64 0) 1 8 Tryd.underlying32 hi hz0 hz1 hz2 rfl (by decide) _ _ _ rfl (owned_alloc (unhide HO) _) ⟨wr.heap.size, 0, none⟩ 2 2 [.int .i64 (q + 18), .int .i64 (q + 18)] rfl rfl (two_new _ _ _ _) (by intro u hu; simp at hu; rcases hu with rfl | rfl <;> rfl) (by unfold maxLen; omega) (by omega) (by simp; omega) ?_))
        intro v' w4 hown' hgrow _
        have R := hide (row_many (R := (L.take k).flatMap uo1) (S := [q + 18, q + 18]) (unhide HB) (Below.refl _ _) (by omega) (unhide HO) hown' (by simp) hgrow)
        clear hown' hgrow
        go_wp2
        go_roundw
        case rel => exact ⟨k + 1, by go_num, by omega, hide (by rw [unhide HS, unhide HF]; exact (unhide R).1), hide (unhide R).2⟩
        case measure => simp [intOf]; omega
      · rw [if_neg c1] at HF
        rw [show (decide (0 < q) && (p == q + 96)) = false by simp; intro h e; exact c1 ⟨h, e⟩] at CS
        clear c1
        generalize upS p = z at *
        go_wp2_with (first | (go_at_call 28; refine ((unhide CS) _).mono ?_; rintro e w9 ⟨rfl, hw9⟩; obtain rfl := hw9.symm; clear hw9) | (go_at_call 29; refine ((unhide CL) _).mono ?_; rintro e w3 ⟨rfl, hb3⟩; have O3 := hide (ownsRow_below (unhide HO) hb3); have B3 := hide (hb3.mono hBs); have z3 := hb3.size; clear hb3) | (at_builtin; refine wpList_append_own _ rfl _ _ 32 rfl w1.heap.size 2 i0 (.int .i64 0) 1 8 Tryd.underlying32 hi hz0 hz1 hz2 rfl (by decide) _ _ _ rfl (owned_alloc (unhide O3) _) ⟨w3.heap.size, 0, none⟩ 1 1 [.int .i64 z] rfl rfl (cell_one_new _ _ _) (by intro u hu; simp at hu; subst hu; rfl) (by unfold maxLen; omega) (by omega) (by simp; omega) ?_))
        intro v' w4 hown' hgrow _
        have R := hide (row_many (R := (L.take k).flatMap uo1) (S := [z]) (unhide HB) (unhide B3) (by omega) (unhide O3) hown' (by simp) hgrow)
        clear hown' hgrow
        go_wp2
        go_roundw
        case rel => exact ⟨k + 1, by go_num, by omega, hide (by rw [unhide HS, unhide HF]; exact (unhide R).1), hide (unhide R).2⟩
        case measure => simp [intOf]; omega
    · obtain rfl : k = L.length := by omega
      have HO2 : Hid (IntsAt wr u4 (L.flatMap uo1)) := hide (by have := unhide HO; rw [List.take_length] at this; exact IntsAt.owned this)
      go_wp2_with (first | (go_at_call 21; refine ((unhide CX) _ _ (unhide HO2)).mono ?_; rintro e w5 ⟨rfl, hb5⟩; have B5 := hide (join2 (join2 (unhide B1) (unhide HB)) hb5); clear hb5) | (go_at_call 20; refine ((unhide CM) _).mono ?_; rintro e w9 ⟨rfl, hw9⟩; obtain rfl := hw9.symm; clear hw9))
      go_ret
      exact ⟨by rw [unhide HU]; rfl, unhide B5⟩
end Cas
end Go.Proofs.YtiodngmbpnkoeaaDoor
