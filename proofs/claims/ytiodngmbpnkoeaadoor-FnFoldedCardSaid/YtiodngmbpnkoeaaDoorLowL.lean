/- Lower case of a text, as the program and the specification tell it; the law of Lower. -/
import Derived.Test.YtiodngmbpnkoeaaDoorMG
import Derived.Test.YtiodngmbpnkoeaaDoorUppS
namespace Go.Proofs.YtiodngmbpnkoeaaDoor
namespace Cas
open Go.RowKit
/-- Both tables lie where they should. -/
def Both (w : World) : Prop := TabAt w ∧ BlkAt w
theorem Both.below {w w' : World} (h : Both w) (hb : Below w.heap.size w w') : Both w' := ⟨h.1.below hb, h.2.below hb⟩
set_option maxRecDepth 100000 in
set_option maxHeartbeats 4000000 in
theorem lowAtI (b off cap n : Nat) (L : List Int) (w : World) (hb : b < w.heap.size) (hc : ∀ i, i < L.length → w.cell? ⟨b, off + i, none⟩ = some (.int .i64 (nth L i))) (hL : L.length ≤ 65536) (hn : n < L.length) (hp : isPt (nth L n) = true) (ht : Both w) : Calls Tryd.prog 27 #[.slice (some ⟨b, off, none⟩) L.length cap, .int .i64 (n : Int)] w fun e w' => e = .returned (.int .i64 (loI L n)) ∧ Below w.heap.size w w' := by
  have CE := hide (fun W h1 h2 h3 => endsI b off cap n L W h1 h2 hL hn h3)
  have c0 := hc n hn
  have HC := hide hc
  have HT := hide ht
  have HPT := hide (pt_of hp)
  have HR : Hid (loI L n = if tw (nth L n) = 530 ∧ endW L n = true then 609 + nth L n - tw (nth L n) else lowS (nth L n)) := hide rfl
  generalize loI L n = R at *
  generalize endW L n = D at *
  obtain ⟨p, hpk⟩ : ∃ p, nth L n = p := ⟨_, rfl⟩
  rw [hpk] at c0 HPT HR
  clear hc ht hp hpk
  have CT := hide (fun W => tw_any p W)
  have CI := hide (fun W => inScript_any p 609 W (unhide HPT).1 (unhide HPT).2.1 (by omega) (by omega))
  have CL := hide (fun W h => implLower p W h)
  rw [show lowI p = lowS p from if_pos (unhide HPT)] at CL
  obtain ⟨q, hq⟩ : ∃ q, tw p = q := ⟨_, rfl⟩
  rw [hq] at CT CI HR
  obtain ⟨y, hy⟩ : ∃ y, 609 + p - q = y := ⟨_, rfl⟩
  rw [hy] at CI HR
  generalize lowS p = z at *
  clear hq hy
  by_cases c1 : q = 530
  · have c1' : (q == 530) = true := by simp [c1]
    cases hD : D
    · have HR2 : Hid (R = z) := hide (by rw [unhide HR, hD, if_neg (by simp)])
      rw [hD] at CE
      clear c1 HR
      go_enter Tryd.func27, Tryd.ntmps27
      go_wp2_with (first | (go_at_call 24; refine ((unhide CT) _).mono ?_; rintro e w9 ⟨rfl, hw9⟩; obtain rfl := hw9.symm; clear hw9) | (go_at_call 51; refine ((unhide CE) _ hb (unhide HC) (unhide HT).1).mono ?_; rintro e w2 ⟨rfl, hb2⟩; have B2 := hide hb2; clear hb2) | (go_at_call 45; refine ((unhide CL) _ ((unhide HT).2.below (unhide B2))).mono ?_; rintro e w3 ⟨rfl, hb3⟩; have B3 := hide (join2 (unhide B2) hb3); clear hb3))
      go_ret
      exact ⟨by rw [unhide HR2]; rfl, unhide B3⟩
    · have HR2 : Hid (R = y) := hide (by rw [unhide HR, hD, if_pos ⟨c1, rfl⟩])
      rw [hD] at CE
      clear c1 HR
      go_enter Tryd.func27, Tryd.ntmps27
      go_wp2_with (first | (go_at_call 24; refine ((unhide CT) _).mono ?_; rintro e w9 ⟨rfl, hw9⟩; obtain rfl := hw9.symm; clear hw9) | (go_at_call 51; refine ((unhide CE) _ hb (unhide HC) (unhide HT).1).mono ?_; rintro e w2 ⟨rfl, hb2⟩; have B2 := hide hb2; clear hb2) | (go_at_call 25; refine ((unhide CI) _).mono ?_; rintro e w9 ⟨rfl, hw9⟩; obtain rfl := hw9.symm; clear hw9))
      go_ret
      exact ⟨by rw [unhide HR2]; rfl, unhide B2⟩
  · have c1' : (q == 530) = false := by simp [c1]
    have HR2 : Hid (R = z) := hide (by rw [unhide HR, if_neg (fun h => c1 h.1)])
    clear c1 HR
    go_enter Tryd.func27, Tryd.ntmps27
    go_wp2_with (first | (go_at_call 24; refine ((unhide CT) _).mono ?_; rintro e w9 ⟨rfl, hw9⟩; obtain rfl := hw9.symm; clear hw9) | (go_at_call 45; refine ((unhide CL) _ (unhide HT).2).mono ?_; rintro e w3 ⟨rfl, hb3⟩; have B3 := hide hb3; clear hb3))
    go_ret
    exact ⟨by rw [unhide HR2]; rfl, unhide B3⟩
set_option maxRecDepth 100000 in
set_option maxHeartbeats 4000000 in
theorem lowAtS (b off cap n : Nat) (L : List Int) (w : World) (hb : b < w.heap.size) (hc : ∀ i, i < L.length → w.cell? ⟨b, off + i, none⟩ = some (.int .i64 (nth L i))) (hL : L.length ≤ 65536) (hn : n < L.length) (hp : isPt (nth L n) = true) : Calls Tryd.prog 30 #[.slice (some ⟨b, off, none⟩) L.length cap, .int .i64 (n : Int)] w fun e w' => e = .returned (.int .i64 (loI L n)) ∧ Below w.heap.size w w' := by
  rw [lo_eq]
  have CE := hide (fun W h1 h2 => endsS b off cap n L W h1 h2 hL hn)
  have c0 := hc n hn
  have HC := hide hc
  have HPT := hide (pt_of hp)
  have HR : Hid (loS L n = if (0 < bl (nth L n) ∧ nth L n = bl (nth L n) + 18) ∧ endW L n = true then bl (nth L n) + 97 else lowS (nth L n)) := hide rfl
  generalize loS L n = R at *
  generalize endW L n = D at *
  obtain ⟨p, hpk⟩ : ∃ p, nth L n = p := ⟨_, rfl⟩
  rw [hpk] at c0 HPT HR
  clear hc hp hpk
  have hp0 := (unhide HPT).1
  have hp1 := (unhide HPT).2.1
  have CB := hide (fun W => block_any p W hp0 hp1)
  have CL := hide (fun W => lower_any p W hp0 hp1)
  obtain ⟨bb0, bb1⟩ := bl_in hp0 hp1
  obtain ⟨q, hq⟩ : ∃ q, bl p = q := ⟨_, rfl⟩
  rw [hq] at CB HR bb0 bb1
  generalize lowS p = z at *
  clear hq
  by_cases c1 : 0 < q
  · by_cases c2 : p = q + 18
    · have c2' : (p == q + 18) = true := by simp [c2]
      cases hD : D
      · have HR2 : Hid (R = z) := hide (by rw [unhide HR, hD, if_neg (by simp)])
        rw [hD] at CE
        clear c2 HR
        go_enter Tryd.func30, Tryd.ntmps30
        go_wp2_with (first | (go_at_call 47; refine ((unhide CB) _).mono ?_; rintro e w9 ⟨rfl, hw9⟩; obtain rfl := hw9.symm; clear hw9) | (go_at_call 53; refine ((unhide CE) _ hb (unhide HC)).mono ?_; rintro e w2 ⟨rfl, hb2⟩; have B2 := hide hb2; clear hb2) | (go_at_call 48; refine ((unhide CL) _).mono ?_; rintro e w3 ⟨rfl, hb3⟩; have B3 := hide (join2 (unhide B2) hb3); clear hb3))
        go_ret
        exact ⟨by rw [unhide HR2]; rfl, unhide B3⟩
      · have HR2 : Hid (R = q + 97) := hide (by rw [unhide HR, hD, if_pos ⟨⟨c1, c2⟩, rfl⟩])
        rw [hD] at CE
        clear c2 HR
        go_enter Tryd.func30, Tryd.ntmps30
        go_wp2_with (first | (go_at_call 47; refine ((unhide CB) _).mono ?_; rintro e w9 ⟨rfl, hw9⟩; obtain rfl := hw9.symm; clear hw9) | (go_at_call 53; refine ((unhide CE) _ hb (unhide HC)).mono ?_; rintro e w2 ⟨rfl, hb2⟩; have B2 := hide hb2; clear hb2))
        go_ret
        exact ⟨by rw [unhide HR2]; rfl, unhide B2⟩
    · have c2' : (p == q + 18) = false := by simp [c2]
      have HR2 : Hid (R = z) := hide (by rw [unhide HR, if_neg (fun h => c2 h.1.2)])
      clear c2 HR
      go_enter Tryd.func30, Tryd.ntmps30
      go_wp2_with (first | (go_at_call 47; refine ((unhide CB) _).mono ?_; rintro e w9 ⟨rfl, hw9⟩; obtain rfl := hw9.symm; clear hw9) | (go_at_call 48; refine ((unhide CL) _).mono ?_; rintro e w3 ⟨rfl, hb3⟩; have B3 := hide hb3; clear hb3))
      go_ret
      exact ⟨by rw [unhide HR2]; rfl, unhide B3⟩
  · have HR2 : Hid (R = z) := hide (by rw [unhide HR, if_neg (fun h => c1 h.1.1)])
    clear HR
    go_enter Tryd.func30, Tryd.ntmps30
    go_wp2_with (first | (go_at_call 47; refine ((unhide CB) _).mono ?_; rintro e w9 ⟨rfl, hw9⟩; obtain rfl := hw9.symm; clear hw9) | (go_at_call 48; refine ((unhide CL) _).mono ?_; rintro e w3 ⟨rfl, hb3⟩; have B3 := hide hb3; clear hb3))
    go_ret
    exact ⟨by rw [unhide HR2]; rfl, unhide B3⟩
/-- A row in lower case. -/
def lowL (L : List Int) : List Int := (List.range L.length).map (loI L)
theorem lowL_len (L : List Int) : (lowL L).length = L.length := by simp [lowL]
theorem lowL_nth (L : List Int) (k : Nat) (h : k < L.length) : nth (lowL L) k = loI L k := by simp [nth, lowL, List.getD, h]
def tkL (X : List Int) (k : Nat) : List Int := X.take k
theorem take_nth (X : List Int) (k : Nat) (h : k < X.length) : tkL X (k + 1) = tkL X k ++ [nth X k] := by
  unfold tkL
  rw [List.take_succ_eq_append_getElem h]
  simp [nth, List.getD, h]
def lowerT (s : ByteArray) : List Int := Go.Proofs.YtiodngmbpnkoeaaDoor.small (textL (lowL (ptsOut s)))
set_option maxRecDepth 100000 in
set_option maxHeartbeats 4000000 in
theorem implLowerT (s : ByteArray) (w : World) (ht : Both w) (hs : s.size ≤ 1048576) : Calls Tryd.prog 8 #[.string s] w fun e w' => e = .returned (.string (strOfNums (lowerT s))) ∧ Below w.heap.size w w' := by
  obtain ⟨i0, hi, hz0, hz1, hz2⟩ := info_parts info2
  have HT := hide ht
  clear ht
  have CP := hide (fun W => implPointsOf s W hs)
  have CX := hide (fun v W h => boundedI v (lowL (ptsOut s)) W h (by have := ptsOut_le s; rw [lowL_len]; omega))
  have HL := hide (ptsOut_le s)
  have HP := hide (ptsOut_pt s)
  have HU : Hid (lowerT s = Go.Proofs.YtiodngmbpnkoeaaDoor.small (textL (lowL (ptsOut s)))) := hide rfl
  generalize ptsOut s = L at *
  generalize lowerT s = T at *
  have hL := unhide HL
  clear HL
  have HXL := hide (lowL_len L)
  have HXN := hide (lowL_nth L)
  generalize lowL L = X at *
  go_enter Tryd.func8, Tryd.ntmps8
  go_upto_region 2 with (go_at_call 19; refine ((unhide CP) _).mono ?_; rintro e w1 ⟨v1, rfl, ho1, hb1⟩; have HV := hide (IntsAt.owned ho1); have B1 := hide hb1; clear hb1; obtain ⟨a, cap, rfl, _⟩ := IntsAt.owned ho1; clear ho1)
  have HT1 := hide ((unhide HT).below (unhide B1))
  go_wp2_with (at_make; refine wpList_make_full _ rfl _ _ 32 rfl w1.heap.size 2 i0 (.int .i64 0) 1 Tryd.underlying32 hi hz0 hz1 .i64 .i64 _ _ L.length rfl rfl rfl rfl (by rw [hz2]; omega) (by unfold maxLen; omega) (by omega) ?_)
  intro w2 hown hgrow
  have HO0 : Hid (w2.ownsRow w1.heap.size 2 1 (.slice (some ⟨w1.heap.size, 0, none⟩) L.length L.length) L.length ((fill X 0).map (Value.int .i64))) := hide (by rw [← unhide HXL] at hown ⊢; exact made_owned hown)
  have HB0 : Hid (Below w1.heap.size w1 w2) := hide ((Below.refl _ _).grown hgrow (Nat.le_refl _) (fun k hk => by cases hk))
  clear hown hgrow
  go_wp2
  go_loopw [13] (fun x wr => ∃ k : Nat, x = .int .i64 k ∧ k ≤ L.length ∧ Hid (wr.ownsRow w1.heap.size 2 1 (.slice (some ⟨w1.heap.size, 0, none⟩) L.length L.length) L.length ((fill X k).map (Value.int .i64))) ∧ Hid (Below w1.heap.size w1 wr)) (fun x _ => L.length - (intOf x).toNat)
  case atStart => exact ⟨0, rfl, by omega, HO0, HB0⟩
  case round =>
    obtain ⟨k, rfl, hk, HO, HB⟩ := hrel
    clear HO0 HB0
    have hBs := (unhide HB).size
    by_cases hlt : k < L.length
    · obtain ⟨b, off, cp, he, hbw, hc⟩ := rd_at (unhide HV) (by omega)
      cases he
      have kc := hide (fun i (hi : i < L.length) => ((unhide HB).cell (p := ⟨b, off + i, none⟩) hbw).trans (hc i hi))
      have hbr : b < wr.heap.size := by omega
      have CA := hide (lowAtI b off cap k L wr hbr (unhide kc) (by omega) hlt ((unhide HP) _ (mem_nth hlt)) ((unhide HT1).below (unhide HB)))
      rw [← (unhide HXN) k hlt] at CA
      have HM := hide (fill_set X k (by rw [unhide HXL]; exact hlt) (Value.int .i64))
      have hfl := hide (fill_length X k (by rw [unhide HXL]; exact hk))
      obtain ⟨z, hz⟩ : ∃ z, nth X k = z := ⟨_, rfl⟩
      rw [hz] at CA HM
      clear hc hz
      go_wp2_with (go_at_call 27; refine (unhide CA).mono ?_; rintro e w3 ⟨rfl, hb3⟩; have O3 := hide (ownsRow_below (unhide HO) hb3); have B3 := hide ((unhide HB).trans (hb3.mono hBs)); clear hb3; have c2 := (unhide O3).cellAt k (by omega); rw [List.getElem?_eq_getElem (by simp [unhide hfl, unhide HXL]; omega)] at c2; have c3 := (unhide O3).frozenAt k)
      have hst := (unhide O3).stored k (.int .i64 z)
      rw [unhide HM] at hst
      have HO' := hide hst.1
      have HB' := hide ((unhide B3).setCell (p := ⟨w1.heap.size, k, none⟩) (Nat.le_refl _) (.int .i64 z))
      clear hst
      go_roundw
      case rel => exact ⟨k + 1, by go_num, by omega, HO', HB'⟩
      case measure => simp [intOf]; omega
    · obtain rfl : k = L.length := by omega
      have HO2 : Hid (IntsAt wr (.slice (some ⟨w1.heap.size, 0, none⟩) L.length L.length) X) := hide (by have := unhide HO; rw [← unhide HXL, fill_all, unhide HXL] at this; exact IntsAt.owned this)
      go_wp2_with (go_at_call 17; refine ((unhide CX) _ _ (unhide HO2)).mono ?_; rintro e w5 ⟨rfl, hb5⟩; have B5 := hide (join2 (join2 (unhide B1) (unhide HB)) hb5); clear hb5)
      go_ret
      exact ⟨by rw [unhide HU]; rfl, unhide B5⟩
set_option maxRecDepth 100000 in
set_option maxHeartbeats 4000000 in
theorem specLowerT (s : ByteArray) (w : World) (hs : s.size ≤ 1048576) : Calls Tryd.prog 10 #[.string s] w fun e w' => e = .returned (.string (strOfNums (lowerT s))) ∧ Below w.heap.size w w' := by
  by_cases hb : 65536 < s.size
  · have HE := hide (show lowerT s = [] by unfold lowerT ptsOut; rw [if_pos hb]; rfl)
    go_enter Tryd.func10, Tryd.ntmps10
    go_wp2
    go_ret
    exact ⟨by rw [unhide HE]; rfl, Below.refl _ _⟩
  obtain ⟨i0, hi, hz0, hz1, hz2⟩ := info_parts info2
  have e : ptsOut s = pts s := by unfold ptsOut; rw [if_neg hb]
  have HU : Hid (lowerT s = Go.Proofs.YtiodngmbpnkoeaaDoor.small (textL (lowL (pts s)))) := hide (by unfold lowerT; rw [e])
  have CP := hide (fun W => l01Points s W (by omega))
  have CX := hide (fun v W h => l01Text v (lowL (pts s)) W h (by have := pts_le s; rw [lowL_len]; omega))
  have CM := hide (fun W => smallS (textL (lowL (pts s))) W)
  have HL : Hid ((pts s).length ≤ 65536) := hide (by have := pts_le s; omega)
  have HP := hide (pts_pt s)
  clear e
  generalize pts s = L at *
  generalize lowerT s = T at *
  have hL := unhide HL
  clear HL
  have HXL := hide (lowL_len L)
  have HXN := hide (lowL_nth L)
  generalize lowL L = X at *
  go_enter Tryd.func10, Tryd.ntmps10
  go_upto_region 4 with (go_at_call 23; refine ((unhide CP) _).mono ?_; rintro e w1 ⟨v1, rfl, ho1, hb1⟩; have HV := hide (IntsAt.owned ho1); have B1 := hide hb1; clear hb1; obtain ⟨a, cap, rfl, _⟩ := IntsAt.owned ho1; clear ho1)
  have HO0 : Hid ((w1.alloc (.cells #[] 2)).ownsRow w1.heap.size 2 1 (.slice (some ⟨w1.heap.size, 0, none⟩) 0 0) (tkL X 0).length ((tkL X 0).map (Value.int .i64))) := hide (World.ownsRow_lit w1 #[] 0 (Nat.le_refl _) (by unfold maxLen; omega) rfl)
  have HB0 : Hid (Below w1.heap.size w1 (w1.alloc (.cells #[] 2))) := hide (below1 _ _)
  go_wp2
  go_loopw [4, 5] (fun v' x wr => ∃ k : Nat, x = .int .i64 k ∧ k ≤ L.length ∧ Hid (wr.ownsRow w1.heap.size 2 1 v' (tkL X k).length ((tkL X k).map (Value.int .i64))) ∧ Hid (Below w1.heap.size w1 wr)) (fun _ x _ => L.length - (intOf x).toNat)
  case atStart => exact ⟨0, rfl, by omega, HO0, HB0⟩
  case round =>
    obtain ⟨k, rfl, hk, HO, HB⟩ := hrel
    clear HO0 HB0
    have hBs := (unhide HB).size
    have hkl : (tkL X k).length ≤ 65536 := by unfold tkL; rw [List.length_take, unhide HXL]; omega
    by_cases hlt : k < L.length
    · obtain ⟨b, off, cp, he, hbw, hc⟩ := rd_at (unhide HV) (by omega)
      cases he
      have kc := hide (fun i (hi : i < L.length) => ((unhide HB).cell (p := ⟨b, off + i, none⟩) hbw).trans (hc i hi))
      have hbr : b < wr.heap.size := by omega
      have CA := hide (lowAtS b off cap k L wr hbr (unhide kc) (by omega) hlt ((unhide HP) _ (mem_nth hlt)))
      rw [← (unhide HXN) k hlt] at CA
      have HS := hide (take_nth X k (by rw [unhide HXL]; exact hlt))
      obtain ⟨z, hz⟩ : ∃ z, nth X k = z := ⟨_, rfl⟩
      rw [hz] at CA HS
      clear hc hz
      go_wp2_with (first | (go_at_call 30; refine (unhide CA).mono ?_; rintro e w3 ⟨rfl, hb3⟩; have O3 := hide (ownsRow_below (unhide HO) hb3); have B3 := hide (hb3.mono hBs); have z3 := hb3.size; clear hb3) | (at_builtin; refine wpList_append_own _ rfl _ _ 32 rfl w1.heap.size 2 i0 (.int .i64 0) 1 8 Tryd.underlying32 hi hz0 hz1 hz2 rfl (by decide) _ _ _ rfl (owned_alloc (unhide O3) _) ⟨w3.heap.size, 0, none⟩ 1 1 [.int .i64 z] rfl rfl (cell_one_new _ _ _) (by intro u hu; simp at hu; subst hu; rfl) (by unfold maxLen; omega) (by omega) (by simp; omega) ?_))
      intro v' w4 hown' hgrow _
      have R := hide (row_many (R := tkL X k) (S := [z]) (unhide HB) (unhide B3) (by omega) (unhide O3) hown' (by simp) hgrow)
      clear hown' hgrow
      go_wp2
      go_roundw
      case rel => exact ⟨k + 1, by go_num, by omega, hide (by rw [unhide HS]; exact (unhide R).1), hide (unhide R).2⟩
      case measure => simp [intOf]; omega
    · obtain rfl : k = L.length := by omega
      have HO2 : Hid (IntsAt wr u4 X) := hide (by have := unhide HO; unfold tkL at this; rw [← unhide HXL, List.take_length] at this; exact IntsAt.owned this)
      go_wp2_with (first | (go_at_call 21; refine ((unhide CX) _ _ (unhide HO2)).mono ?_; rintro e w5 ⟨rfl, hb5⟩; have B5 := hide (join2 (join2 (unhide B1) (unhide HB)) hb5); clear hb5) | (go_at_call 20; refine ((unhide CM) _).mono ?_; rintro e w9 ⟨rfl, hw9⟩; obtain rfl := hw9.symm; clear hw9))
      go_ret
      exact ⟨by rw [unhide HU]; rfl, unhide B5⟩
end Cas
end Go.Proofs.YtiodngmbpnkoeaaDoor
