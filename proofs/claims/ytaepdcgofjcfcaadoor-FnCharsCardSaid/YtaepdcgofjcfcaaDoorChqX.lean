/- A drawn text of chapter 8: some text, not too long; the source is one again. -/
import Derived.Test.YtaepdcgofjcfcaaDoorDTxI
namespace Go.Proofs.YtaepdcgofjcfcaaDoor.Dr
open Go.RowKit
set_option linter.unusedVariables false
theorem size2f (t : ByteArray) (k : Nat) (x : Int) (ht : t.size ≤ 1000) : (t.extract 0 k ++ strOfNums [x] ++ t.extract k t.size).size ≤ 1001 := by
  rw [ByteArray.size_append, ByteArray.size_append, strOfNums_size, ByteArray.size_extract, ByteArray.size_extract]; simp; omega
theorem size3f (t : ByteArray) (k : Nat) (ht : t.size ≤ 1000) : (t.extract 0 k ++ t.extract (k + 1) t.size).size ≤ 1001 := by
  rw [ByteArray.size_append, ByteArray.size_extract, ByteArray.size_extract]; omega
theorem size4f (t : ByteArray) (k : Nat) (x : Int) (ht : t.size ≤ 1000) : (t.extract 0 k ++ strOfNums [x] ++ t.extract (k + 1) t.size).size ≤ 1001 := by
  rw [ByteArray.size_append, ByteArray.size_append, strOfNums_size, ByteArray.size_extract, ByteArray.size_extract]; simp; omega
set_option maxHeartbeats 2000000 in
set_option maxRecDepth 100000 in
theorem spoil_few (w : World) (src : Nat) (a : Option Addr) (len cap : Nat) (size : Int) (t : ByteArray) (hl : len ≤ 1048576) (ht : t.size ≤ 1000) (h : SrcAt w src a len cap size) :
    Calls Tryd.prog 26 #[.pointer (some ⟨src, 0, none⟩), .string t] w fun e w' => ∃ s : ByteArray, e = .returned (.string s) ∧ s.size ≤ 1001 ∧ SrcAt w' src a len cap size ∧ w.grownBy w' (some src) := by
  have H := hide h
  clear h
  have hcv := conv1
  go_enter Tryd.func26, Tryd.ntmps26
  go_wp2_with fail
  refine (n_nat _ src a len cap size _ (by omega) (by omega) hl (unhide H)).mono ?_
  rintro e w1 ⟨k, rfl, hk, hs, hg⟩
  have S1 := hide hs
  have G1 := hide hg
  clear hs hg H
  go_wp2_with fail
  refine (n_nat _ src a len cap size 17 (by omega) (by omega) hl (unhide S1)).mono ?_
  rintro e w2 ⟨q, rfl, hq, hs, hg⟩
  have S2 := hide hs
  have G2 := hide (grown_trans (unhide G1) hg)
  clear hs hg S1 G1
  have hk2 : k ≤ t.size := by omega
  have a1 := add1 t k (by omega)
  have a2 := add2 t k (by omega)
  have a3 := add3 t k (by omega)
  have a4 := add4 t k (by omega)
  by_cases hkt : k = t.size
  · have e1 : ((k : Int) == (t.size : Int)) = true := by simp; omega
    clear hkt
    go_wp2
    go_quiet (fail)
    go_wp2
    go_ret
    exact ⟨_, rfl, size2f t k _ ht, src_keep (src_alloc (unhide S2) _) (Nat.le_refl _) (fun j hj => rfl), grown_trans (unhide G2) (grown_drewN (grown_alloc _ _ _) _)⟩
  · have e1 : ((k : Int) == (t.size : Int)) = false := by simp; omega
    have hk3 : k + 1 ≤ t.size := by omega
    clear hkt
    go_wp2_with fail
    refine (one_any _ src a len cap size 3 (by omega) (by omega) hl (src_alloc (unhide S2) _)).mono ?_
    rintro e w3 ⟨b, rfl, hs, hg⟩
    have S3 := hide hs
    have G3 := hide (grown_trans (unhide G2) (grown_trans (grown_alloc _ _ _) hg))
    clear hs hg S2 G2
    cases b
    · go_wp2_with fail
      refine (one_any _ src a len cap size 2 (by omega) (by omega) hl (unhide S3)).mono ?_
      rintro e w4 ⟨b, rfl, hs, hg⟩
      have S4' := hide hs
      have G4 := hide (grown_trans (unhide G3) hg)
      clear hs hg S3 G3
      cases b
      · go_wp2
        go_quiet (fail)
        go_wp2
        go_ret
        exact ⟨_, rfl, size4f t k _ ht, src_keep (unhide S4') (Nat.le_refl _) (fun j hj => rfl), grown_drewN (unhide G4) _⟩
      · go_wp2
        go_quiet (fail)
        go_wp2
        go_ret
        exact ⟨_, rfl, size3f t k ht, src_keep (unhide S4') (Nat.le_refl _) (fun j hj => rfl), grown_drewN (unhide G4) _⟩
    · go_wp2
      go_quiet (fail)
      go_wp2
      go_ret
      exact ⟨_, rfl, size2f t k _ ht, src_keep (unhide S3) (Nat.le_refl _) (fun j hj => rfl), grown_drewN (unhide G3) _⟩
set_option maxHeartbeats 4000000 in
set_option maxRecDepth 100000 in
theorem cutPoint_any (w0 : World) (src : Nat) (a : Option Addr) (len cap : Nat) (size : Int) (hl : len ≤ 1048576) (h : SrcAt w0 src a len cap size) :
    Calls Tryd.prog 23 #[.pointer (some ⟨src, 0, none⟩)] w0 fun e w' => ∃ x : Int, e = .returned (.int .i64 x) ∧ SrcAt w' src a len cap size ∧ w0.grownBy w' (some src) := by
  have S0 := hide h
  have G0 := hide (grown_refl w0 (some src))
  clear h
  go_enter Tryd.func23, Tryd.ntmps23
  go_wp2_with fail
  refine (n_nat _ src a len cap size 14 (by omega) (by omega) hl (unhide S0)).mono ?_
  rintro e w1 ⟨c, rfl, hc, hs, hg⟩
  have S1 := hide hs
  have G1 := hide (grown_trans (unhide G0) hg)
  clear hs hg S0 G0
  obtain rfl | rfl | rfl | rfl | rfl | rfl | rfl | rfl | rfl | rfl | rfl | rfl | rfl | rfl : c = 0 ∨ c = 1 ∨ c = 2 ∨ c = 3 ∨ c = 4 ∨ c = 5 ∨ c = 6 ∨ c = 7 ∨ c = 8 ∨ c = 9 ∨ c = 10 ∨ c = 11 ∨ c = 12 ∨ c = 13 := by omega
  · go_wp2_with fail
    refine (n_idx w1 _ src a len cap size 4 (by omega) (by omega) hl (unhide S1) (by intro i hi; match i, hi with | 0, _ => exact ⟨_, rfl⟩ | 1, _ => exact ⟨_, rfl⟩ | 2, _ => exact ⟨_, rfl⟩ | 3, _ => exact ⟨_, rfl⟩)).mono ?_
    rintro e w2 ⟨r, x, rfl, hr, hx, hs, hg⟩
    have hr2 : (r : Int) < 4 := by omega
    have S2 := hide hs
    have G2 := hide (grown_trans (unhide G1) hg)
    clear hs hg S1 G1
    go_wp2
    go_ret
    exact ⟨_, rfl, unhide S2, unhide G2⟩
  · go_wp2_with fail
    refine (n_idx w1 _ src a len cap size 5 (by omega) (by omega) hl (unhide S1) (by intro i hi; match i, hi with | 0, _ => exact ⟨_, rfl⟩ | 1, _ => exact ⟨_, rfl⟩ | 2, _ => exact ⟨_, rfl⟩ | 3, _ => exact ⟨_, rfl⟩ | 4, _ => exact ⟨_, rfl⟩)).mono ?_
    rintro e w2 ⟨r, x, rfl, hr, hx, hs, hg⟩
    have hr2 : (r : Int) < 5 := by omega
    have S2 := hide hs
    have G2 := hide (grown_trans (unhide G1) hg)
    clear hs hg S1 G1
    go_wp2
    go_ret
    exact ⟨_, rfl, unhide S2, unhide G2⟩
  · go_wp2_with fail
    refine (n_idx w1 _ src a len cap size 5 (by omega) (by omega) hl (unhide S1) (by intro i hi; match i, hi with | 0, _ => exact ⟨_, rfl⟩ | 1, _ => exact ⟨_, rfl⟩ | 2, _ => exact ⟨_, rfl⟩ | 3, _ => exact ⟨_, rfl⟩ | 4, _ => exact ⟨_, rfl⟩)).mono ?_
    rintro e w2 ⟨r, x, rfl, hr, hx, hs, hg⟩
    have hr2 : (r : Int) < 5 := by omega
    have S2 := hide hs
    have G2 := hide (grown_trans (unhide G1) hg)
    clear hs hg S1 G1
    go_wp2
    go_ret
    exact ⟨_, rfl, unhide S2, unhide G2⟩
  · go_wp2_with fail
    refine (n_idx w1 _ src a len cap size 5 (by omega) (by omega) hl (unhide S1) (by intro i hi; match i, hi with | 0, _ => exact ⟨_, rfl⟩ | 1, _ => exact ⟨_, rfl⟩ | 2, _ => exact ⟨_, rfl⟩ | 3, _ => exact ⟨_, rfl⟩ | 4, _ => exact ⟨_, rfl⟩)).mono ?_
    rintro e w2 ⟨r, x, rfl, hr, hx, hs, hg⟩
    have hr2 : (r : Int) < 5 := by omega
    have S2 := hide hs
    have G2 := hide (grown_trans (unhide G1) hg)
    clear hs hg S1 G1
    go_wp2
    go_ret
    exact ⟨_, rfl, unhide S2, unhide G2⟩
  · go_wp2_with fail
    refine (n_idx w1 _ src a len cap size 5 (by omega) (by omega) hl (unhide S1) (by intro i hi; match i, hi with | 0, _ => exact ⟨_, rfl⟩ | 1, _ => exact ⟨_, rfl⟩ | 2, _ => exact ⟨_, rfl⟩ | 3, _ => exact ⟨_, rfl⟩ | 4, _ => exact ⟨_, rfl⟩)).mono ?_
    rintro e w2 ⟨r, x, rfl, hr, hx, hs, hg⟩
    have hr2 : (r : Int) < 5 := by omega
    have S2 := hide hs
    have G2 := hide (grown_trans (unhide G1) hg)
    clear hs hg S1 G1
    go_wp2
    go_ret
    exact ⟨_, rfl, unhide S2, unhide G2⟩
  · go_wp2_with fail
    refine (n_nat _ src a len cap size 2 (by omega) (by omega) hl (unhide S1)).mono ?_
    rintro e w2 ⟨q, rfl, hq, hs, hg⟩
    have S2 := hide hs
    have G2 := hide (grown_trans (unhide G1) hg)
    clear hs hg S1 G1
    go_wp2
    go_ret
    exact ⟨_, rfl, unhide S2, unhide G2⟩
  · go_wp2_with fail
    refine (n_nat _ src a len cap size 3 (by omega) (by omega) hl (unhide S1)).mono ?_
    rintro e w2 ⟨q, rfl, hq, hs, hg⟩
    have S2 := hide hs
    have G2 := hide (grown_trans (unhide G1) hg)
    clear hs hg S1 G1
    go_wp2
    go_ret
    exact ⟨_, rfl, unhide S2, unhide G2⟩
  · go_wp2_with fail
    refine (n_idx w1 _ src a len cap size 4 (by omega) (by omega) hl (unhide S1) (by intro i hi; match i, hi with | 0, _ => exact ⟨_, rfl⟩ | 1, _ => exact ⟨_, rfl⟩ | 2, _ => exact ⟨_, rfl⟩ | 3, _ => exact ⟨_, rfl⟩)).mono ?_
    rintro e w2 ⟨r, x, rfl, hr, hx, hs, hg⟩
    have hr2 : (r : Int) < 4 := by omega
    have S2 := hide hs
    have G2 := hide (grown_trans (unhide G1) hg)
    clear hs hg S1 G1
    go_wp2
    go_ret
    exact ⟨_, rfl, unhide S2, unhide G2⟩
  · go_wp2_with fail
    refine (n_nat _ src a len cap size 3 (by omega) (by omega) hl (unhide S1)).mono ?_
    rintro e w2 ⟨q, rfl, hq, hs, hg⟩
    have S2 := hide hs
    have G2 := hide (grown_trans (unhide G1) hg)
    clear hs hg S1 G1
    go_wp2
    go_ret
    exact ⟨_, rfl, unhide S2, unhide G2⟩
  · go_wp2_with fail
    refine (n_idx w1 _ src a len cap size 11 (by omega) (by omega) hl (unhide S1) (by intro i hi; match i, hi with | 0, _ => exact ⟨_, rfl⟩ | 1, _ => exact ⟨_, rfl⟩ | 2, _ => exact ⟨_, rfl⟩ | 3, _ => exact ⟨_, rfl⟩ | 4, _ => exact ⟨_, rfl⟩ | 5, _ => exact ⟨_, rfl⟩ | 6, _ => exact ⟨_, rfl⟩ | 7, _ => exact ⟨_, rfl⟩ | 8, _ => exact ⟨_, rfl⟩ | 9, _ => exact ⟨_, rfl⟩ | 10, _ => exact ⟨_, rfl⟩)).mono ?_
    rintro e w2 ⟨r, x, rfl, hr, hx, hs, hg⟩
    have hr2 : (r : Int) < 11 := by omega
    have S2 := hide hs
    have G2 := hide (grown_trans (unhide G1) hg)
    clear hs hg S1 G1
    go_wp2
    go_ret
    exact ⟨_, rfl, unhide S2, unhide G2⟩
  · go_wp2_with fail
    refine (n_nat _ src a len cap size 4 (by omega) (by omega) hl (unhide S1)).mono ?_
    rintro e w2 ⟨q, rfl, hq, hs, hg⟩
    have S2 := hide hs
    have G2 := hide (grown_trans (unhide G1) hg)
    clear hs hg S1 G1
    go_wp2
    go_ret
    exact ⟨_, rfl, unhide S2, unhide G2⟩
  · go_wp2_with fail
    refine (n_idx w1 _ src a len cap size 6 (by omega) (by omega) hl (unhide S1) (by intro i hi; match i, hi with | 0, _ => exact ⟨_, rfl⟩ | 1, _ => exact ⟨_, rfl⟩ | 2, _ => exact ⟨_, rfl⟩ | 3, _ => exact ⟨_, rfl⟩ | 4, _ => exact ⟨_, rfl⟩ | 5, _ => exact ⟨_, rfl⟩)).mono ?_
    rintro e w2 ⟨r, x, rfl, hr, hx, hs, hg⟩
    have hr2 : (r : Int) < 6 := by omega
    have S2 := hide hs
    have G2 := hide (grown_trans (unhide G1) hg)
    clear hs hg S1 G1
    go_wp2
    go_ret
    exact ⟨_, rfl, unhide S2, unhide G2⟩
  · go_wp2_with fail
    refine (point_any _ src a len cap size hl (unhide S1)).mono ?_
    rintro e w2 ⟨y, rfl, hs, hg⟩
    have S2 := hide hs
    have G2 := hide (grown_trans (unhide G1) hg)
    clear hs hg S1 G1
    go_wp2_with fail
    refine (n_idx w2 _ src a len cap size 6 (by omega) (by omega) hl (unhide S2) (by intro i hi; match i, hi with | 0, _ => exact ⟨_, rfl⟩ | 1, _ => exact ⟨_, rfl⟩ | 2, _ => exact ⟨_, rfl⟩ | 3, _ => exact ⟨_, rfl⟩ | 4, _ => exact ⟨_, rfl⟩ | 5, _ => exact ⟨_, rfl⟩)).mono ?_
    rintro e w3 ⟨r, x, rfl, hr, hx, hs, hg⟩
    have hr2 : (r : Int) < 6 := by omega
    have S3 := hide hs
    have G3 := hide (grown_trans (unhide G2) hg)
    clear hs hg S2 G2
    go_wp2
    go_ret
    exact ⟨_, rfl, unhide S3, unhide G3⟩
  · go_wp2_with fail
    refine (point_any _ src a len cap size hl (unhide S1)).mono ?_
    rintro e w2 ⟨y, rfl, hs, hg⟩
    have S2 := hide hs
    have G2 := hide (grown_trans (unhide G1) hg)
    clear hs hg S1 G1
    go_wp2_with fail
    refine (n_idx w2 _ src a len cap size 6 (by omega) (by omega) hl (unhide S2) (by intro i hi; match i, hi with | 0, _ => exact ⟨_, rfl⟩ | 1, _ => exact ⟨_, rfl⟩ | 2, _ => exact ⟨_, rfl⟩ | 3, _ => exact ⟨_, rfl⟩ | 4, _ => exact ⟨_, rfl⟩ | 5, _ => exact ⟨_, rfl⟩)).mono ?_
    rintro e w3 ⟨r, x, rfl, hr, hx, hs, hg⟩
    have hr2 : (r : Int) < 6 := by omega
    have S3 := hide hs
    have G3 := hide (grown_trans (unhide G2) hg)
    clear hs hg S2 G2
    go_wp2
    go_ret
    exact ⟨_, rfl, unhide S3, unhide G3⟩
set_option maxHeartbeats 4000000 in
set_option maxRecDepth 100000 in
theorem cutText_any (w : World) (src : Nat) (a : Option Addr) (len cap : Nat) (size : Int) (hl : len ≤ 1048576) (z0 : 0 ≤ size) (z1 : size ≤ 12) (h : SrcAt w src a len cap size) :
    Calls Tryd.prog 15 #[.pointer (some ⟨src, 0, none⟩)] w fun e w' => ∃ s : ByteArray, e = .returned (.string s) ∧ s.size ≤ 1001 ∧ SrcAt w' src a len cap size ∧ w.grownBy w' (some src) := by
  obtain ⟨i0, hi, hz0, hz1, hz2⟩ := info_parts info2
  have hsrc := src_lt h
  have HA := hide (aIn_of h)
  have HO0 : Hid ((w.alloc (.cells #[] 2)).ownsRow w.heap.size 2 1 (.slice (some ⟨w.heap.size, 0, none⟩) 0 0) ([] : List Int).length (([] : List Int).map (Value.int .i64))) := hide (World.ownsRow_lit w #[] 0 (Nat.le_refl _) (by unfold maxLen; omega) rfl)
  have h1 := src_alloc h (.cells #[] 2)
  have HS0 := hide h1
  have HG0 := hide (grown_alloc w (.cells #[] 2) (some src))
  obtain ⟨_, p, mix, _, _, hh⟩ := h1
  obtain ⟨_, _, _, c3, _, _, _⟩ := src_cells hh
  clear h hh
  go_enter Tryd.func15, Tryd.ntmps15
  go_wp2_with fail
  refine (n_nat _ src a len cap size _ (by omega) (by omega) hl (unhide HS0)).mono ?_
  rintro e w0 ⟨r0, rfl, hr0, hs, hg⟩
  have S0 := hide hs
  have O0 := hide (owned_kept hsrc (unhide HO0) hg)
  have G0 := hide (grown_trans (unhide HG0) hg)
  clear hs hg HO0 HS0 HG0 c3
  go_wp2
  go_loopw [3, 4] (fun v n wr => ∃ (k : Nat) (L : List Int), n = .int .i64 k ∧ k + L.length ≤ 33 ∧ Hid (wr.ownsRow w.heap.size 2 1 v L.length (L.map (Value.int .i64))) ∧ Hid (SrcAt wr src a len cap size) ∧ Hid (w.grownBy wr (some src))) (fun _ n _ => (intOf n).toNat)
  case atStart => exact ⟨r0, [], rfl, by simp; omega, O0, S0, G0⟩
  case round =>
    obtain ⟨k, L, rfl, hkL, HO, HS, HG⟩ := hrel
    clear O0 S0 G0 hr0
    have HK := hide hkL
    have hL : L.length ≤ 33 := by omega
    have hk : k ≤ 33 := by omega
    clear hkL
    by_cases hlt : 0 < k
    · go_wp2_with fail
      refine (cutPoint_any _ src a len cap size hl (unhide HS)).mono ?_
      rintro e w2 ⟨x, rfl, hs, hg⟩
      have S2 := hide hs
      have O2 := hide (owned_kept hsrc (unhide HO) hg)
      have G2 := hide (grown_trans (unhide HG) hg)
      have hz2s := (unhide G2).size
      clear hs hg HO HS HG
      go_wp2_with (at_builtin; refine wpList_append_own _ rfl _ _ 26 rfl w.heap.size 2 i0 (.int .i64 0) 1 8 Tryd.underlying26 hi hz0 hz1 hz2 rfl (by decide) _ _ _ rfl ((unhide O2).alloc _) ⟨w2.heap.size, 0, none⟩ 1 1 [.int .i64 x] rfl rfl ?c1 ?c2 ?c3 ?c4 ?c5 ?_)
      case c1 => exact cell_one_new _ _ _
      case c2 => intro u hu; simp at hu; subst hu; rfl
      case c3 => unfold maxLen; omega
      case c4 => omega
      case c5 => simp; omega
      intro v' w3 hown' hgrow _
      have R := hide (grown_row (unhide G2) (unhide O2) hgrow)
      have O3 := hide (row_snoc hown')
      have S3 := hide (src_move (unhide S2) (unhide HA) hsrc (unhide R).2.2 (unhide R).2.1)
      clear hown' hgrow
      go_wp2
      go_roundw
      case rel => exact ⟨k - 1, L ++ [x], by go_num, by have := unhide HK; simp; omega, O3, S3, hide (unhide R).1⟩
      case measure => simp [intOf]; omega
    · go_wp2_with fail
      refine (l01Text _ L _ (IntsAt.owned (unhide HO)) (by omega)).mono ?_
      rintro e w2 ⟨rfl, hb⟩
      have S2 := hide (src_below (unhide HS) hb)
      have G2 := hide (grown_bel (unhide HG) hb)
      clear hb HO HS HG
      have ht : (strOfNums (textL L)).size ≤ 132 := by rw [strOfNums_size]; have := textL_le L; omega
      generalize strOfNums (textL L) = t at ht ⊢
      go_wp2_with fail
      refine (one_any _ src a len cap size 20 (by omega) (by omega) hl (unhide S2)).mono ?_
      rintro e w3 ⟨b1, rfl, hs, hg⟩
      have S3 := hide hs
      have G3 := hide (grown_trans (unhide G2) hg)
      clear hs hg S2 G2
      cases b1
      · go_wp2
        go_ret
        exact ⟨_, rfl, by omega, unhide S3, unhide G3⟩
      · go_wp2_with fail
        refine (spoil_few _ src a len cap size t hl (by omega) (unhide S3)).mono ?_
        rintro e w4 ⟨t2, rfl, ht2, hs, hg⟩
        have S4 := hide hs
        have G4 := hide (grown_trans (unhide G3) hg)
        clear hs hg S3 G3
        go_wp2
        go_ret
        exact ⟨_, rfl, by omega, unhide S4, unhide G4⟩
theorem drawChars_any (w : World) (a : Option Addr) (len cap : Nat) (hl : len ≤ 1048576) (hc : CodeIn w a len) :
    Calls Tryd.prog 4 #[.slice a len cap] w fun e w' => ∃ s : ByteArray, e = .returned (.string s) ∧ s.size ≤ 1001 ∧ Below w.heap.size w w' := by
  have H := hide hc
  clear hc
  go_enter Tryd.func4, Tryd.ntmps4
  go_wp2_with fail
  refine (source_any _ a len cap hl (unhide H)).mono ?_
  rintro e w1 ⟨rfl, size, z0, z1, hs, hb, hlt⟩
  have S1 := hide hs
  have B1 := hide hb
  clear hs hb
  go_wp2_with fail
  refine (cutText_any _ w.heap.size a len cap size hl z0 z1 (unhide S1)).mono ?_
  rintro e w2 ⟨t, rfl, ht, hs, hg⟩
  have B2 := hide ((unhide B1).grown hg (unhide B1).size (fun k hk => by simp at hk; omega))
  clear hs hg S1 B1
  go_wp2
  go_ret
  exact ⟨_, rfl, ht, unhide B2⟩
end Go.Proofs.YtaepdcgofjcfcaaDoor.Dr
