/- A drawn text that Shift can write, mostly: some text, not too long; the source is one again. -/
import Derived.Test.YtohpifhpfijmcaaDoorDrawB
namespace Go.Proofs.YtohpifhpfijmcaaDoor
open Go.RowKit
set_option maxHeartbeats 4000000 in
set_option maxRecDepth 100000 in
theorem shiftable_any (w : World) (src : Nat) (a : Option Addr) (len cap : Nat) (size : Int) (hl : len ≤ 1048576) (zz0 : 0 ≤ size) (zz1 : size ≤ 12) (h : SrcAt w src a len cap size) :
    Calls Tryd.prog 21 #[.pointer (some ⟨src, 0, none⟩)] w fun e w' => ∃ s : ByteArray, e = .returned (.string s) ∧ s.size ≤ 4000 ∧ SrcAt w' src a len cap size ∧ w.grownBy w' (some src) := by
  obtain ⟨i0, hi, hz0, hz1, hz2⟩ := info_parts info2
  have hsrc := src_lt h
  have HA := hide (aIn_of h)
  have HO0 : Hid ((w.alloc (.cells #[] 2)).ownsRow w.heap.size 2 1 (.slice (some ⟨w.heap.size, 0, none⟩) 0 0) ([] : List Int).length (([] : List Int).map (Value.int .i64))) := hide (World.ownsRow_lit w #[] 0 (Nat.le_refl _) (by unfold maxLen; omega) rfl)
  have HS0 := hide (src_alloc h (.cells #[] 2))
  have HG0 := hide (grown_alloc w (.cells #[] 2) (some src))
  have c3 : ∀ o, (w.alloc o).cell? ⟨src, 3, none⟩ = some (.int .i64 size) := fun o => by
    obtain ⟨_, p, mix, _, _, hh⟩ := src_alloc h o
    exact (src_cells hh).2.2.2.1
  clear h
  go_enter Tryd.func21, Tryd.ntmps21
  go_wp2_with fail
  refine (n_nat _ src a len cap size _ (by omega) (by omega) hl (unhide HS0)).mono ?_
  rintro e w0 ⟨N, rfl, hN, hs, hg⟩
  have HSA := hide hs
  have HOA := hide (owned_kept hsrc (unhide HO0) hg)
  have HGA := hide (grown_trans (unhide HG0) hg)
  have hN20 : N ≤ 20 := by omega
  clear hs hg HO0 HS0 HG0 c3 hN
  go_wp2
  go_loopw [3, 4] (fun v n wr => ∃ (k : Nat) (L : List Int), n = .int .i64 k ∧ k + L.length = N ∧ Hid (wr.ownsRow w.heap.size 2 1 v L.length (L.map (Value.int .i64))) ∧ Hid (SrcAt wr src a len cap size) ∧ Hid (w.grownBy wr (some src))) (fun _ n _ => (intOf n).toNat)
  case atStart => exact ⟨N, [], rfl, by simp, HOA, HSA, HGA⟩
  case round =>
    obtain ⟨k, L, rfl, hkL, O0, S0, G0⟩ := hrel
    clear HOA HSA HGA
    have HK := hide hkL
    have hL : L.length ≤ N := by omega
    have hk : k ≤ N := by omega
    clear hkL
    have hsz := (unhide G0).size
    by_cases hlt : 0 < k
    · go_wp2_with fail
      refine (n_nat _ src a len cap size 6 (by omega) (by omega) hl (unhide S0)).mono ?_
      rintro e w1 ⟨t, rfl, ht, hs, hg⟩
      have S1 := hide hs
      have O1 := hide (owned_kept hsrc (unhide O0) hg)
      have G1 := hide (grown_trans (unhide G0) hg)
      have z1 := hg.size
      clear hs hg S0 O0 G0
      obtain rfl | rfl | rfl | rfl | rfl | rfl : t = 0 ∨ t = 1 ∨ t = 2 ∨ t = 3 ∨ t = 4 ∨ t = 5 := by omega
      · go_wp2_with fail
        refine (n_nat _ src a len cap size 95 (by omega) (by omega) hl (unhide S1)).mono ?_
        rintro e w2 ⟨ra, rfl, hra, hs, hg⟩
        have S2 := hide hs
        have O2 := hide (owned_kept hsrc (unhide O1) hg)
        have G2 := hide (grown_trans (unhide G1) hg)
        have z2 := hg.size
        clear hs hg S1 O1 G1
        go_wp2_with (at_builtin; refine wpList_append_own _ rfl _ _ 40 rfl w.heap.size 2 i0 (.int .i64 0) 1 8 Tryd.underlying40 hi hz0 hz1 hz2 rfl (by decide) _ _ _ rfl ((unhide O2).alloc _) ⟨w2.heap.size, 0, none⟩ 1 1 [.int .i64 (32 + (ra : Int))] rfl rfl ?c1 ?c2 ?c3 ?c4 ?c5 ?_)
        case c1 => exact cell_one_new _ _ _
        case c2 => intro u hu; simp at hu; subst hu; rfl
        case c3 => unfold maxLen; omega
        case c4 => omega
        case c5 => simp; omega
        intro v' w9 hown' hgrow _
        have R := hide (grown_row (unhide G2) (unhide O2) hgrow)
        have HO3 := hide (row_snoc hown')
        have HS3 := hide (src_move (unhide S2) (unhide HA) hsrc (unhide R).2.2 (unhide R).2.1)
        clear hown' hgrow
        go_wp2
        go_roundw
        case rel => exact ⟨k - 1, L ++ [32 + (ra : Int)], by go_num, by have := unhide HK; simp; omega, HO3, HS3, hide (unhide R).1⟩
        case measure => simp [intOf]; omega
      · go_wp2_with fail
        refine (n_nat _ src a len cap size 95 (by omega) (by omega) hl (unhide S1)).mono ?_
        rintro e w2 ⟨ra, rfl, hra, hs, hg⟩
        have S2 := hide hs
        have O2 := hide (owned_kept hsrc (unhide O1) hg)
        have G2 := hide (grown_trans (unhide G1) hg)
        have z2 := hg.size
        clear hs hg S1 O1 G1
        go_wp2_with (at_builtin; refine wpList_append_own _ rfl _ _ 40 rfl w.heap.size 2 i0 (.int .i64 0) 1 8 Tryd.underlying40 hi hz0 hz1 hz2 rfl (by decide) _ _ _ rfl ((unhide O2).alloc _) ⟨w2.heap.size, 0, none⟩ 1 1 [.int .i64 (32 + (ra : Int))] rfl rfl ?c1 ?c2 ?c3 ?c4 ?c5 ?_)
        case c1 => exact cell_one_new _ _ _
        case c2 => intro u hu; simp at hu; subst hu; rfl
        case c3 => unfold maxLen; omega
        case c4 => omega
        case c5 => simp; omega
        intro v' w9 hown' hgrow _
        have R := hide (grown_row (unhide G2) (unhide O2) hgrow)
        have HO3 := hide (row_snoc hown')
        have HS3 := hide (src_move (unhide S2) (unhide HA) hsrc (unhide R).2.2 (unhide R).2.1)
        clear hown' hgrow
        go_wp2
        go_roundw
        case rel => exact ⟨k - 1, L ++ [32 + (ra : Int)], by go_num, by have := unhide HK; simp; omega, HO3, HS3, hide (unhide R).1⟩
        case measure => simp [intOf]; omega
      · go_wp2_with fail
        refine (n_nat _ src a len cap size 3 (by omega) (by omega) hl (unhide S1)).mono ?_
        rintro e w2 ⟨ra, rfl, hra, hs, hg⟩
        have S2 := hide hs
        have O2 := hide (owned_kept hsrc (unhide O1) hg)
        have G2 := hide (grown_trans (unhide G1) hg)
        have z2 := hg.size
        clear hs hg S1 O1 G1
        go_wp2_with fail
        refine (n_nat _ src a len cap size 96 (by omega) (by omega) hl (unhide S2)).mono ?_
        rintro e w3 ⟨rb, rfl, hrb, hs, hg⟩
        have S3 := hide hs
        have O3 := hide (owned_kept hsrc (unhide O2) hg)
        have G3 := hide (grown_trans (unhide G2) hg)
        have z3 := hg.size
        clear hs hg S2 O2 G2
        go_wp2_with (at_builtin; refine wpList_append_own _ rfl _ _ 40 rfl w.heap.size 2 i0 (.int .i64 0) 1 8 Tryd.underlying40 hi hz0 hz1 hz2 rfl (by decide) _ _ _ rfl ((unhide O3).alloc _) ⟨w3.heap.size, 0, none⟩ 1 1 [.int .i64 (512 + 256 * (ra : Int) + (rb : Int))] rfl rfl ?c1 ?c2 ?c3 ?c4 ?c5 ?_)
        case c1 => exact cell_one_new _ _ _
        case c2 => intro u hu; simp at hu; subst hu; rfl
        case c3 => unfold maxLen; omega
        case c4 => omega
        case c5 => simp; omega
        intro v' w9 hown' hgrow _
        have R := hide (grown_row (unhide G3) (unhide O3) hgrow)
        have HO3 := hide (row_snoc hown')
        have HS3 := hide (src_move (unhide S3) (unhide HA) hsrc (unhide R).2.2 (unhide R).2.1)
        clear hown' hgrow
        go_wp2
        go_roundw
        case rel => exact ⟨k - 1, L ++ [512 + 256 * (ra : Int) + (rb : Int)], by go_num, by have := unhide HK; simp; omega, HO3, HS3, hide (unhide R).1⟩
        case measure => simp [intOf]; omega
      · go_wp2_with fail
        refine (n_nat _ src a len cap size 96 (by omega) (by omega) hl (unhide S1)).mono ?_
        rintro e w2 ⟨ra, rfl, hra, hs, hg⟩
        have S2 := hide hs
        have O2 := hide (owned_kept hsrc (unhide O1) hg)
        have G2 := hide (grown_trans (unhide G1) hg)
        have z2 := hg.size
        clear hs hg S1 O1 G1
        go_wp2_with (at_builtin; refine wpList_append_own _ rfl _ _ 40 rfl w.heap.size 2 i0 (.int .i64 0) 1 8 Tryd.underlying40 hi hz0 hz1 hz2 rfl (by decide) _ _ _ rfl ((unhide O2).alloc _) ⟨w2.heap.size, 0, none⟩ 1 1 [.int .i64 (512 + (ra : Int))] rfl rfl ?c1 ?c2 ?c3 ?c4 ?c5 ?_)
        case c1 => exact cell_one_new _ _ _
        case c2 => intro u hu; simp at hu; subst hu; rfl
        case c3 => unfold maxLen; omega
        case c4 => omega
        case c5 => simp; omega
        intro v' w9 hown' hgrow _
        have R := hide (grown_row (unhide G2) (unhide O2) hgrow)
        have HO3 := hide (row_snoc hown')
        have HS3 := hide (src_move (unhide S2) (unhide HA) hsrc (unhide R).2.2 (unhide R).2.1)
        clear hown' hgrow
        go_wp2
        go_roundw
        case rel => exact ⟨k - 1, L ++ [512 + (ra : Int)], by go_num, by have := unhide HK; simp; omega, HO3, HS3, hide (unhide R).1⟩
        case measure => simp [intOf]; omega
      · go_wp2_with fail
        refine (n_nat _ src a len cap size 2048 (by omega) (by omega) hl (unhide S1)).mono ?_
        rintro e w2 ⟨ra, rfl, hra, hs, hg⟩
        have S2 := hide hs
        have O2 := hide (owned_kept hsrc (unhide O1) hg)
        have G2 := hide (grown_trans (unhide G1) hg)
        have z2 := hg.size
        clear hs hg S1 O1 G1
        go_wp2_with (at_builtin; refine wpList_append_own _ rfl _ _ 40 rfl w.heap.size 2 i0 (.int .i64 0) 1 8 Tryd.underlying40 hi hz0 hz1 hz2 rfl (by decide) _ _ _ rfl ((unhide O2).alloc _) ⟨w2.heap.size, 0, none⟩ 1 1 [.int .i64 (24576 + (ra : Int))] rfl rfl ?c1 ?c2 ?c3 ?c4 ?c5 ?_)
        case c1 => exact cell_one_new _ _ _
        case c2 => intro u hu; simp at hu; subst hu; rfl
        case c3 => unfold maxLen; omega
        case c4 => omega
        case c5 => simp; omega
        intro v' w9 hown' hgrow _
        have R := hide (grown_row (unhide G2) (unhide O2) hgrow)
        have HO3 := hide (row_snoc hown')
        have HS3 := hide (src_move (unhide S2) (unhide HA) hsrc (unhide R).2.2 (unhide R).2.1)
        clear hown' hgrow
        go_wp2
        go_roundw
        case rel => exact ⟨k - 1, L ++ [24576 + (ra : Int)], by go_num, by have := unhide HK; simp; omega, HO3, HS3, hide (unhide R).1⟩
        case measure => simp [intOf]; omega
      · go_wp2_with fail
        refine (n_idx w1 _ src a len cap size 4 (by omega) (by omega) hl (unhide S1) (by intro i hi; match i, hi with | 0, _ => exact ⟨_, rfl⟩ | 1, _ => exact ⟨_, rfl⟩ | 2, _ => exact ⟨_, rfl⟩ | 3, _ => exact ⟨_, rfl⟩)).mono ?_
        rintro e w2 ⟨r2, x2, rfl, hr2, hx2, hs, hg⟩
        have S2 := hide hs
        have O2 := hide (owned_kept hsrc (unhide O1) hg)
        have G2 := hide (grown_trans (unhide G1) hg)
        have z2 := hg.size
        clear hs hg S1 O1 G1
        go_wp2_with (at_builtin; refine wpList_append_own _ rfl _ _ 40 rfl w.heap.size 2 i0 (.int .i64 0) 1 8 Tryd.underlying40 hi hz0 hz1 hz2 rfl (by decide) _ _ _ rfl ((unhide O2).alloc _) ⟨w2.heap.size, 0, none⟩ 1 1 [.int .i64 (x2)] rfl rfl ?c1 ?c2 ?c3 ?c4 ?c5 ?_)
        case c1 => exact cell_one_new _ _ _
        case c2 => intro u hu; simp at hu; subst hu; rfl
        case c3 => unfold maxLen; omega
        case c4 => omega
        case c5 => simp; omega
        intro v' w9 hown' hgrow _
        have R := hide (grown_row (unhide G2) (unhide O2) hgrow)
        have HO3 := hide (row_snoc hown')
        have HS3 := hide (src_move (unhide S2) (unhide HA) hsrc (unhide R).2.2 (unhide R).2.1)
        clear hown' hgrow
        go_wp2
        go_roundw
        case rel => exact ⟨k - 1, L ++ [x2], by go_num, by have := unhide HK; simp; omega, HO3, HS3, hide (unhide R).1⟩
        case measure => simp [intOf]; omega
    · go_wp2_with fail
      refine (one_any _ src a len cap size 8 (by omega) (by omega) hl (unhide S0)).mono ?_
      rintro e w1 ⟨b1, rfl, hs, hg⟩
      have S1 := hide hs
      have O1 := hide (owned_kept hsrc (unhide O0) hg)
      have G1 := hide (grown_trans (unhide G0) hg)
      have z1 := hg.size
      clear hs hg S0 O0 G0
      cases b1
      · have HL : Hid ((L).length ≤ 65536) := hide (by omega)
        have HL2 : Hid (4 * (L).length ≤ 4000) := hide (by omega)
        go_wp2_with fail
        refine (l01Text _ (L) _ (IntsAt.owned (unhide O1)) (unhide HL)).mono ?_
        rintro e wz ⟨rfl, hbz⟩
        have HSz := hide (src_below (unhide S1) hbz)
        have HGz := hide (grown_bel (unhide G1) hbz)
        clear hbz
        go_wp2
        go_ret
        refine ⟨_, rfl, ?_, unhide HSz, unhide HGz⟩
        rw [strOfNums_size]
        exact Nat.le_trans (textL_le _) (unhide HL2)
      · go_wp2_with fail
        refine (point_any _ src a len cap size hl (unhide S1)).mono ?_
        rintro e w2 ⟨q, rfl, hs, hg⟩
        have S2 := hide hs
        have O2 := hide (owned_kept hsrc (unhide O1) hg)
        have G2 := hide (grown_trans (unhide G1) hg)
        have z2 := hg.size
        clear hs hg S1 O1 G1
        go_wp2_with fail
        refine (n_idx w2 _ src a len cap size 3 (by omega) (by omega) hl (unhide S2) (by intro i hi; match i, hi with | 0, _ => exact ⟨_, rfl⟩ | 1, _ => exact ⟨_, rfl⟩ | 2, _ => exact ⟨_, rfl⟩)).mono ?_
        rintro e w3 ⟨r3, x3, rfl, hr3, hx3, hs, hg⟩
        have S3 := hide hs
        have O3 := hide (owned_kept hsrc (unhide O2) hg)
        have G3 := hide (grown_trans (unhide G2) hg)
        have z3 := hg.size
        clear hs hg S2 O2 G2
        go_wp2_with (at_builtin; refine wpList_append_own _ rfl _ _ 40 rfl w.heap.size 2 i0 (.int .i64 0) 1 8 Tryd.underlying40 hi hz0 hz1 hz2 rfl (by decide) _ _ _ rfl ((unhide O3).alloc _) ⟨w3.heap.size, 0, none⟩ 1 1 [.int .i64 (x3)] rfl rfl ?c1 ?c2 ?c3 ?c4 ?c5 ?_)
        case c1 => exact cell_one_new _ _ _
        case c2 => intro u hu; simp at hu; subst hu; rfl
        case c3 => unfold maxLen; omega
        case c4 => omega
        case c5 => simp; omega
        intro v' w9 hown' hgrow _
        have R := hide (grown_row (unhide G3) (unhide O3) hgrow)
        have HO3 := hide (row_snoc hown')
        have HS3 := hide (src_move (unhide S3) (unhide HA) hsrc (unhide R).2.2 (unhide R).2.1)
        clear hown' hgrow
        have HL : Hid ((L ++ [x3]).length ≤ 65536) := hide (by rw [List.length_append, List.length_singleton]; omega)
        have HL2 : Hid (4 * (L ++ [x3]).length ≤ 4000) := hide (by rw [List.length_append, List.length_singleton]; omega)
        go_wp2_with fail
        refine (l01Text _ (L ++ [x3]) _ (IntsAt.owned (unhide HO3)) (unhide HL)).mono ?_
        rintro e wz ⟨rfl, hbz⟩
        have HSz := hide (src_below (unhide HS3) hbz)
        have HGz := hide (grown_bel ((unhide R).1) hbz)
        clear hbz
        go_wp2
        go_ret
        refine ⟨_, rfl, ?_, unhide HSz, unhide HGz⟩
        rw [strOfNums_size]
        exact Nat.le_trans (textL_le _) (unhide HL2)
theorem drawES_any (w : World) (a : Option Addr) (len cap : Nat) (hl : len ≤ 1048576) (hc : CodeIn w a len) :
    Calls Tryd.prog 7 #[.slice a len cap] w fun e w' => ∃ s : ByteArray, e = .returned (.string s) ∧ s.size ≤ 4000 ∧ Below w.heap.size w w' := by
  have H := hide hc
  clear hc
  go_enter Tryd.func7, Tryd.ntmps7
  go_wp2_with fail
  refine (source_any _ a len cap hl (unhide H)).mono ?_
  rintro e w1 ⟨rfl, size, z0, z1, hs, hb, hlt⟩
  have S1 := hide hs
  have B1 := hide hb
  clear hs hb
  go_wp2_with fail
  refine (shiftable_any _ w.heap.size a len cap size hl z0 z1 (unhide S1)).mono ?_
  rintro e w2 ⟨t, rfl, ht, hs, hg⟩
  have B2 := hide ((unhide B1).grown hg (unhide B1).size (fun k hk => by simp at hk; omega))
  clear hs hg S1 B1
  go_wp2
  go_ret
  exact ⟨_, rfl, ht, unhide B2⟩
end Go.Proofs.YtohpifhpfijmcaaDoor
