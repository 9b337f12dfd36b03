/- Drawn texts of script 8, mostly: some text, not too long; and a text that is laid again and again. -/
import Derived.Test.YtjcgchmncgihbaaDoorMD
import Derived.Test.YtjcgchmncgihbaaDoorChqW
namespace Go.Proofs.YtjcgchmncgihbaaDoor.Dr
open Go.RowKit
open Chr (nmb nmb_len nmb_cells)
set_option maxRecDepth 100000 in
set_option maxHeartbeats 4000000 in
theorem run_any (w : World) (src : Nat) (a : Option Addr) (len cap N : Nat) (size : Int) (hl : len ≤ 1048576) (hN : N ≤ 1000) (h : SrcAt w src a len cap size) :
    Calls Tryd.prog 13 #[.pointer (some ⟨src, 0, none⟩), .int .i64 N] w fun e w' => ∃ s : ByteArray, e = .returned (.string s) ∧ s.size ≤ 4000 ∧ SrcAt w' src a len cap size ∧ w.grownBy w' (some src) := by
  obtain ⟨i0, hi, hz0, hz1, hz2⟩ := info_parts info2
  have hsrc := src_lt h
  have HA := hide (aIn_of h)
  have HO0 : Hid ((w.alloc (.cells #[] 2)).ownsRow w.heap.size 2 1 (.slice (some ⟨w.heap.size, 0, none⟩) 0 0) ([] : List Int).length (([] : List Int).map (Value.int .i64))) := hide (World.ownsRow_lit w #[] 0 (Nat.le_refl _) (by unfold maxLen; omega) rfl)
  have HS0 := hide (src_alloc h (.cells #[] 2))
  have HG0 := hide (grown_alloc w (.cells #[] 2) (some src))
  clear h
  go_enter Tryd.func13, Tryd.ntmps13
  go_wp2
  go_loopw [1, 5] (fun n v wr => ∃ (k : Nat) (L : List Int), n = .int .i64 k ∧ k + L.length = N ∧ Hid (wr.ownsRow w.heap.size 2 1 v L.length (L.map (Value.int .i64))) ∧ Hid (SrcAt wr src a len cap size) ∧ Hid (w.grownBy wr (some src))) (fun n _ _ => (intOf n).toNat)
  case atStart => exact ⟨N, [], rfl, by simp, HO0, HS0, HG0⟩
  case round =>
    obtain ⟨k, L, rfl, hkL, HO, HS, HG⟩ := hrel
    clear HO0 HS0 HG0
    have HK := hide hkL
    have hL : L.length ≤ N := by omega
    have hk : k ≤ N := by omega
    clear hkL
    by_cases hlt : 0 < k
    · have hsz := (unhide HG).size
      go_upto_region 5 with (go_at_call 14; refine (n_nat _ src a len cap size 3 (by omega) (by omega) hl (unhide HS)).mono ?_; rintro e w1 ⟨r, rfl, hr1, hs1, hg1⟩; have HS1 := hide hs1; have HG1 := hide hg1; have hz1s := hg1.size; clear hs1 hg1; have HO1 := hide (owned_kept hsrc (unhide HO) (unhide HG1)))
      go_wp2_with fail
      refine (one_any _ src a len cap size 30 (by omega) (by omega) hl (unhide HS1)).mono ?_
      rintro e w2 ⟨b, rfl, hs2, hg2⟩
      have HS2 := hide hs2
      have HG2 := hide (grown_trans (grown_trans (unhide HG) (unhide HG1)) hg2)
      have HO2 := hide (owned_kept hsrc (unhide HO1) hg2)
      have hz2s := hg2.size
      clear hs2 hg2 HS1 HG1 HO1 HG
      cases b
      · go_wp2_with (at_builtin; refine wpList_append_own _ rfl _ _ 30 rfl w.heap.size 2 i0 (.int .i64 0) 1 8 Tryd.underlying30 hi hz0 hz1 hz2 rfl (by decide) _ _ _ rfl (ownG_alloc (unhide HO2) _) ⟨w2.heap.size, 0, none⟩ 1 1 [.int .i64 (2048 + (r : Int))] rfl rfl ?c1 ?c2 ?c3 ?c4 ?c5 ?_; rotate_left 5; intro v' w3 hown' hgrow hne)
        case c1 => exact cell_one_new _ _ _
        case c2 => first | rfl | (intro u hu; simp at hu; subst hu; rfl)
        case c3 => first | omega | (unfold maxLen; omega)
        case c4 => omega
        case c5 => first | omega | (simp; omega)
        have R := hide (grown_row (unhide HG2) (unhide HO2) hgrow)
        have HO3 := hide (row_snoc hown')
        have HS3 := hide (src_move (unhide HS2) (unhide HA) hsrc (unhide R).2.2 (unhide R).2.1)
        clear hown' hgrow hne
        go_roundw
        case rel => exact ⟨k - 1, L ++ [2048 + (r : Int)], by go_num, by have := unhide HK; simp; omega, HO3, HS3, hide (unhide R).1⟩
        case measure => simp [intOf]; omega
      · go_upto_region 7 with (go_at_call 25; refine (point_any _ src a len cap size hl (unhide HS2)).mono ?_; rintro e w4 ⟨q, rfl, hs4, hg4⟩; have HS4 := hide hs4; have HG4 := hide (grown_trans (unhide HG2) hg4); have hz4s := hg4.size; have HO4 := hide (owned_kept hsrc (unhide HO2) hg4); clear hs4 hg4)
        go_wp2_with (at_builtin; refine wpList_append_own _ rfl _ _ 30 rfl w.heap.size 2 i0 (.int .i64 0) 1 8 Tryd.underlying30 hi hz0 hz1 hz2 rfl (by decide) _ _ _ rfl (ownG_alloc (unhide HO4) _) ⟨w4.heap.size, 0, none⟩ 1 1 [.int .i64 q] rfl rfl ?c1 ?c2 ?c3 ?c4 ?c5 ?_; rotate_left 5; intro v' w3 hown' hgrow hne)
        case c1 => exact cell_one_new _ _ _
        case c2 => first | rfl | (intro u hu; simp at hu; subst hu; rfl)
        case c3 => first | omega | (unfold maxLen; omega)
        case c4 => omega
        case c5 => first | omega | (simp; omega)
        have R := hide (grown_row (unhide HG4) (unhide HO4) hgrow)
        have HO3 := hide (row_snoc hown')
        have HS3 := hide (src_move (unhide HS4) (unhide HA) hsrc (unhide R).2.2 (unhide R).2.1)
        clear hown' hgrow hne
        go_roundw
        case rel => exact ⟨k - 1, L ++ [q], by go_num, by have := unhide HK; simp; omega, HO3, HS3, hide (unhide R).1⟩
        case measure => simp [intOf]; omega
    · have HL : Hid (L.length ≤ 1000) := hide (by omega)
      go_wp2_with (go_at_call 20; refine (l01Text _ L _ (IntsAt.owned (unhide HO)) (unhide HL)).mono ?_; rintro e w2 ⟨rfl, hb2⟩)
      go_ret
      refine ⟨_, rfl, ?_, src_below (unhide HS) hb2, grown_bel (unhide HG) hb2⟩
      rw [strOfNums_size]
      have := textL_le L
      have := unhide HL
      omega
theorem long_stepX {w wr w3 : World} {g cap : Nat} {v' : Value} {L : List Int} {x : ByteArray} (hx : 0 < x.size) (hb : Below w.heap.size w wr) (ho : wr.ownsRow w.heap.size 5 1 (.slice (some ⟨g, 0, none⟩) L.length cap) L.length (L.map (Value.int .u8)))
    (ho3 : w3.ownsRow w.heap.size 5 1 v' (L.length + x.size) (L.map (Value.int .u8) ++ Lib.strCells x)) (hg : wr.grownBy w3 (some g)) :
    ∃ g' cap', v' = .slice (some ⟨g', 0, none⟩) (L ++ nmb x).length cap' ∧ (L ++ nmb x).length ≤ cap' ∧ cap' ≤ maxLen ∧
      w3.ownsRow w.heap.size 5 1 (.slice (some ⟨g', 0, none⟩) (L ++ nmb x).length cap') (L ++ nmb x).length ((L ++ nmb x).map (Value.int .u8)) ∧ Below w.heap.size w w3 := by
  have hb3 : Below w.heap.size w w3 := hb.grown hg hb.size (fun k hk => by simp at hk; subst hk; exact (ho.lt g rfl).1)
  have e1 : (L ++ nmb x).length = L.length + x.size := by rw [List.length_append, nmb_len]
  have e2 : (L ++ nmb x).map (Value.int .u8) = L.map (Value.int .u8) ++ Lib.strCells x := by rw [List.map_append, nmb_cells]
  rcases ho3.2 with ⟨hv, h0⟩ | ⟨g', cap', cur, hv, hg', hh, hn', hm, hs, ht⟩
  · omega
  · refine ⟨g', cap', by rw [hv, e1], by omega, hm, ?_, hb3⟩
    rw [e1, e2, ← hv]; exact ho3
set_option maxRecDepth 100000 in
set_option maxHeartbeats 2000000 in
theorem long_x (w : World) (src : Nat) (x : ByteArray) (hx : 0 < x.size) (hx4 : x.size ≤ 4) (N : Nat) (h0 : 0 < N) (hN : N ≤ 1000) :
    Calls Tryd.prog 23 #[.pointer (some ⟨src, 0, none⟩), .string x, .int .i64 N] w fun e w' => ∃ s : ByteArray, e = .returned (.string s) ∧ s.size ≤ 1000 ∧ Below w.heap.size w w' := by
  obtain ⟨i0, hi, hz0, hz1, hz2⟩ := info_parts info5
  have HO0 : Hid ((w.alloc (.cells #[] 5)).ownsRow w.heap.size 5 1 (.slice (some ⟨w.heap.size, 0, none⟩) 0 0) ([] : List Int).length (([] : List Int).map (Value.int .u8))) := hide (World.ownsRow_lit w #[] 0 (Nat.le_refl _) (by unfold maxLen; omega) rfl)
  have HB0 : Hid (Below w.heap.size w (w.alloc (.cells #[] 5))) := hide ((Below.refl _ _).alloc (Nat.le_refl _) _)
  go_enter Tryd.func23, Tryd.ntmps23
  go_wp2
  go_loopw [7] (fun v wr => ∃ (L : List Int) (g cap : Nat), v = .slice (some ⟨g, 0, none⟩) L.length cap ∧ L.length ≤ N + 4 ∧ L.length ≤ cap ∧ cap ≤ maxLen ∧ Hid (wr.ownsRow w.heap.size 5 1 (.slice (some ⟨g, 0, none⟩) L.length cap) L.length (L.map (Value.int .u8))) ∧ Hid (Below w.heap.size w wr)) (fun v _ => N - lenOf v)
  case atStart => exact ⟨[], w.heap.size, 0, rfl, by simp, by simp, by unfold maxLen; omega, HO0, HB0⟩
  case round =>
    obtain ⟨L, g, cap, rfl, hL, hLc, hcm, HO, HB⟩ := hrel
    clear HO0 HB0
    unfold maxLen at hcm
    by_cases hlt : L.length < N
    · have hsz := (unhide HB).size
      go_wp2_with (at_builtin; refine Lib.wpList_append_own_string _ rfl _ _ 22 9 rfl w.heap.size 5 i0 Tryd.underlying22 Tryd.underlying9 hi hz0 hz1 hz2 _ _ _ rfl (unhide HO) _ rfl ?c1 ?c2 ?c3 ?_)
      case c1 => show L.length + x.size ≤ maxLen; unfold maxLen; omega
      case c2 => show L.length + x.size ≤ _; omega
      case c3 => omega
      intro v' w3 hown' hgrow _
      have R := hide (long_stepX hx (unhide HB) (unhide HO) hown' hgrow)
      clear hown' hgrow
      obtain ⟨g', cap', hv', hc1, hc2, ho3, hb3⟩ := unhide R
      clear R
      have HO3 := hide ho3
      have HB3 := hide hb3
      clear ho3 hb3
      subst hv'
      have hll : (L ++ nmb x).length = L.length + x.size := by rw [List.length_append, nmb_len]
      have HLL := hide hll
      generalize L ++ nmb x = L2 at *
      clear hll
      go_wp2
      go_roundw
      case rel => exact ⟨L2, g', cap', rfl, by have := unhide HLL; omega, hc1, hc2, HO3, HB3⟩
      case measure => have := unhide HLL; simp [lenOf]; omega
    · have hge : N ≤ L.length := by omega
      have hcv := conv_pre wr g (cap) L N hge (unhide HO)
      go_wp2
      go_ret
      exact ⟨_, rfl, by rw [strOfNums_size]; simp; omega, unhide HB⟩
end Go.Proofs.YtjcgchmncgihbaaDoor.Dr
