/- Drawn texts of chapter 6, and two of them. -/
import Derived.Test.YtncfjpdbfojfoaaDoorDPart
import Derived.Test.YtncfjpdbfojfoaaDoorNmlS
namespace Go.Proofs.YtncfjpdbfojfoaaDoor.Dr
open Go.RowKit
set_option maxRecDepth 100000 in
set_option maxHeartbeats 4000000 in
theorem partsText_any (w : World) (src : Nat) (a : Option Addr) (len cap : Nat) (size : Int) (hl : len ≤ 1048576) (z0 : 0 ≤ size) (z1 : size ≤ 12) (h : SrcAt w src a len cap size) :
    Calls Tryd.prog 27 #[.pointer (some ⟨src, 0, none⟩)] w fun e w' => ∃ s : ByteArray, e = .returned (.string s) ∧ s.size ≤ 100001 ∧ SrcAt w' src a len cap size ∧ w.grownBy w' (some src) := by
  obtain ⟨i0, hi, hz0, hz1, hz2⟩ := info_parts info2
  have hsrc := src_lt h
  have HA := hide (aIn_of h)
  have hS0 := src_alloc h (.cells #[] 2)
  have HO0 : Hid ((w.alloc (.cells #[] 2)).ownsRow w.heap.size 2 1 (.slice (some ⟨w.heap.size, 0, none⟩) 0 0) ([] : List Int).length (([] : List Int).map (Value.int .i64))) := hide (World.ownsRow_lit w #[] 0 (Nat.le_refl _) (by unfold maxLen; omega) rfl)
  have HS0 := hide hS0
  have HG0 := hide (grown_alloc w (.cells #[] 2) (some src))
  obtain ⟨_, p, mix, _, _, hh⟩ := hS0
  obtain ⟨_, _, _, c3, _, _, _⟩ := src_cells hh
  clear hh h
  go_enter Tryd.func27, Tryd.ntmps27
  go_wp2_with fail
  refine (n_nat _ src a len cap size _ (by omega) (by omega) hl (unhide HS0)).mono ?_
  rintro e w1 ⟨r, rfl, hr, hs, hg⟩
  have S1 := hide hs
  have G1 := hide (grown_trans (unhide HG0) hg)
  have O1 := hide (owned_kept hsrc (unhide HO0) hg)
  clear hs hg HS0 HG0 HO0 c3
  have hr2 : r ≤ 31 := by omega
  clear hr
  go_wp2
  go_loopw [3, 4] (fun v n wr => ∃ (k : Nat) (L : List Int), n = .int .i64 k ∧ k + L.length = r ∧ Hid (wr.ownsRow w.heap.size 2 1 v L.length (L.map (Value.int .i64))) ∧ Hid (SrcAt wr src a len cap size) ∧ Hid (w.grownBy wr (some src))) (fun _ n _ => (intOf n).toNat)
  case atStart => exact ⟨r, [], rfl, by simp, O1, S1, G1⟩
  case round =>
    obtain ⟨k, L, rfl, hkL, HO, HS, HG⟩ := hrel
    clear O1 S1 G1
    have HK := hide hkL
    have hL : L.length ≤ r := by omega
    have hk : k ≤ r := by omega
    clear hkL
    by_cases hlt : 0 < k
    · have hsz := (unhide HG).size
      go_wp2_with (first | (go_at_call 41; refine (part_any _ src a len cap size hl (unhide HS)).mono ?_; rintro e w1 ⟨r, rfl, hs1, hg1⟩; have HS1 := hide hs1; have HG1 := hide hg1; have hz1s := hg1.size; clear hs1 hg1; have HO1 := hide (owned_kept hsrc (unhide HO) (unhide HG1))) | (at_builtin; refine wpList_append_own _ rfl _ _ 36 rfl w.heap.size 2 i0 (.int .i64 0) 1 8 Tryd.underlying36 hi hz0 hz1 hz2 rfl (by decide) _ _ _ rfl ((unhide HO1).alloc _) ⟨w1.heap.size, 0, none⟩ 1 1 [.int .i64 r] rfl rfl ?c1 ?c2 ?c3 ?c4 ?c5 ?_))
      case c1 => exact cell_one_new _ _ _
      case c2 => intro u hu; simp at hu; subst hu; rfl
      case c3 => unfold maxLen; omega
      case c4 => omega
      case c5 => simp; omega
      intro v' w3 hown' hgrow _
      have R := hide (grown_row (grown_trans (unhide HG) (unhide HG1)) (unhide HO1) hgrow)
      have HO3 := hide (row_snoc hown')
      have HS3 := hide (src_move (unhide HS1) (unhide HA) hsrc (unhide R).2.2 (unhide R).2.1)
      clear hown' hgrow
      go_wp2
      go_roundw
      case rel => exact ⟨k - 1, L ++ [r], by go_num, by have := unhide HK; simp; omega, HO3, HS3, hide (unhide R).1⟩
      case measure => simp [intOf]; omega
    · have HL : Hid (L.length ≤ 31) := hide (by omega)
      go_wp2_with fail
      refine (l01Text _ L _ (IntsAt.owned (unhide HO)) (by have := unhide HL; omega)).mono ?_
      rintro e w2 ⟨rfl, hb2⟩
      have S2 := hide (src_below (unhide HS) hb2)
      have G2 := hide (grown_bel (unhide HG) hb2)
      have ht : (strOfNums (textL L)).size ≤ 124 := by
        rw [strOfNums_size]
        have := textL_le L
        have := unhide HL
        omega
      clear hb2 HS HG HO HL HK
      generalize strOfNums (textL L) = t at *
      go_wp2_with fail
      refine (one_any _ src a len cap size 15 (by omega) (by omega) hl (unhide S2)).mono ?_
      rintro e w3 ⟨b1, rfl, hs, hg⟩
      have S3 := hide hs
      have G3 := hide (grown_trans (unhide G2) hg)
      clear hs hg S2 G2
      cases b1
      · go_wp2
        go_ret
        exact ⟨_, rfl, by omega, unhide S3, unhide G3⟩
      · go_wp2_with fail
        refine (spoil_any _ src a len cap size t hl (by omega) (unhide S3)).mono ?_
        rintro e w4 ⟨t2, rfl, ht2, hs, hg⟩
        have S4 := hide hs
        have G4 := hide (grown_trans (unhide G3) hg)
        clear hs hg S3 G3
        go_wp2
        go_ret
        exact ⟨_, rfl, by omega, unhide S4, unhide G4⟩
theorem nml_size (f : Int) (s : ByteArray) : (strOfNums (nmlOut f s)).size ≤ 65536 := by
  rw [strOfNums_size]
  unfold nmlOut
  split
  · simp
  · unfold small
    split
    · simp
    · omega
end Go.Proofs.YtncfjpdbfojfoaaDoor.Dr
