/- A drawn text of chapter 7: some text, not too long; the source is one again. -/
import Derived.Test.YtiodngmbpnkoeaaDoorMD
import Derived.Test.YtiodngmbpnkoeaaDoorStpC
import Derived.Test.YtiodngmbpnkoeaaDoorAppG
namespace Go.Proofs.YtiodngmbpnkoeaaDoor.Dr
open Go.RowKit
set_option linter.unusedVariables false
/-- An index is drawn behind a draw of the region's own. -/
theorem n_idxD (w : World) (O : Array Value) (src : Nat) (a : Option Addr) (len cap : Nat) (size : Int) (m : Nat) (hm : 0 < m) (hm2 : m ≤ 1000) (hl : len ≤ 1048576) (h : SrcAt w src a len cap size) (hO : ∀ i, i < m → ∃ x : Int, O[i]? = some (.int .i64 x)) :
    Calls Tryd.prog 40 #[.pointer (some ⟨src, 0, none⟩), .int .i64 (m : Int)] (w.alloc (.cells O 2)).drew fun e w' => ∃ (r : Nat) (x : Int), e = .returned (.int .i64 r) ∧ r < m ∧ w'.cell? ⟨w.heap.size, r, none⟩ = some (.int .i64 x) ∧ w.heap.size < w'.heap.size ∧ SrcAt w' src a len cap size ∧ w.grownBy w' (some src) := by
  refine (n_nat (w.alloc (.cells O 2)).drew src a len cap size m (by omega) (by omega) hl (src_keep (src_alloc h _) (Nat.le_refl _) (fun _ _ => rfl))).mono fun e w' ⟨r, he, r1, hs, hg⟩ => ?_
  obtain ⟨x, hx⟩ := hO r (by omega)
  have hlt := src_lt h
  have hz : (w.alloc (.cells O 2)).drew.heap.size = w.heap.size + 1 := by show (w.alloc (.cells O 2)).heap.size = _; simp
  have hz2 := hg.size
  refine ⟨r, x, he, by omega, ?_, by omega, hs, grown_trans (grown_drew (grown_alloc _ _ _)) hg⟩
  rw [World.cell?_of_block (a := ⟨w.heap.size, r, none⟩) (hg.block w.heap.size (by rw [hz]; omega) (by simp; omega))]
  show (w.alloc (.cells O 2)).cell? ⟨w.heap.size, r, none⟩ = _
  simpa using hx
/-- An index of two is drawn ahead of the row that it tells a place of. -/
theorem n_two (w : World) (src : Nat) (a : Option Addr) (len cap : Nat) (size : Int) (hl : len ≤ 1048576) (h : SrcAt w src a len cap size) :
    Calls Tryd.prog 40 #[.pointer (some ⟨src, 0, none⟩), .int .i64 2] w.drew fun e w' => ∃ (r : Nat) (x : Int), e = .returned (.int .i64 r) ∧ r < 2 ∧ (∀ W : World, (W.alloc (.cells #[.int .i64 65, .int .i64 97] 2)).cell? ⟨W.heap.size, r, none⟩ = some (.int .i64 x)) ∧ SrcAt w' src a len cap size ∧ w.grownBy w' (some src) := by
  refine (n_nat w.drew src a len cap size 2 (by omega) (by omega) hl (src_keep h (Nat.le_refl _) (fun _ _ => rfl))).mono fun e w' ⟨r, he, r1, hs, hg⟩ => ?_
  obtain rfl | rfl : r = 0 ∨ r = 1 := by omega
  · exact ⟨0, 65, he, by omega, fun W => by simp, hs, grown_trans (grown_drew (grown_refl _ _)) hg⟩
  · exact ⟨1, 97, he, by omega, fun W => by simp, hs, grown_trans (grown_drew (grown_refl _ _)) hg⟩
set_option maxHeartbeats 4000000 in
set_option maxRecDepth 100000 in
theorem cased_any (w : World) (src : Nat) (a : Option Addr) (len cap : Nat) (size : Int) (hl : len ≤ 1048576) (z0 : 0 ≤ size) (z1 : size ≤ 12) (h : SrcAt w src a len cap size) :
    Calls Tryd.prog 16 #[.pointer (some ⟨src, 0, none⟩)] w fun e w' => ∃ s : ByteArray, e = .returned (.string s) ∧ s.size ≤ 100001 ∧ SrcAt w' src a len cap size ∧ w.grownBy w' (some src) := by
  obtain ⟨i0, hi, hz0, hz1, hz2⟩ := info_parts info2
  have hsrc := src_lt h
  have HA := hide (aIn_of h)
  have HO0 : Hid ((w.alloc (.cells #[] 2)).ownsRow w.heap.size 2 1 (.slice (some ⟨w.heap.size, 0, none⟩) 0 0) ([] : List Int).length (([] : List Int).map (Value.int .i64))) := hide (World.ownsRow_lit w #[] 0 (Nat.le_refl _) (by unfold maxLen; omega) rfl)
  have h1 := src_alloc h (.cells #[] 2)
  have HS0 := hide h1
  have HG0 := hide (grown_alloc w (.cells #[] 2) (some src))
  obtain ⟨_, p, mix, _, _, hh⟩ := h1
  obtain ⟨_, _, _, c3, _, _, _⟩ := src_cells hh
  clear h hh
  go_enter Tryd.func16, Tryd.ntmps16
  go_wp2_with fail
  refine (n_nat _ src a len cap size _ (by omega) (by omega) hl (unhide HS0)).mono ?_
  rintro e w0 ⟨r0, rfl, hr0, hs, hg⟩
  have S0 := hide hs
  have O0 := hide (owned_kept hsrc (unhide HO0) hg)
  have G0 := hide (grown_trans (unhide HG0) hg)
  clear hs hg HO0 HS0 HG0 c3
  go_wp2
  go_loopw [3, 4] (fun v n wr => ∃ (k : Nat) (L : List Int), n = .int .i64 k ∧ k + L.length ≤ 33 ∧ Hid (wr.ownsRow w.heap.size 2 1 v L.length (L.map (Value.int .i64))) ∧ Hid (SrcAt wr src a len cap size) ∧ Hid (w.grownBy wr (some src))) (fun _ n _ => (intOf n).toNat)
  case atStart => exact ⟨r0, [], rfl, by simp; omega, O0, S0, G0⟩
  case round =>
    obtain ⟨k, L, rfl, hkL, HO, HS, HG⟩ := hrel
    clear O0 S0 G0 hr0
    have HK := hide hkL
    have hL : L.length ≤ 33 := by omega
    have hk : k ≤ 33 := by omega
    clear hkL
    by_cases hlt : 0 < k
    · go_wp2_with fail
      refine (n_nat _ src a len cap size 3 (by omega) (by omega) hl (unhide HS)).mono ?_
      rintro e w7 ⟨c, rfl, hc, hs, hg⟩
      have S7 := hide hs
      have O7 := hide (owned_kept hsrc (unhide HO) hg)
      have G7 := hide (grown_trans (unhide HG) hg)
      clear hs hg HO HS HG
      go_wp2_with fail
      refine (n_nat _ src a len cap size 9 (by omega) (by omega) hl (unhide S7)).mono ?_
      rintro e w1 ⟨t, rfl, ht, hs, hg⟩
      have S1 := hide hs
      have O1 := hide (owned_kept hsrc (unhide O7) hg)
      have G1 := hide (grown_trans (unhide G7) hg)
      clear hs hg O7 S7 G7
      obtain rfl | rfl | rfl | rfl | rfl | rfl | rfl | rfl | rfl : t = 0 ∨ t = 1 ∨ t = 2 ∨ t = 3 ∨ t = 4 ∨ t = 5 ∨ t = 6 ∨ t = 7 ∨ t = 8 := by omega
      · have hz2s := (unhide G1).size
        go_wp2_with (at_builtin; refine wpList_append_own _ rfl _ _ 32 rfl w.heap.size 2 i0 (.int .i64 0) 1 8 Tryd.underlying32 hi hz0 hz1 hz2 rfl (by decide) _ _ _ rfl ((unhide O1).alloc _) ⟨w1.heap.size, 0, none⟩ 1 1 [.int .i64 (512 + 256 * (c : Int) + 18)] rfl rfl ?c1 ?c2 ?c3 ?c4 ?c5 ?_)
        case c1 => exact cell_one_new _ _ _
        case c2 => intro u hu; simp at hu; subst hu; rfl
        case c3 => unfold maxLen; omega
        case c4 => omega
        case c5 => simp; omega
        intro v' w4 hown' hgrow _
        have R := hide (grown_row (unhide G1) (unhide O1) hgrow)
        have O4 := hide (row_snoc hown')
        have S4 := hide (src_move (unhide S1) (unhide HA) hsrc (unhide R).2.2 (unhide R).2.1)
        clear hown' hgrow
        go_wp2
        go_roundw
        case rel => exact ⟨k - 1, L ++ [512 + 256 * (c : Int) + 18], by go_num, by have := unhide HK; simp; omega, O4, S4, hide (unhide R).1⟩
        case measure => simp [intOf]; omega
      · go_wp2_with fail
        refine (n_idx w1 _ src a len cap size 4 (by omega) (by omega) hl (unhide S1) (by intro i hi; match i, hi with | 0, _ => exact ⟨_, rfl⟩ | 1, _ => exact ⟨_, rfl⟩ | 2, _ => exact ⟨_, rfl⟩ | 3, _ => exact ⟨_, rfl⟩)).mono ?_
        rintro e w2 ⟨r, x, rfl, hr, hx, hs, hg⟩
        have hr2 : (r : Int) < 4 := by omega
        have S2 := hide hs
        have O2 := hide (owned_kept hsrc (unhide O1) hg)
        have G2 := hide (grown_trans (unhide G1) hg)
        clear hs hg O1 S1 G1
        have hz2s := (unhide G2).size
        go_wp2_with (at_builtin; refine wpList_append_own _ rfl _ _ 32 rfl w.heap.size 2 i0 (.int .i64 0) 1 8 Tryd.underlying32 hi hz0 hz1 hz2 rfl (by decide) _ _ _ rfl ((unhide O2).alloc _) ⟨w2.heap.size, 0, none⟩ 1 1 [.int .i64 (wrap64 (512 + 256 * (c : Int) + x))] rfl rfl ?c1 ?c2 ?c3 ?c4 ?c5 ?_)
        case c1 => exact cell_one_new _ _ _
        case c2 => intro u hu; simp at hu; subst hu; rfl
        case c3 => unfold maxLen; omega
        case c4 => omega
        case c5 => simp; omega
        intro v' w4 hown' hgrow _
        have R := hide (grown_row (unhide G2) (unhide O2) hgrow)
        have O4 := hide (row_snoc hown')
        have S4 := hide (src_move (unhide S2) (unhide HA) hsrc (unhide R).2.2 (unhide R).2.1)
        clear hown' hgrow
        go_wp2
        go_roundw
        case rel => exact ⟨k - 1, L ++ [wrap64 (512 + 256 * (c : Int) + x)], by go_num, by have := unhide HK; simp; omega, O4, S4, hide (unhide R).1⟩
        case measure => simp [intOf]; omega
      · go_wp2_with fail
        refine (n_nat _ src a len cap size 12 (by omega) (by omega) hl (unhide S1)).mono ?_
        rintro e w2 ⟨r, rfl, hr, hs, hg⟩
        have S2 := hide hs
        have O2 := hide (owned_kept hsrc (unhide O1) hg)
        have G2 := hide (grown_trans (unhide G1) hg)
        clear hs hg O1 S1 G1
        have hz2s := (unhide G2).size
        go_wp2_with (at_builtin; refine wpList_append_own _ rfl _ _ 32 rfl w.heap.size 2 i0 (.int .i64 0) 1 8 Tryd.underlying32 hi hz0 hz1 hz2 rfl (by decide) _ _ _ rfl ((unhide O2).alloc _) ⟨w2.heap.size, 0, none⟩ 1 1 [.int .i64 (512 + 256 * (c : Int) + 64 + (r : Int))] rfl rfl ?c1 ?c2 ?c3 ?c4 ?c5 ?_)
        case c1 => exact cell_one_new _ _ _
        case c2 => intro u hu; simp at hu; subst hu; rfl
        case c3 => unfold maxLen; omega
        case c4 => omega
        case c5 => simp; omega
        intro v' w4 hown' hgrow _
        have R := hide (grown_row (unhide G2) (unhide O2) hgrow)
        have O4 := hide (row_snoc hown')
        have S4 := hide (src_move (unhide S2) (unhide HA) hsrc (unhide R).2.2 (unhide R).2.1)
        clear hown' hgrow
        go_wp2
        go_roundw
        case rel => exact ⟨k - 1, L ++ [512 + 256 * (c : Int) + 64 + (r : Int)], by go_num, by have := unhide HK; simp; omega, O4, S4, hide (unhide R).1⟩
        case measure => simp [intOf]; omega
      · go_wp2_with fail
        refine (n_nat _ src a len cap size 64 (by omega) (by omega) hl (unhide S1)).mono ?_
        rintro e w2 ⟨r, rfl, hr, hs, hg⟩
        have S2 := hide hs
        have O2 := hide (owned_kept hsrc (unhide O1) hg)
        have G2 := hide (grown_trans (unhide G1) hg)
        clear hs hg O1 S1 G1
        have hz2s := (unhide G2).size
        go_wp2_with (at_builtin; refine wpList_append_own _ rfl _ _ 32 rfl w.heap.size 2 i0 (.int .i64 0) 1 8 Tryd.underlying32 hi hz0 hz1 hz2 rfl (by decide) _ _ _ rfl ((unhide O2).alloc _) ⟨w2.heap.size, 0, none⟩ 1 1 [.int .i64 (512 + 256 * (c : Int) + (r : Int))] rfl rfl ?c1 ?c2 ?c3 ?c4 ?c5 ?_)
        case c1 => exact cell_one_new _ _ _
        case c2 => intro u hu; simp at hu; subst hu; rfl
        case c3 => unfold maxLen; omega
        case c4 => omega
        case c5 => simp; omega
        intro v' w4 hown' hgrow _
        have R := hide (grown_row (unhide G2) (unhide O2) hgrow)
        have O4 := hide (row_snoc hown')
        have S4 := hide (src_move (unhide S2) (unhide HA) hsrc (unhide R).2.2 (unhide R).2.1)
        clear hown' hgrow
        go_wp2
        go_roundw
        case rel => exact ⟨k - 1, L ++ [512 + 256 * (c : Int) + (r : Int)], by go_num, by have := unhide HK; simp; omega, O4, S4, hide (unhide R).1⟩
        case measure => simp [intOf]; omega
      · have hs1 := src_lt (unhide S1)
        have e2 : (2 : Int) = ((2 : Nat) : Int) := rfl
        have NI := hide (n_idxD w1 #[.int .i64 65, .int .i64 97] src a len cap size 2 (by omega) (by omega) hl (unhide S1) (by intro i hi; match i, hi with | 0, _ => exact ⟨_, rfl⟩ | 1, _ => exact ⟨_, rfl⟩))
        rw [← e2] at NI
        have NJ := hide (n_two w1 src a len cap size hl (unhide S1))
        clear e2 S1
        go_upto_region 17 with fail
        go_region_law (first
          | (refine step_call rfl 40 #[.tmp 73, .const (.int .i64 2)] #[28, 2] rfl #[.pointer (some ⟨src, 0, none⟩), .int .i64 2] (by simp [Act.eval]) (by kernel_rfl) ((unhide NI).mono ?_); rintro e w2 ⟨r, x, rfl, hr, hx, z2, hs, hg⟩; have hr2 : (r : Int) < 2 := (by omega); have S2 := hide hs; have O2 := hide (owned_kept hsrc (unhide O1) hg); have G2 := hide (grown_trans (unhide G1) hg); clear hs hg O1 G1 NI NJ; refine ⟨_, rfl, ?_⟩)
          | (refine step_call rfl 40 #[.tmp 73, .const (.int .i64 2)] #[28, 2] rfl #[.pointer (some ⟨src, 0, none⟩), .int .i64 2] (by simp [Act.eval, Act.put]) (by kernel_rfl) ((unhide NJ).mono ?_); rintro e w2 ⟨r, x, rfl, hr, hX, hs, hg⟩; have hr2 : (r : Int) < 2 := (by omega); have hXA := hX w2; have S2 := hide hs; have O2 := hide (owned_kept hsrc (unhide O1) hg); have G2 := hide (grown_trans (unhide G1) hg); have z2 := (unhide G2).size; clear hs hg O1 G1 NI NJ; refine ⟨_, rfl, ?_⟩)
          | (refine step_call rfl 40 #[.tmp 77, .const (.int .i64 26)] #[28, 2] rfl #[.pointer (some ⟨src, 0, none⟩), .int .i64 26] (by simp [Act.eval, Act.put]) (by kernel_rfl) ((n_nat w2 src a len cap size 26 (by omega) (by omega) hl (unhide S2)).mono ?_); rintro e w3 ⟨q, rfl, hq, hs, hg⟩; have hx3 := (World.cell?_of_block (a := ⟨w1.heap.size, r, none⟩) (hg.block w1.heap.size z2 (by simp; omega))).trans hx; have S3 := hide hs; have O3 := hide (owned_kept hsrc (unhide O2) hg); have G3 := hide (grown_trans (unhide G2) hg); have z3 := (unhide G3).size; clear hs hg O2 S2 G2; refine ⟨_, rfl, ?_⟩)
          | (refine step_call rfl 40 #[.tmp 77, .const (.int .i64 26)] #[28, 2] rfl #[.pointer (some ⟨src, 0, none⟩), .int .i64 26] (by simp [Act.eval, Act.put]) (by kernel_rfl) ((n_nat (w2.alloc (.cells #[.int .i64 65, .int .i64 97] 2)) src a len cap size 26 (by omega) (by omega) hl (src_alloc (unhide S2) _)).mono ?_); rintro e w3 ⟨q, rfl, hq, hs, hg⟩; have hx3 := (World.cell?_of_block (a := ⟨w2.heap.size, r, none⟩) (hg.block w2.heap.size (by simp) (by simp; omega))).trans hXA; have S3 := hide hs; have O3 := hide (owned_kept hsrc ((unhide O2).alloc _) hg); have G3 := hide (grown_trans (grown_trans (unhide G2) (grown_alloc _ _ _)) hg); have z3 := (unhide G3).size; clear hs hg O2 S2 G2; refine ⟨_, rfl, ?_⟩)
          | (refine step_call rfl 40 #[.tmp 77, .const (.int .i64 26)] #[28, 2] rfl #[.pointer (some ⟨src, 0, none⟩), .int .i64 26] (by simp [Act.eval]) (by kernel_rfl) ((n_nat w2 src a len cap size 26 (by omega) (by omega) hl (unhide S2)).mono ?_); rintro e w3 ⟨q, rfl, hq, hs, hg⟩; have hx3 := hX w3; have S3 := hide hs; have O3 := hide (owned_kept hsrc (unhide O2) hg); have G3 := hide (grown_trans (unhide G2) hg); have z3 := (unhide G3).size; clear hs hg O2 S2 G2; refine ⟨_, rfl, ?_⟩)
          | (refine step_append_own rfl (.tmp 71) (.tmp 80) 32 rfl w.heap.size 2 i0 (.int .i64 0) 1 8 Tryd.underlying32 hi hz0 hz1 hz2 rfl (by decide) u3 L.length (L.map (Value.int .i64)) (by simp [Act.eval]) ((unhide O3).alloc _) ⟨w3.heap.size, 0, none⟩ 1 1 [.int .i64 (IntKind.i64.wrap (x + (q : Int)))] (by simp [Act.eval]) (by simp) (cell_one_new _ _ _) (by intro u hu; simp at hu; subst hu; rfl) (by unfold maxLen; omega) (by omega) (by simp; omega) ?_; intro v' w4 hown' hgrow; have OX := O3; have GX := G3; have SX := S3; clear O3 G3 S3)
          | (refine step_append_own rfl (.tmp 71) (.tmp 80) 32 rfl w.heap.size 2 i0 (.int .i64 0) 1 8 Tryd.underlying32 hi hz0 hz1 hz2 rfl (by decide) u3 L.length (L.map (Value.int .i64)) (by simp [Act.eval]) (((unhide O3).alloc _).alloc _) ⟨(w3.alloc (.cells #[.int .i64 65, .int .i64 97] 2)).heap.size, 0, none⟩ 1 1 [.int .i64 (IntKind.i64.wrap (x + (q : Int)))] (by simp [Act.eval]) (by simp) (cell_one_new _ _ _) (by intro u hu; simp at hu; subst hu; rfl) (by unfold maxLen; omega) (by omega) (by simp; omega) ?_; intro v' w4 hown' hgrow; have OX := hide ((unhide O3).alloc (.cells #[.int .i64 65, .int .i64 97] 2)); have GX := hide (grown_trans (unhide G3) (grown_alloc _ (.cells #[.int .i64 65, .int .i64 97] 2) _)); have SX := hide (src_alloc (unhide S3) (.cells #[.int .i64 65, .int .i64 97] 2)); clear O3 G3 S3))
        all_goals
          have R := hide (grown_row (unhide GX) (unhide OX) hgrow)
          have O4 := hide (row_snoc hown')
          have S4 := hide (src_move (unhide SX) (unhide HA) hsrc (unhide R).2.2 (unhide R).2.1)
          clear hown' hgrow
          go_wp2
          go_roundw
          case rel => exact ⟨k - 1, L ++ [_], by go_num, by have := unhide HK; simp; omega, O4, S4, hide (unhide R).1⟩
          case measure => simp [intOf]; omega
      · go_wp2_with fail
        refine (n_nat _ src a len cap size 32 (by omega) (by omega) hl (unhide S1)).mono ?_
        rintro e w2 ⟨r, rfl, hr, hs, hg⟩
        have S2 := hide hs
        have O2 := hide (owned_kept hsrc (unhide O1) hg)
        have G2 := hide (grown_trans (unhide G1) hg)
        clear hs hg O1 S1 G1
        have hz2s := (unhide G2).size
        go_wp2_with (at_builtin; refine wpList_append_own _ rfl _ _ 32 rfl w.heap.size 2 i0 (.int .i64 0) 1 8 Tryd.underlying32 hi hz0 hz1 hz2 rfl (by decide) _ _ _ rfl ((unhide O2).alloc _) ⟨w2.heap.size, 0, none⟩ 1 1 [.int .i64 (4096 + (r : Int))] rfl rfl ?c1 ?c2 ?c3 ?c4 ?c5 ?_)
        case c1 => exact cell_one_new _ _ _
        case c2 => intro u hu; simp at hu; subst hu; rfl
        case c3 => unfold maxLen; omega
        case c4 => omega
        case c5 => simp; omega
        intro v' w4 hown' hgrow _
        have R := hide (grown_row (unhide G2) (unhide O2) hgrow)
        have O4 := hide (row_snoc hown')
        have S4 := hide (src_move (unhide S2) (unhide HA) hsrc (unhide R).2.2 (unhide R).2.1)
        clear hown' hgrow
        go_wp2
        go_roundw
        case rel => exact ⟨k - 1, L ++ [4096 + (r : Int)], by go_num, by have := unhide HK; simp; omega, O4, S4, hide (unhide R).1⟩
        case measure => simp [intOf]; omega
      · go_wp2_with fail
        refine (n_nat _ src a len cap size 3 (by omega) (by omega) hl (unhide S1)).mono ?_
        rintro e w2 ⟨r, rfl, hr, hs, hg⟩
        have S2 := hide hs
        have O2 := hide (owned_kept hsrc (unhide O1) hg)
        have G2 := hide (grown_trans (unhide G1) hg)
        clear hs hg O1 S1 G1
        go_wp2_with fail
        refine (n_nat _ src a len cap size 416 (by omega) (by omega) hl (unhide S2)).mono ?_
        rintro e w3 ⟨q, rfl, hq, hs, hg⟩
        have S3 := hide hs
        have O3 := hide (owned_kept hsrc (unhide O2) hg)
        have G3 := hide (grown_trans (unhide G2) hg)
        clear hs hg O2 S2 G2
        have hz2s := (unhide G3).size
        go_wp2_with (at_builtin; refine wpList_append_own _ rfl _ _ 32 rfl w.heap.size 2 i0 (.int .i64 0) 1 8 Tryd.underlying32 hi hz0 hz1 hz2 rfl (by decide) _ _ _ rfl ((unhide O3).alloc _) ⟨w3.heap.size, 0, none⟩ 1 1 [.int .i64 (8192 + 512 * (r : Int) + (q : Int))] rfl rfl ?c1 ?c2 ?c3 ?c4 ?c5 ?_)
        case c1 => exact cell_one_new _ _ _
        case c2 => intro u hu; simp at hu; subst hu; rfl
        case c3 => unfold maxLen; omega
        case c4 => omega
        case c5 => simp; omega
        intro v' w4 hown' hgrow _
        have R := hide (grown_row (unhide G3) (unhide O3) hgrow)
        have O4 := hide (row_snoc hown')
        have S4 := hide (src_move (unhide S3) (unhide HA) hsrc (unhide R).2.2 (unhide R).2.1)
        clear hown' hgrow
        go_wp2
        go_roundw
        case rel => exact ⟨k - 1, L ++ [8192 + 512 * (r : Int) + (q : Int)], by go_num, by have := unhide HK; simp; omega, O4, S4, hide (unhide R).1⟩
        case measure => simp [intOf]; omega
      · go_wp2_with fail
        refine (n_nat _ src a len cap size 26 (by omega) (by omega) hl (unhide S1)).mono ?_
        rintro e w2 ⟨q, rfl, hq, hs, hg⟩
        have S2 := hide hs
        have O2 := hide (owned_kept hsrc (unhide O1) hg)
        have G2 := hide (grown_trans (unhide G1) hg)
        clear hs hg O1 S1 G1
        go_wp2_with fail
        refine (n_idx w2 _ src a len cap size 6 (by omega) (by omega) hl (unhide S2) (by intro i hi; match i, hi with | 0, _ => exact ⟨_, rfl⟩ | 1, _ => exact ⟨_, rfl⟩ | 2, _ => exact ⟨_, rfl⟩ | 3, _ => exact ⟨_, rfl⟩ | 4, _ => exact ⟨_, rfl⟩ | 5, _ => exact ⟨_, rfl⟩)).mono ?_
        rintro e w3 ⟨r, x, rfl, hr, hx, hs, hg⟩
        have hr2 : (r : Int) < 6 := by omega
        have S3 := hide hs
        have O3 := hide (owned_kept hsrc (unhide O2) hg)
        have G3 := hide (grown_trans (unhide G2) hg)
        clear hs hg O2 S2 G2
        have hz2s := (unhide G3).size
        go_wp2_with (at_builtin; refine wpList_append_own _ rfl _ _ 32 rfl w.heap.size 2 i0 (.int .i64 0) 1 8 Tryd.underlying32 hi hz0 hz1 hz2 rfl (by decide) _ _ _ rfl ((unhide O3).alloc _) ⟨w3.heap.size, 0, none⟩ 1 1 [.int .i64 (x)] rfl rfl ?c1 ?c2 ?c3 ?c4 ?c5 ?_)
        case c1 => exact cell_one_new _ _ _
        case c2 => intro u hu; simp at hu; subst hu; rfl
        case c3 => unfold maxLen; omega
        case c4 => omega
        case c5 => simp; omega
        intro v' w4 hown' hgrow _
        have R := hide (grown_row (unhide G3) (unhide O3) hgrow)
        have O4 := hide (row_snoc hown')
        have S4 := hide (src_move (unhide S3) (unhide HA) hsrc (unhide R).2.2 (unhide R).2.1)
        clear hown' hgrow
        go_wp2
        go_roundw
        case rel => exact ⟨k - 1, L ++ [x], by go_num, by have := unhide HK; simp; omega, O4, S4, hide (unhide R).1⟩
        case measure => simp [intOf]; omega
      · go_wp2_with fail
        refine (point_any _ src a len cap size hl (unhide S1)).mono ?_
        rintro e w2 ⟨x, rfl, hs, hg⟩
        have S2 := hide hs
        have O2 := hide (owned_kept hsrc (unhide O1) hg)
        have G2 := hide (grown_trans (unhide G1) hg)
        clear hs hg O1 S1 G1
        have hz2s := (unhide G2).size
        go_wp2_with (at_builtin; refine wpList_append_own _ rfl _ _ 32 rfl w.heap.size 2 i0 (.int .i64 0) 1 8 Tryd.underlying32 hi hz0 hz1 hz2 rfl (by decide) _ _ _ rfl ((unhide O2).alloc _) ⟨w2.heap.size, 0, none⟩ 1 1 [.int .i64 (x)] rfl rfl ?c1 ?c2 ?c3 ?c4 ?c5 ?_)
        case c1 => exact cell_one_new _ _ _
        case c2 => intro u hu; simp at hu; subst hu; rfl
        case c3 => unfold maxLen; omega
        case c4 => omega
        case c5 => simp; omega
        intro v' w4 hown' hgrow _
        have R := hide (grown_row (unhide G2) (unhide O2) hgrow)
        have O4 := hide (row_snoc hown')
        have S4 := hide (src_move (unhide S2) (unhide HA) hsrc (unhide R).2.2 (unhide R).2.1)
        clear hown' hgrow
        go_wp2
        go_roundw
        case rel => exact ⟨k - 1, L ++ [x], by go_num, by have := unhide HK; simp; omega, O4, S4, hide (unhide R).1⟩
        case measure => simp [intOf]; omega
    · have HL : Hid (L.length ≤ 33) := hide hL
      go_wp2_with fail
      refine (l01Text _ L _ (IntsAt.owned (unhide HO)) (by omega)).mono ?_
      rintro e w2 ⟨rfl, hb2⟩
      have S2 := hide (src_below (unhide HS) hb2)
      have G2 := hide (grown_bel (unhide HG) hb2)
      have ht : (strOfNums (textL L)).size ≤ 4000 := by
        rw [strOfNums_size]
        have := textL_le L
        omega
      clear hb2 HO HS HG
      generalize strOfNums (textL L) = t at *
      go_wp2_with fail
      refine (one_any _ src a len cap size 15 (by omega) (by omega) hl (unhide S2)).mono ?_
      rintro e w3 ⟨b1, rfl, hs, hg⟩
      have S3 := hide hs
      have G3 := hide (grown_trans (unhide G2) hg)
      clear hs hg S2 G2
      cases b1
      · go_wp2
        go_ret
        exact ⟨_, rfl, by omega, unhide S3, unhide G3⟩
      · go_wp2_with fail
        refine (spoil_any _ src a len cap size t hl (by omega) (unhide S3)).mono ?_
        rintro e w5 ⟨t2, rfl, ht2, hs, hg⟩
        have S5 := hide hs
        have G5 := hide (grown_trans (unhide G3) hg)
        clear hs hg S3 G3
        go_wp2
        go_ret
        exact ⟨_, rfl, by omega, unhide S5, unhide G5⟩
theorem drawFold_any (w : World) (a : Option Addr) (len cap : Nat) (hl : len ≤ 1048576) (hc : CodeIn w a len) :
    Calls Tryd.prog 4 #[.slice a len cap] w fun e w' => ∃ s : ByteArray, e = .returned (.string s) ∧ s.size ≤ 100001 ∧ Below w.heap.size w w' := by
  have H := hide hc
  clear hc
  go_enter Tryd.func4, Tryd.ntmps4
  go_wp2_with fail
  refine (source_any _ a len cap hl (unhide H)).mono ?_
  rintro e w1 ⟨rfl, size, z0, z1, hs, hb, hlt⟩
  have S1 := hide hs
  have B1 := hide hb
  clear hs hb
  go_wp2_with fail
  refine (cased_any _ w.heap.size a len cap size hl z0 z1 (unhide S1)).mono ?_
  rintro e w2 ⟨t, rfl, ht, hs, hg⟩
  have B2 := hide ((unhide B1).grown hg (unhide B1).size (fun k hk => by simp at hk; omega))
  clear hs hg S1 B1
  go_wp2
  go_ret
  exact ⟨_, rfl, ht, unhide B2⟩
end Go.Proofs.YtiodngmbpnkoeaaDoor.Dr
