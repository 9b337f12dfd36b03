/- The draw of FnJustified: a line and a width. -/
import Derived.Test.YtbaedapnikhdgaaGreatDoorJudW
namespace Go.Proofs.YtbaedapnikhdgaaGreatDoor.Dr
open Go.RowKit
set_option linter.unusedVariables false
set_option linter.unusedSimpArgs false
set_option maxRecDepth 100000 in
set_option maxHeartbeats 16000000 in
theorem para_any (w : World) (src : Nat) (a : Option Addr) (len cap : Nat) (size : Int) (hl : len ≤ 1048576) (hz0 : 0 ≤ size) (hz1 : size ≤ 12) (h : SrcAt w src a len cap size) :
    Calls Tryz.prog 11 #[.pointer (some ⟨src, 0, none⟩)] w fun e w' => ∃ t : ByteArray, e = .returned (.string t) ∧ t.size ≤ 672 ∧ SrcAt w' src a len cap size ∧ w.grownBy w' (some src) := by
  have S2 := hide h
  clear h
  obtain ⟨_, p2, mix2, _, _, hblk⟩ := unhide S2
  obtain ⟨s0, s1, s2, s3, _⟩ := src_cells hblk
  clear hblk s0 s1 s2
  go_enter Tryz.func11, Tryz.ntmps11
  go_wp2_with fail
  refine (n_nat _ src a len cap size (9 + size) (by omega) (by omega) hl (unhide S2)).mono ?_
  rintro e w3 ⟨r3, rfl, h3, hs, hg⟩
  have S3 := hide hs
  have G3 := hide hg
  clear hs hg S2 s3
  go_wp2
  go_loopw [3, 4] (fun ov nv wr => ∃ (t : ByteArray) (k : Nat), ov = .string t ∧ nv = .int .i64 (k : Int) ∧ t.size + 32 * k ≤ 672 ∧ Hid (SrcAt wr src a len cap size) ∧ Hid (w.grownBy wr (some src))) (fun _ nv _ => (intOf nv).toNat)
  case atStart => exact ⟨⟨#[]⟩, r3, rfl, rfl, by show 0 + 32 * r3 ≤ 672; omega, S3, G3⟩
  case round =>
    obtain ⟨t, k, rfl, rfl, hsz, HS, HG⟩ := hrel
    clear S3 G3
    by_cases hn : 0 < k
    · have hn' : (0 : Int) < (k : Int) := by omega
      go_wp2_with fail
      refine (n_nat _ src a len cap size 8 (by omega) (by omega) hl (unhide HS)).mono ?_
      rintro e w4 ⟨r4, rfl, h4, hs, hg⟩
      have S4 := hide hs
      have G4 := hide (grown_trans (unhide HG) hg)
      have h48 : r4 < 8 := by omega
      clear hs hg HS HG h4
      have hcase : r4 = 0 ∨ r4 = 1 ∨ r4 = 2 ∨ r4 = 3 ∨ r4 = 4 ∨ r4 = 5 ∨ r4 = 6 ∨ r4 = 7 := by omega
      rcases hcase with rfl | rfl | rfl | rfl | rfl | rfl | rfl | rfl
      · go_wp2_with (first
          | (go_at_call 13; refine (n_nat _ src a len cap size 4 (by omega) (by omega) hl (unhide S4)).mono ?_; rintro e w5 ⟨r5, rfl, h5, hs, hg⟩; have S5 := hide hs; have G5 := hide (grown_trans (unhide G4) hg); clear hs hg; obtain ⟨m5, hm5⟩ : ∃ m5 : Nat, 1 + (r5 : Int) = (m5 : Int) := ⟨1 + r5, by omega⟩)
          | (go_at_call 28; refine (word_any _ src a len cap size m5 (by omega) hl (unhide S5)).mono ?_; rintro e w6 ⟨u6, rfl, hu6, hs, hg⟩; have S6 := hide hs; have G6 := hide (grown_trans (unhide G5) hg); clear hs hg; have HAD6 := fun W => run_string_add_sum (P := Tryz.prog) (w := W) t u6 (by omega); have htu : (t ++ u6).size = t.size + u6.size := ByteArray.size_append; generalize t ++ u6 = tu at *; have hlt := src_lt (unhide S6); have HSA := hide (src_alloc (unhide S6) (.cells #[.string ⟨#[32]⟩, .string ⟨#[32]⟩, .string ⟨#[32, 32]⟩, .string ⟨#[44, 32]⟩] 9)); have HGA := hide (grown_trans (unhide G6) (grown_alloc w6 (.cells #[.string ⟨#[32]⟩, .string ⟨#[32]⟩, .string ⟨#[32, 32]⟩, .string ⟨#[44, 32]⟩] 9) (some src))); have HLT := hide (lit_cells w6 #[.string ⟨#[32]⟩, .string ⟨#[32]⟩, .string ⟨#[32, 32]⟩, .string ⟨#[44, 32]⟩] 4 2 (fun i hi => by
                  have hi' : i = 0 ∨ i = 1 ∨ i = 2 ∨ i = 3 := by omega
                  rcases hi' with rfl | rfl | rfl | rfl
                  · exact ⟨_, rfl, by decide⟩
                  · exact ⟨_, rfl, by decide⟩
                  · exact ⟨_, rfl, by decide⟩
                  · exact ⟨_, rfl, by decide⟩)))
          | (go_at_call 29; refine (pickN_any _ src a len cap size w6.heap.size 4 4 2 (by omega) (by omega) hl (unhide HSA) (by simp) (by omega) (unhide HLT)).mono ?_; rintro e w9 ⟨u9, rfl, hu9, hs, hg⟩; have HAD9 := fun W => run_string_add_sum (P := Tryz.prog) (w := W) tu u9 (by omega); have hfin : (tu ++ u9).size ≤ tu.size + 2 := (by rw [ByteArray.size_append]; omega); have S9 := hide hs; have G9 := hide (grown_trans (unhide HGA) hg); clear hs hg))
        have hrel9 : (tu ++ u9).size + 32 * (k - 1) ≤ 672 := by rw [ByteArray.size_append]; omega
        go_roundw
        case rel => exact ⟨tu ++ u9, k - 1, rfl, by go_num, hrel9, S9, G9⟩
        case measure => simp [intOf]; omega
      · go_wp2_with (first
          | (go_at_call 13; refine (n_nat _ src a len cap size 4 (by omega) (by omega) hl (unhide S4)).mono ?_; rintro e w5 ⟨r5, rfl, h5, hs, hg⟩; have S5 := hide hs; have G5 := hide (grown_trans (unhide G4) hg); clear hs hg; obtain ⟨m5, hm5⟩ : ∃ m5 : Nat, 1 + (r5 : Int) = (m5 : Int) := ⟨1 + r5, by omega⟩)
          | (go_at_call 28; refine (word_any _ src a len cap size m5 (by omega) hl (unhide S5)).mono ?_; rintro e w6 ⟨u6, rfl, hu6, hs, hg⟩; have S6 := hide hs; have G6 := hide (grown_trans (unhide G5) hg); clear hs hg; have HAD6 := fun W => run_string_add_sum (P := Tryz.prog) (w := W) t u6 (by omega); have htu : (t ++ u6).size = t.size + u6.size := ByteArray.size_append; generalize t ++ u6 = tu at *; have hlt := src_lt (unhide S6); have HSA := hide (src_alloc (unhide S6) (.cells #[.string ⟨#[32]⟩, .string ⟨#[32]⟩, .string ⟨#[32, 32]⟩, .string ⟨#[44, 32]⟩] 9)); have HGA := hide (grown_trans (unhide G6) (grown_alloc w6 (.cells #[.string ⟨#[32]⟩, .string ⟨#[32]⟩, .string ⟨#[32, 32]⟩, .string ⟨#[44, 32]⟩] 9) (some src))); have HLT := hide (lit_cells w6 #[.string ⟨#[32]⟩, .string ⟨#[32]⟩, .string ⟨#[32, 32]⟩, .string ⟨#[44, 32]⟩] 4 2 (fun i hi => by
                  have hi' : i = 0 ∨ i = 1 ∨ i = 2 ∨ i = 3 := by omega
                  rcases hi' with rfl | rfl | rfl | rfl
                  · exact ⟨_, rfl, by decide⟩
                  · exact ⟨_, rfl, by decide⟩
                  · exact ⟨_, rfl, by decide⟩
                  · exact ⟨_, rfl, by decide⟩)))
          | (go_at_call 29; refine (pickN_any _ src a len cap size w6.heap.size 4 4 2 (by omega) (by omega) hl (unhide HSA) (by simp) (by omega) (unhide HLT)).mono ?_; rintro e w9 ⟨u9, rfl, hu9, hs, hg⟩; have HAD9 := fun W => run_string_add_sum (P := Tryz.prog) (w := W) tu u9 (by omega); have hfin : (tu ++ u9).size ≤ tu.size + 2 := (by rw [ByteArray.size_append]; omega); have S9 := hide hs; have G9 := hide (grown_trans (unhide HGA) hg); clear hs hg))
        have hrel9 : (tu ++ u9).size + 32 * (k - 1) ≤ 672 := by rw [ByteArray.size_append]; omega
        go_roundw
        case rel => exact ⟨tu ++ u9, k - 1, rfl, by go_num, hrel9, S9, G9⟩
        case measure => simp [intOf]; omega
      · go_wp2_with (first
          | (go_at_call 13; refine (n_nat _ src a len cap size 4 (by omega) (by omega) hl (unhide S4)).mono ?_; rintro e w5 ⟨r5, rfl, h5, hs, hg⟩; have S5 := hide hs; have G5 := hide (grown_trans (unhide G4) hg); clear hs hg; obtain ⟨m5, hm5⟩ : ∃ m5 : Nat, 1 + (r5 : Int) = (m5 : Int) := ⟨1 + r5, by omega⟩)
          | (go_at_call 28; refine (word_any _ src a len cap size m5 (by omega) hl (unhide S5)).mono ?_; rintro e w6 ⟨u6, rfl, hu6, hs, hg⟩; have S6 := hide hs; have G6 := hide (grown_trans (unhide G5) hg); clear hs hg; have HAD6 := fun W => run_string_add_sum (P := Tryz.prog) (w := W) t u6 (by omega); have htu : (t ++ u6).size = t.size + u6.size := ByteArray.size_append; generalize t ++ u6 = tu at *; have hlt := src_lt (unhide S6); have HSA := hide (src_alloc (unhide S6) (.cells #[.string ⟨#[32]⟩, .string ⟨#[32]⟩, .string ⟨#[32, 32]⟩, .string ⟨#[44, 32]⟩] 9)); have HGA := hide (grown_trans (unhide G6) (grown_alloc w6 (.cells #[.string ⟨#[32]⟩, .string ⟨#[32]⟩, .string ⟨#[32, 32]⟩, .string ⟨#[44, 32]⟩] 9) (some src))); have HLT := hide (lit_cells w6 #[.string ⟨#[32]⟩, .string ⟨#[32]⟩, .string ⟨#[32, 32]⟩, .string ⟨#[44, 32]⟩] 4 2 (fun i hi => by
                  have hi' : i = 0 ∨ i = 1 ∨ i = 2 ∨ i = 3 := by omega
                  rcases hi' with rfl | rfl | rfl | rfl
                  · exact ⟨_, rfl, by decide⟩
                  · exact ⟨_, rfl, by decide⟩
                  · exact ⟨_, rfl, by decide⟩
                  · exact ⟨_, rfl, by decide⟩)))
          | (go_at_call 29; refine (pickN_any _ src a len cap size w6.heap.size 4 4 2 (by omega) (by omega) hl (unhide HSA) (by simp) (by omega) (unhide HLT)).mono ?_; rintro e w9 ⟨u9, rfl, hu9, hs, hg⟩; have HAD9 := fun W => run_string_add_sum (P := Tryz.prog) (w := W) tu u9 (by omega); have hfin : (tu ++ u9).size ≤ tu.size + 2 := (by rw [ByteArray.size_append]; omega); have S9 := hide hs; have G9 := hide (grown_trans (unhide HGA) hg); clear hs hg))
        have hrel9 : (tu ++ u9).size + 32 * (k - 1) ≤ 672 := by rw [ByteArray.size_append]; omega
        go_roundw
        case rel => exact ⟨tu ++ u9, k - 1, rfl, by go_num, hrel9, S9, G9⟩
        case measure => simp [intOf]; omega
      · have hlt := src_lt (unhide S4)
        have HSA := hide (src_alloc (unhide S4) (.cells #[.string ⟨#[97, 98, 194, 173, 99, 100]⟩, .string ⟨#[194, 173]⟩, .string ⟨#[120, 45, 121]⟩, .string ⟨#[10]⟩, .string ⟨#[32, 10]⟩, .string ⟨#[13, 10]⟩, .string ⟨#[13]⟩] 9))
        have HGA := hide (grown_trans (unhide G4) (grown_alloc w4 (.cells #[.string ⟨#[97, 98, 194, 173, 99, 100]⟩, .string ⟨#[194, 173]⟩, .string ⟨#[120, 45, 121]⟩, .string ⟨#[10]⟩, .string ⟨#[32, 10]⟩, .string ⟨#[13, 10]⟩, .string ⟨#[13]⟩] 9) (some src)))
        have HLT := hide (lit_cells w4 #[.string ⟨#[97, 98, 194, 173, 99, 100]⟩, .string ⟨#[194, 173]⟩, .string ⟨#[120, 45, 121]⟩, .string ⟨#[10]⟩, .string ⟨#[32, 10]⟩, .string ⟨#[13, 10]⟩, .string ⟨#[13]⟩] 7 6 (fun i hi => by
            have hi' : i = 0 ∨ i = 1 ∨ i = 2 ∨ i = 3 ∨ i = 4 ∨ i = 5 ∨ i = 6 := by omega
            rcases hi' with rfl | rfl | rfl | rfl | rfl | rfl | rfl
            · exact ⟨_, rfl, by decide⟩
            · exact ⟨_, rfl, by decide⟩
            · exact ⟨_, rfl, by decide⟩
            · exact ⟨_, rfl, by decide⟩
            · exact ⟨_, rfl, by decide⟩
            · exact ⟨_, rfl, by decide⟩
            · exact ⟨_, rfl, by decide⟩))
        go_wp2_with (first
          | (go_at_call 29; refine (pickN_any _ src a len cap size w4.heap.size 7 7 6 (by omega) (by omega) hl (unhide HSA) (by simp) (by omega) (unhide HLT)).mono ?_; rintro e w9 ⟨u9, rfl, hu9, hs, hg⟩; have HAD9 := fun W => run_string_add_sum (P := Tryz.prog) (w := W) t u9 (by omega); have hfin : (t ++ u9).size ≤ t.size + 6 := (by rw [ByteArray.size_append]; omega); have S9 := hide hs; have G9 := hide (grown_trans (unhide HGA) hg); clear hs hg))
        have hrel9 : (t ++ u9).size + 32 * (k - 1) ≤ 672 := by rw [ByteArray.size_append]; omega
        go_roundw
        case rel => exact ⟨t ++ u9, k - 1, rfl, by go_num, hrel9, S9, G9⟩
        case measure => simp [intOf]; omega
      · have T1 : True := trivial
        have T2 : True := trivial
        have T3 : True := trivial
        have T4 : True := trivial
        have T5 : True := trivial
        go_wp2_with (first
          | (clear T1; go_at_call 30; refine (writeN _ _).mono ?_; rintro e v1 ⟨x1, rfl, hx1, hb1⟩; have S51 := hide (src_below (unhide S4) hb1); have G51 := hide (grown_bel (unhide G4) hb1); clear hb1)
          | (clear T2; go_at_call 30; refine (writeN _ _).mono ?_; rintro e v2 ⟨x2, rfl, hx2, hb2⟩; have S52 := hide (src_below (unhide S51) hb2); have G52 := hide (grown_bel (unhide G51) hb2); clear hb2)
          | (clear T3; go_at_call 30; refine (writeN _ _).mono ?_; rintro e v3 ⟨x3, rfl, hx3, hb3⟩; have S53 := hide (src_below (unhide S52) hb3); have G53 := hide (grown_bel (unhide G52) hb3); clear hb3)
          | (clear T4; go_at_call 30; refine (writeN _ _).mono ?_; rintro e v4 ⟨x4, rfl, hx4, hb4⟩; have S54 := hide (src_below (unhide S53) hb4); have G54 := hide (grown_bel (unhide G53) hb4); clear hb4; have HAD34 := fun W => run_string_add_sum (P := Tryz.prog) (w := W) x3 x4 (by omega); have hx34 : (x3 ++ x4).size ≤ 8 := (by rw [ByteArray.size_append]; omega); generalize x3 ++ x4 = x34 at *)
          | (clear T5; go_at_call 30; refine (writeN _ _).mono ?_; rintro e v5 ⟨x5, rfl, hx5, hb5⟩; have S55 := hide (src_below (unhide S54) hb5); have G55 := hide (grown_bel (unhide G54) hb5); clear hb5; have hlt := src_lt (unhide S55); have HSA := hide (src_alloc (unhide S55) (.cells #[.string x1, .string x2, .string x34, .string x5] 9)); have HGA := hide (grown_trans (unhide G55) (grown_alloc v5 (.cells #[.string x1, .string x2, .string x34, .string x5] 9) (some src))); have HLT := hide (lit_cells v5 #[.string x1, .string x2, .string x34, .string x5] 4 8 (fun i hi => by
                  have hi' : i = 0 ∨ i = 1 ∨ i = 2 ∨ i = 3 := by omega
                  rcases hi' with rfl | rfl | rfl | rfl
                  · exact ⟨_, rfl, by omega⟩
                  · exact ⟨_, rfl, by omega⟩
                  · exact ⟨_, rfl, by omega⟩
                  · exact ⟨_, rfl, by omega⟩)))
          | (go_at_call 29; refine (pickN_any _ src a len cap size v5.heap.size 4 4 8 (by omega) (by omega) hl (unhide HSA) (by simp) (by omega) (unhide HLT)).mono ?_; rintro e w9 ⟨u9, rfl, hu9, hs, hg⟩; have HAD9 := fun W => run_string_add_sum (P := Tryz.prog) (w := W) t u9 (by omega); have hfin : (t ++ u9).size ≤ t.size + 8 := (by rw [ByteArray.size_append]; omega); have S9 := hide hs; have G9 := hide (grown_trans (unhide HGA) hg); clear hs hg))
        have hrel9 : (t ++ u9).size + 32 * (k - 1) ≤ 672 := by rw [ByteArray.size_append]; omega
        go_roundw
        case rel => exact ⟨t ++ u9, k - 1, rfl, by go_num, hrel9, S9, G9⟩
        case measure => simp [intOf]; omega
      · have T1 : True := trivial
        have T2 : True := trivial
        have T3 : True := trivial
        go_wp2_with (first
          | (clear T1; go_at_call 30; refine (writeN _ _).mono ?_; rintro e v1 ⟨x1, rfl, hx1, hb1⟩; have S51 := hide (src_below (unhide S4) hb1); have G51 := hide (grown_bel (unhide G4) hb1); clear hb1; have HADA := fun W => run_string_add_sum (P := Tryz.prog) (w := W) ⟨#[97]⟩ x1 (by show 1 + x1.size ≤ _; omega); have hx1a : (⟨#[97]⟩ ++ x1 : ByteArray).size ≤ 5 := (by rw [ByteArray.size_append]; show 1 + x1.size ≤ 5; omega); generalize (⟨#[97]⟩ ++ x1 : ByteArray) = x1a at *)
          | (clear T2; go_at_call 30; refine (writeN _ _).mono ?_; rintro e v2 ⟨x2, rfl, hx2, hb2⟩; have S52 := hide (src_below (unhide S51) hb2); have G52 := hide (grown_bel (unhide G51) hb2); clear hb2)
          | (clear T3; go_at_call 30; refine (writeN _ _).mono ?_; rintro e v3 ⟨x3, rfl, hx3, hb3⟩; have S53 := hide (src_below (unhide S52) hb3); have G53 := hide (grown_bel (unhide G52) hb3); clear hb3; have hlt := src_lt (unhide S53); have HSA := hide (src_alloc (unhide S53) (.cells #[.string ⟨#[40]⟩, .string ⟨#[41]⟩, .string x1a, .string ⟨#[46, 32]⟩, .string x2, .string x3] 9)); have HGA := hide (grown_trans (unhide G53) (grown_alloc v3 (.cells #[.string ⟨#[40]⟩, .string ⟨#[41]⟩, .string x1a, .string ⟨#[46, 32]⟩, .string x2, .string x3] 9) (some src))); have HLT := hide (lit_cells v3 #[.string ⟨#[40]⟩, .string ⟨#[41]⟩, .string x1a, .string ⟨#[46, 32]⟩, .string x2, .string x3] 6 5 (fun i hi => by
                  have hi' : i = 0 ∨ i = 1 ∨ i = 2 ∨ i = 3 ∨ i = 4 ∨ i = 5 := by omega
                  rcases hi' with rfl | rfl | rfl | rfl | rfl | rfl
                  · exact ⟨_, rfl, by decide⟩
                  · exact ⟨_, rfl, by decide⟩
                  · exact ⟨_, rfl, by omega⟩
                  · exact ⟨_, rfl, by decide⟩
                  · exact ⟨_, rfl, by omega⟩
                  · exact ⟨_, rfl, by omega⟩)))
          | (go_at_call 29; refine (pickN_any _ src a len cap size v3.heap.size 6 6 5 (by omega) (by omega) hl (unhide HSA) (by simp) (by omega) (unhide HLT)).mono ?_; rintro e w9 ⟨u9, rfl, hu9, hs, hg⟩; have HAD9 := fun W => run_string_add_sum (P := Tryz.prog) (w := W) t u9 (by omega); have hfin : (t ++ u9).size ≤ t.size + 5 := (by rw [ByteArray.size_append]; omega); have S9 := hide hs; have G9 := hide (grown_trans (unhide HGA) hg); clear hs hg))
        have hrel9 : (t ++ u9).size + 32 * (k - 1) ≤ 672 := by rw [ByteArray.size_append]; omega
        go_roundw
        case rel => exact ⟨t ++ u9, k - 1, rfl, by go_num, hrel9, S9, G9⟩
        case measure => simp [intOf]; omega
      · go_wp2_with (first
          | (go_at_call 13; refine (n_nat _ src a len cap size 3 (by omega) (by omega) hl (unhide S4)).mono ?_; rintro e w5 ⟨r5, rfl, h5, hs, hg⟩; have S5 := hide hs; have G5 := hide (grown_trans (unhide G4) hg); clear hs hg; obtain ⟨m5, hm5⟩ : ∃ m5 : Nat, 1 + (r5 : Int) = (m5 : Int) := ⟨1 + r5, by omega⟩)
          | (go_at_call 28; refine (word_any _ src a len cap size m5 (by omega) hl (unhide S5)).mono ?_; rintro e w6 ⟨u6, rfl, hu6, hs, hg⟩; have S6 := hide hs; have G6 := hide (grown_trans (unhide G5) hg); clear hs hg; have HAD6 := fun W => run_string_add_sum (P := Tryz.prog) (w := W) t u6 (by omega)))
        have hrel9 : (t ++ u6).size + 32 * (k - 1) ≤ 672 := by rw [ByteArray.size_append]; omega
        go_roundw
        case rel => exact ⟨t ++ u6, k - 1, rfl, by go_num, hrel9, S6, G6⟩
        case measure => simp [intOf]; omega
      · go_wp2_with (first
          | (go_at_call 13; refine (n_nat _ src a len cap size 3 (by omega) (by omega) hl (unhide S4)).mono ?_; rintro e w5 ⟨r5, rfl, h5, hs, hg⟩; have S5 := hide hs; have G5 := hide (grown_trans (unhide G4) hg); clear hs hg; obtain ⟨m5, hm5⟩ : ∃ m5 : Nat, 1 + (r5 : Int) = (m5 : Int) := ⟨1 + r5, by omega⟩)
          | (go_at_call 28; refine (word_any _ src a len cap size m5 (by omega) hl (unhide S5)).mono ?_; rintro e w6 ⟨u6, rfl, hu6, hs, hg⟩; have S6 := hide hs; have G6 := hide (grown_trans (unhide G5) hg); clear hs hg; have HAD6 := fun W => run_string_add_sum (P := Tryz.prog) (w := W) t u6 (by omega)))
        have hrel9 : (t ++ u6).size + 32 * (k - 1) ≤ 672 := by rw [ByteArray.size_append]; omega
        go_roundw
        case rel => exact ⟨t ++ u6, k - 1, rfl, by go_num, hrel9, S6, G6⟩
        case measure => simp [intOf]; omega
    · obtain rfl : k = 0 := by omega
      go_wp2
      go_ret
      exact ⟨_, rfl, by omega, unhide HS, unhide HG⟩
set_option maxRecDepth 100000 in
set_option maxHeartbeats 4000000 in
theorem drawJ_any (w : World) (a : Option Addr) (len cap : Nat) (hl : len ≤ 1048576) (hc : CodeIn w a len) :
    Calls Tryz.prog 4 #[.slice a len cap] w fun e w' => ∃ (t : ByteArray) (wd : Int), e = .returned (.tuple #[.string t, .int .i64 wd]) ∧ t.size ≤ 672 ∧ Below w.heap.size w w' := by
  have CS := hide (source_any w a len cap hl hc)
  clear hc
  go_enter Tryz.func4, Tryz.ntmps4
  go_wp2_with fail
  refine (unhide CS).mono ?_
  rintro e w1 ⟨rfl, size, hzz0, hzz1, hs1, hb1, hlt1⟩
  have S1 := hide hs1
  have B1 := hide hb1
  clear hs1 hb1 CS
  go_wp2_with fail
  refine (para_any _ _ a len cap size hl hzz0 hzz1 (unhide S1)).mono ?_
  rintro e w2 ⟨t, rfl, ht, hs, hg⟩
  have S2 := hide hs
  have G2 := hide hg
  clear hs hg S1
  go_wp2_with fail
  refine (Wid.wideS t (by omega) _).mono ?_
  rintro e w3 ⟨rfl, hb3⟩
  have S3 := hide (src_below (unhide S2) hb3)
  have G3 := hide (grown_bel (unhide G2) hb3)
  have hwb := Jus.lk_bd t 0 (by omega) (by omega)
  clear hb3 S2 G2
  obtain ⟨-, -, hw0, hw1⟩ := hwb
  generalize Wid.ws (Chr.charsOut t) = wd at *
  obtain ⟨src, hsrcE⟩ : ∃ src, w.heap.size = src := ⟨_, rfl⟩
  have HBS := hide (unhide B1).size
  have HFIN : Hid (∀ V, w1.grownBy V (some src) → Below w.heap.size w V) := hide (fun V hg => (unhide B1).grown hg (unhide B1).size (fun k e => by injection e with e; omega))
  have hsrc : src < w1.heap.size := by omega
  simp only [hsrcE] at S3 G3 ⊢
  clear hsrcE B1 HBS hlt1
  go_upto_region 3 with fail
  refine (wpIn_wide (n := 1)).1 ?_
  refine Wid.region_inv Wid.mixedW (fun lf ac w' => ∃ (b0 b1 b2 b3 b4 b5 b6 b7 b8 b9 b10 b11 b12 b13 b14 b15 b16 b17 : Bool) (ra rb rc ri hb : Nat) (xv : Int), lf = #[b0, b1, b2, b3, b4, b5, b6, b7, b8, b9, b10, b11, b12, b13, b14, b15, b16, b17] ∧ ac = { tmps := #[.slice a len cap, undef, (bif b16 then .string t else .string ⟨#[]⟩), (bif b17 then .int .i64 xv else .int .i64 0), .pointer (some ⟨src, 0, none⟩), .string t, .int .i64 wd, .slice a len cap, .pointer (some ⟨src, 0, none⟩), .pointer (some ⟨src, 0, none⟩), .string t, .string t, .int .i64 wd, (bif b0 then .string t else undef), (bif b1 then .int .i64 wd else undef), (bif b2 then .pointer (some ⟨src, 0, none⟩) else undef), (bif b3 then .int .i64 (ra : Int) else undef), (bif b4 then .int .i64 (IntKind.i64.wrap (wd + (ra : Int))) else undef), (bif b5 then .int .i64 wd else undef), (bif b6 then .pointer (some ⟨src, 0, none⟩) else undef), (bif b7 then .int .i64 (rb : Int) else undef), (bif b8 then .int .i64 (IntKind.i64.wrap (wd - (rb : Int))) else undef), (bif b9 then .pointer (some ⟨src, 0, none⟩) else undef), (bif b10 then .int .i64 (rc : Int) else undef), (bif b11 then .slice (some ⟨hb, 0, none⟩) 6 6 else undef), (bif b12 then .pointer (some ⟨src, 0, none⟩) else undef), (bif b13 then .int .i64 (ri : Int) else undef), (bif b14 then .pointer (some ⟨hb, ri, none⟩) else undef), (bif b15 then .int .i64 xv else undef)], defers := [] } ∧ Hid (SrcAt w' src a len cap size) ∧ Hid (w1.grownBy w' (some src)) ∧ (ra < 9 ∧ rb < 3 ∧ ri < 6) ∧ (b11 = true → (∃ O : Array Value, w'.heap[hb]? = some (.cells O 2 (0, 0)) ∧ ∀ i, i < 6 → ∃ x : Int, O[i]? = some (.int .i64 x)) ∧ hb ≠ src) ∧ (b4 = true → b3 = true) ∧ (b8 = true → b7 = true) ∧ (b14 = true → b11 = true ∧ b13 = true) ∧ (b17 = true → b15 = true)) (by kernel_rfl) ?size ?first ?step ?last
  case size =>
    rintro lf ac w' ⟨b0, b1, b2, b3, b4, b5, b6, b7, b8, b9, b10, b11, b12, b13, b14, b15, b16, b17, ra, rb, rc, ri, hb, xv, rfl, _⟩
    rfl
  case first => exact ⟨false, false, false, false, false, false, false, false, false, false, false, false, false, false, false, false, false, false, 0, 0, 0, 0, 0, 0, rfl, rfl, hide (src_below (unhide S3) (bdrew (Below.refl w3.heap.size w3) 1)), hide (grown_bel (unhide G3) (bdrew (Below.refl w3.heap.size w3) 1)), ⟨by omega, by omega, by omega⟩, (fun h => by cases h), (fun h => by cases h), (fun h => by cases h), (fun h => by cases h), (fun h => by cases h)⟩
  case step =>
    rintro ii lf ac w' ⟨b0, b1, b2, b3, b4, b5, b6, b7, b8, b9, b10, b11, b12, b13, b14, b15, b16, b17, ra, rb, rc, ri, hb, xv, rfl, rfl, hS, hG, hR, h11, h4, h8, h14, h17⟩ hr
    have hr := mem_ready.1 hr
    have hRa : (ra : Int) < 9 := (by have := hR.1; omega)
    have hRb : (rb : Int) < 3 := (by have := hR.2.1; omega)
    have hRi : (ri : Int) < 6 := (by have := hR.2.2; omega)
    have hRi0 : (0 : Int) ≤ (ri : Int) := (by omega)
    rcases ii with _ | _ | _ | _ | _ | _ | _ | _ | _ | _ | _ | _ | _ | _ | _ | _ | _ | _ | ii
    · simp [Region.binds] at hr
      repeat (rcases hr with ⟨hq, hr⟩)
      subst_vars
      refine wpOpIn_step rfl (fun K hK => ?_)
      go_simp
      refine hK _ _ ⟨true, _, _, _, _, _, _, _, _, _, _, _, _, _, _, _, _, _, ra, rb, rc, ri, hb, xv, rfl, rfl, hS, hG, hR, h11, h4, h8, h14, h17⟩
    · simp [Region.binds] at hr
      repeat (rcases hr with ⟨hq, hr⟩)
      subst_vars
      refine wpOpIn_step rfl (fun K hK => ?_)
      go_simp
      refine hK _ _ ⟨_, true, _, _, _, _, _, _, _, _, _, _, _, _, _, _, _, _, ra, rb, rc, ri, hb, xv, rfl, rfl, hS, hG, hR, h11, h4, h8, h14, h17⟩
    · simp [Region.binds] at hr
      repeat (rcases hr with ⟨hq, hr⟩)
      subst_vars
      refine wpOpIn_step rfl (fun K hK => ?_)
      go_simp
      refine hK _ _ ⟨_, _, true, _, _, _, _, _, _, _, _, _, _, _, _, _, _, _, ra, rb, rc, ri, hb, xv, rfl, rfl, hS, hG, hR, h11, h4, h8, h14, h17⟩
    · simp [Region.binds] at hr
      repeat (rcases hr with ⟨hq, hr⟩)
      subst_vars
      obtain rfl : b4 = false := by
        cases b4 with
        | false => rfl
        | true => cases h4 rfl
      refine wpOpIn_step rfl (fun K hK => ?_)
      go_simp
      (first | refine ⟨trivial, (fun h => (by cases h)), ?_⟩ | refine ⟨trivial, ?_⟩)
      gi_at_call 13
      refine (callsIn_wide.2 (n_nat _ src a len cap size 9 (by omega) (by omega) hl (unhide hS))).mono ?_
      rintro e W5 ⟨r5, rfl, hr5, hs5, hg5⟩
      have S5 := hide hs5
      have G5 := hide (grown_trans (unhide hG) hg5)
      have K5 : b11 = true → (∃ O : Array Value, W5.heap[hb]? = some (.cells O 2 (0, 0)) ∧ ∀ i, i < 6 → ∃ x : Int, O[i]? = some (.int .i64 x)) ∧ hb ≠ src := fun h => by
        obtain ⟨⟨O, q1, q2⟩, q3⟩ := h11 h
        exact ⟨⟨O, (hg5.block hb (Array.getElem?_eq_some_iff.1 q1).1 (fun e => q3 (by injection e))).trans q1, q2⟩, q3⟩
      clear hs5 hg5
      refine hK _ _ ⟨_, _, _, true, _, _, _, _, _, _, _, _, _, _, _, _, _, _, r5, rb, rc, ri, hb, xv, rfl, rfl, S5, G5, ⟨by omega, hR.2.1, hR.2.2⟩, K5, (fun _ => rfl), h8, h14, h17⟩
    · simp [Region.binds] at hr
      repeat (rcases hr with ⟨hq, hr⟩)
      subst_vars
      refine wpOpIn_step rfl (fun K hK => ?_)
      go_simp
      refine hK _ _ ⟨_, _, _, _, true, _, _, _, _, _, _, _, _, _, _, _, _, _, ra, rb, rc, ri, hb, xv, rfl, rfl, hS, hG, hR, h11, (fun _ => rfl), h8, h14, h17⟩
    · simp [Region.binds] at hr
      repeat (rcases hr with ⟨hq, hr⟩)
      subst_vars
      refine wpOpIn_step rfl (fun K hK => ?_)
      go_simp
      refine hK _ _ ⟨_, _, _, _, _, true, _, _, _, _, _, _, _, _, _, _, _, _, ra, rb, rc, ri, hb, xv, rfl, rfl, hS, hG, hR, h11, h4, h8, h14, h17⟩
    · simp [Region.binds] at hr
      repeat (rcases hr with ⟨hq, hr⟩)
      subst_vars
      refine wpOpIn_step rfl (fun K hK => ?_)
      go_simp
      refine hK _ _ ⟨_, _, _, _, _, _, true, _, _, _, _, _, _, _, _, _, _, _, ra, rb, rc, ri, hb, xv, rfl, rfl, hS, hG, hR, h11, h4, h8, h14, h17⟩
    · simp [Region.binds] at hr
      repeat (rcases hr with ⟨hq, hr⟩)
      subst_vars
      obtain rfl : b8 = false := by
        cases b8 with
        | false => rfl
        | true => cases h8 rfl
      refine wpOpIn_step rfl (fun K hK => ?_)
      go_simp
      (first | refine ⟨trivial, (fun h => (by cases h)), ?_⟩ | refine ⟨trivial, ?_⟩)
      gi_at_call 13
      refine (callsIn_wide.2 (n_nat _ src a len cap size 3 (by omega) (by omega) hl (unhide hS))).mono ?_
      rintro e W5 ⟨r5, rfl, hr5, hs5, hg5⟩
      have S5 := hide hs5
      have G5 := hide (grown_trans (unhide hG) hg5)
      have K5 : b11 = true → (∃ O : Array Value, W5.heap[hb]? = some (.cells O 2 (0, 0)) ∧ ∀ i, i < 6 → ∃ x : Int, O[i]? = some (.int .i64 x)) ∧ hb ≠ src := fun h => by
        obtain ⟨⟨O, q1, q2⟩, q3⟩ := h11 h
        exact ⟨⟨O, (hg5.block hb (Array.getElem?_eq_some_iff.1 q1).1 (fun e => q3 (by injection e))).trans q1, q2⟩, q3⟩
      clear hs5 hg5
      refine hK _ _ ⟨_, _, _, _, _, _, _, true, _, _, _, _, _, _, _, _, _, _, ra, r5, rc, ri, hb, xv, rfl, rfl, S5, G5, ⟨hR.1, by omega, hR.2.2⟩, K5, h4, (fun _ => rfl), h14, h17⟩
    · simp [Region.binds] at hr
      repeat (rcases hr with ⟨hq, hr⟩)
      subst_vars
      refine wpOpIn_step rfl (fun K hK => ?_)
      go_simp
      refine hK _ _ ⟨_, _, _, _, _, _, _, _, true, _, _, _, _, _, _, _, _, _, ra, rb, rc, ri, hb, xv, rfl, rfl, hS, hG, hR, h11, h4, (fun _ => rfl), h14, h17⟩
    · simp [Region.binds] at hr
      repeat (rcases hr with ⟨hq, hr⟩)
      subst_vars
      refine wpOpIn_step rfl (fun K hK => ?_)
      go_simp
      refine hK _ _ ⟨_, _, _, _, _, _, _, _, _, true, _, _, _, _, _, _, _, _, ra, rb, rc, ri, hb, xv, rfl, rfl, hS, hG, hR, h11, h4, h8, h14, h17⟩
    · simp [Region.binds] at hr
      repeat (rcases hr with ⟨hq, hr⟩)
      subst_vars
      refine wpOpIn_step rfl (fun K hK => ?_)
      go_simp
      (first | refine ⟨trivial, (fun h => (by cases h)), ?_⟩ | refine ⟨trivial, ?_⟩)
      gi_at_call 13
      refine (callsIn_wide.2 (n_nat _ src a len cap size 30 (by omega) (by omega) hl (unhide hS))).mono ?_
      rintro e W5 ⟨r5, rfl, hr5, hs5, hg5⟩
      have S5 := hide hs5
      have G5 := hide (grown_trans (unhide hG) hg5)
      have K5 : b11 = true → (∃ O : Array Value, W5.heap[hb]? = some (.cells O 2 (0, 0)) ∧ ∀ i, i < 6 → ∃ x : Int, O[i]? = some (.int .i64 x)) ∧ hb ≠ src := fun h => by
        obtain ⟨⟨O, q1, q2⟩, q3⟩ := h11 h
        exact ⟨⟨O, (hg5.block hb (Array.getElem?_eq_some_iff.1 q1).1 (fun e => q3 (by injection e))).trans q1, q2⟩, q3⟩
      clear hs5 hg5
      refine hK _ _ ⟨_, _, _, _, _, _, _, _, _, _, true, _, _, _, _, _, _, _, ra, rb, r5, ri, hb, xv, rfl, rfl, S5, G5, hR, K5, h4, h8, h14, h17⟩
    · simp [Region.binds] at hr
      repeat (rcases hr with ⟨hq, hr⟩)
      subst_vars
      have e3 := h4 rfl
      subst e3
      have e7 := h8 rfl
      subst e7
      have S2 := hide (src_alloc (unhide hS) (.cells #[.int .i64 (IntKind.i64.wrap (wd + (ra : Int))), .int .i64 (IntKind.i64.wrap (wd - (rb : Int))), .int .i64 (rc : Int), .int .i64 1000, .int .i64 1001, .int .i64 (-1)] 2))
      have G2 := hide (grown_trans (unhide hG) (grown_alloc w' (.cells #[.int .i64 (IntKind.i64.wrap (wd + (ra : Int))), .int .i64 (IntKind.i64.wrap (wd - (rb : Int))), .int .i64 (rc : Int), .int .i64 1000, .int .i64 1001, .int .i64 (-1)] 2) (some src)))
      have hlt2 := src_lt (unhide hS)
      have hO : ∀ i, i < 6 → ∃ x : Int, (#[.int .i64 (IntKind.i64.wrap (wd + (ra : Int))), .int .i64 (IntKind.i64.wrap (wd - (rb : Int))), .int .i64 (rc : Int), .int .i64 1000, .int .i64 1001, .int .i64 (-1)] : Array Value)[i]? = some (.int .i64 x) := fun i hi => by
        have hi' : i = 0 ∨ i = 1 ∨ i = 2 ∨ i = 3 ∨ i = 4 ∨ i = 5 := by omega
        rcases hi' with rfl | rfl | rfl | rfl | rfl | rfl <;> exact ⟨_, rfl⟩
      obtain rfl : b14 = false := by
        cases b14 with
        | false => rfl
        | true => cases (h14 rfl).1
      refine wpOpIn_step rfl (fun K hK => ?_)
      go_simp
      refine hK _ _ ⟨_, _, _, _, _, _, _, _, _, _, _, true, _, _, _, _, _, _, ra, rb, rc, ri, w'.heap.size, xv, rfl, rfl, S2, G2, hR, (fun _ => ⟨⟨_, by unfold World.alloc; exact Array.getElem?_push_size, hO⟩, by omega⟩), h4, h8, (fun h => by cases h), h17⟩
    · simp [Region.binds] at hr
      repeat (rcases hr with ⟨hq, hr⟩)
      subst_vars
      refine wpOpIn_step rfl (fun K hK => ?_)
      go_simp
      refine hK _ _ ⟨_, _, _, _, _, _, _, _, _, _, _, _, true, _, _, _, _, _, ra, rb, rc, ri, hb, xv, rfl, rfl, hS, hG, hR, h11, h4, h8, h14, h17⟩
    · simp [Region.binds] at hr
      repeat (rcases hr with ⟨hq, hr⟩)
      subst_vars
      obtain rfl : b14 = false := by
        cases b14 with
        | false => rfl
        | true => cases (h14 rfl).2
      refine wpOpIn_step rfl (fun K hK => ?_)
      go_simp
      (first | refine ⟨trivial, (fun h => (by cases h)), ?_⟩ | refine ⟨trivial, ?_⟩)
      gi_at_call 13
      refine (callsIn_wide.2 (n_nat _ src a len cap size 6 (by omega) (by omega) hl (unhide hS))).mono ?_
      rintro e W5 ⟨r5, rfl, hr5, hs5, hg5⟩
      have S5 := hide hs5
      have G5 := hide (grown_trans (unhide hG) hg5)
      have K5 : b11 = true → (∃ O : Array Value, W5.heap[hb]? = some (.cells O 2 (0, 0)) ∧ ∀ i, i < 6 → ∃ x : Int, O[i]? = some (.int .i64 x)) ∧ hb ≠ src := fun h => by
        obtain ⟨⟨O, q1, q2⟩, q3⟩ := h11 h
        exact ⟨⟨O, (hg5.block hb (Array.getElem?_eq_some_iff.1 q1).1 (fun e => q3 (by injection e))).trans q1, q2⟩, q3⟩
      clear hs5 hg5
      refine hK _ _ ⟨_, _, _, _, _, _, _, _, _, _, _, _, _, true, _, _, _, _, ra, rb, rc, r5, hb, xv, rfl, rfl, S5, G5, ⟨hR.1, hR.2.1, by omega⟩, K5, h4, h8, (fun h => by cases h), h17⟩
    · simp [Region.binds] at hr
      repeat (rcases hr with ⟨hq, hr⟩)
      subst_vars
      refine wpOpIn_step rfl (fun K hK => ?_)
      go_simp
      refine hK _ _ ⟨_, _, _, _, _, _, _, _, _, _, _, _, _, _, true, _, _, _, ra, rb, rc, ri, hb, xv, rfl, rfl, hS, hG, hR, h11, h4, h8, (fun _ => ⟨rfl, rfl⟩), h17⟩
    · simp [Region.binds] at hr
      repeat (rcases hr with ⟨hq, hr⟩)
      subst_vars
      obtain ⟨e1, e3⟩ := h14 rfl
      subst e1
      subst e3
      obtain ⟨⟨O, q1, q2⟩, q3⟩ := h11 rfl
      obtain ⟨x, hx⟩ := q2 ri hR.2.2
      have kc : w'.cell? ⟨hb, ri, none⟩ = some (.int .i64 x) := by simp only [World.cell?, q1]; simpa using hx
      obtain rfl : b17 = false := by
        cases b17 with
        | false => rfl
        | true => cases h17 rfl
      refine wpOpIn_step rfl (fun K hK => ?_)
      go_simp
      refine hK _ _ ⟨_, _, _, _, _, _, _, _, _, _, _, _, _, _, _, true, _, _, ra, rb, rc, ri, hb, x, rfl, rfl, hS, hG, hR, h11, h4, h8, h14, (fun h => by cases h)⟩
    · simp [Region.binds] at hr
      repeat (rcases hr with ⟨hq, hr⟩)
      subst_vars
      refine wpOpIn_step rfl (fun K hK => ?_)
      go_simp
      refine hK _ _ ⟨_, _, _, _, _, _, _, _, _, _, _, _, _, _, _, _, true, _, ra, rb, rc, ri, hb, xv, rfl, rfl, hS, hG, hR, h11, h4, h8, h14, h17⟩
    · simp [Region.binds] at hr
      repeat (rcases hr with ⟨hq, hr⟩)
      subst_vars
      refine wpOpIn_step rfl (fun K hK => ?_)
      go_simp
      refine hK _ _ ⟨_, _, _, _, _, _, _, _, _, _, _, _, _, _, _, _, _, true, ra, rb, rc, ri, hb, xv, rfl, rfl, hS, hG, hR, h11, h4, h8, h14, (fun _ => rfl)⟩
    · simp at hr
  case last =>
    rintro ac W4 ⟨f0, f1, f2, f3, f4, f5, f6, f7, f8, f9, f10, f11, f12, f13, f14, f15, f16, f17, ra, rb, rc, ri, hb, xv, hlf, rfl, hS, hG, hR, h11, h4, h8, h14, h17⟩
    have hlf := congrArg Array.toList hlf
    simp at hlf
    repeat (rcases hlf with ⟨hq, hlf⟩)
    subst_vars
    clear h11 h4 h8 h14 h17
    go_wp2_with fail
    go_ret2
    have HB9 := (unhide HFIN) _ (unhide hG)
    exact ⟨t, ⟨xv, rfl⟩, ht, HB9⟩
end Go.Proofs.YtbaedapnikhdgaaGreatDoor.Dr
