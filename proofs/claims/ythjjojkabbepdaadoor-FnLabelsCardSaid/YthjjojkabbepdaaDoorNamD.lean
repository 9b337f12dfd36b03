/- The draw of names. -/
import Derived.Test.YthjjojkabbepdaaDoorDText
namespace Go.Proofs.YthjjojkabbepdaaDoor.Dr
open Go.RowKit
set_option linter.unusedVariables false
set_option maxRecDepth 100000 in
set_option maxHeartbeats 2000000 in
set_option maxRecDepth 100000 in
theorem pickN_any (w : World) (src : Nat) (a : Option Addr) (len cap : Nat) (size : Int) (b n c m : Nat) (hn : 0 < n) (hn2 : n ≤ 1000) (hl : len ≤ 1048576) (h : SrcAt w src a len cap size) (hb : b < w.heap.size) (hne : b ≠ src)
    (hc : ∀ i, i < n → ∃ t : ByteArray, w.cell? ⟨b, i, none⟩ = some (.string t) ∧ t.size ≤ m) :
    Calls Tryd.prog 30 #[.pointer (some ⟨src, 0, none⟩), .slice (some ⟨b, 0, none⟩) n c] w fun e w' => ∃ t : ByteArray, e = .returned (.string t) ∧ t.size ≤ m ∧ SrcAt w' src a len cap size ∧ w.grownBy w' (some src) := by
  have CN := hide (n_nat w src a len cap size (n : Int) (by omega) (by omega) hl h)
  have HC := hide hc
  clear h hc
  go_enter Tryd.func30, Tryd.ntmps30
  go_wp2_with fail
  refine (unhide CN).mono ?_
  rintro e w1 ⟨r, rfl, hr, hs, hg⟩
  have hr' : r < n := by omega
  have hr2 : (r : Int) < (n : Int) := by omega
  have hr0 : (0 : Int) ≤ (r : Int) := by omega
  obtain ⟨t, ht, hts⟩ := (unhide HC) r hr'
  have c1 : w1.cell? ⟨b, r, none⟩ = some (.string t) := (World.cell?_of_block (a := ⟨b, r, none⟩) (hg.block b hb (fun e => hne (by injection e)))).trans ht
  have S1 := hide hs
  have G1 := hide hg
  clear hs hg CN HC ht
  go_wp2
  go_ret
  exact ⟨t, rfl, hts, unhide S1, unhide G1⟩
def lits : Array Value := #[.string ⟨#[97]⟩, .string ⟨#[98]⟩, .string ⟨#[99]⟩, .string ⟨#[108]⟩, .string ⟨#[49]⟩, .string ⟨#[48]⟩, .string ⟨#[73]⟩, .string ⟨#[111]⟩, .string ⟨#[79]⟩, .string ⟨#[95]⟩, .string ⟨#[102]⟩]
theorem lit11 (w : World) : ∀ i, i < 11 → ∃ t : ByteArray, (w.alloc (.cells #[.string ⟨#[97]⟩, .string ⟨#[98]⟩, .string ⟨#[99]⟩, .string ⟨#[108]⟩, .string ⟨#[49]⟩, .string ⟨#[48]⟩, .string ⟨#[73]⟩, .string ⟨#[111]⟩, .string ⟨#[79]⟩, .string ⟨#[95]⟩, .string ⟨#[102]⟩] 9)).cell? ⟨w.heap.size, i, none⟩ = some (.string t) ∧ t.size ≤ 4 := by
  intro i hi
  have hn : (w.alloc (.cells #[.string ⟨#[97]⟩, .string ⟨#[98]⟩, .string ⟨#[99]⟩, .string ⟨#[108]⟩, .string ⟨#[49]⟩, .string ⟨#[48]⟩, .string ⟨#[73]⟩, .string ⟨#[111]⟩, .string ⟨#[79]⟩, .string ⟨#[95]⟩, .string ⟨#[102]⟩] 9)).heap[w.heap.size]? = some (.cells #[.string ⟨#[97]⟩, .string ⟨#[98]⟩, .string ⟨#[99]⟩, .string ⟨#[108]⟩, .string ⟨#[49]⟩, .string ⟨#[48]⟩, .string ⟨#[73]⟩, .string ⟨#[111]⟩, .string ⟨#[79]⟩, .string ⟨#[95]⟩, .string ⟨#[102]⟩] 9 (0, 0)) := by unfold World.alloc; exact Array.getElem?_push_size
  simp only [World.cell?, hn]
  have hi' : i = 0 ∨ i = 1 ∨ i = 2 ∨ i = 3 ∨ i = 4 ∨ i = 5 ∨ i = 6 ∨ i = 7 ∨ i = 8 ∨ i = 9 ∨ i = 10 := by omega
  rcases hi' with rfl | rfl | rfl | rfl | rfl | rfl | rfl | rfl | rfl | rfl | rfl <;> exact ⟨_, rfl, by decide⟩
theorem enc_sz (p : Int) : (strOfNums (Lib.encodeRuneZ p)).size ≤ 4 := by
  rw [strOfNums_size]
  have := textL_le [p]
  simpa [textL] using this
theorem writeN (p : Int) (w : World) : Calls Tryd.prog 31 #[.int .i64 p] w fun e w' => ∃ u : ByteArray, e = .returned (.string u) ∧ u.size ≤ 4 ∧ Below w.heap.size w w' := by
  refine (write_any p w).mono ?_
  rintro e w' ⟨rfl, hb⟩
  exact ⟨_, rfl, enc_sz p, hb⟩
set_option maxRecDepth 100000 in
set_option maxHeartbeats 4000000 in
theorem name_any (w : World) (src : Nat) (a : Option Addr) (len cap : Nat) (size : Int) (hl : len ≤ 1048576) (hz0 : 0 ≤ size) (hz1 : size ≤ 12) (h : SrcAt w src a len cap size) :
    Calls Tryd.prog 14 #[.pointer (some ⟨src, 0, none⟩)] w fun e w' => ∃ t : ByteArray, e = .returned (.string t) ∧ t.size ≤ 64 ∧ SrcAt w' src a len cap size ∧ w.grownBy w' (some src) := by
  have H := hide h
  clear h
  have hq : size.tdiv 2 = size / 2 := Int.tdiv_eq_ediv_of_nonneg hz0
  go_enter Tryd.func14, Tryd.ntmps14
  go_wp2_with fail
  refine (n_nat _ src a len cap size 3 (by omega) (by omega) hl (unhide H)).mono ?_
  rintro e w1 ⟨r1, rfl, h1, hs, hg⟩
  have S1 := hide hs
  have G1 := hide hg
  clear hs hg H
  go_wp2_with fail
  refine (n_nat _ src a len cap size 3 (by omega) (by omega) hl (unhide S1)).mono ?_
  rintro e w2 ⟨r2, rfl, h2, hs, hg⟩
  have S2 := hide hs
  have G2 := hide (grown_trans (unhide G1) hg)
  clear hs hg S1 G1
  obtain ⟨_, p2, mix2, _, _, hblk⟩ := unhide S2
  obtain ⟨s0, s1, s2, s3, _⟩ := src_cells hblk
  clear hblk s0 s1 s2
  have m0 : 0 ≤ size / 2 := by omega
  have m1 : size / 2 ≤ 6 := by omega
  generalize size / 2 = half at *
  go_wp2_with fail
  refine (n_nat _ src a len cap size (8 + half) (by omega) (by omega) hl (unhide S2)).mono ?_
  rintro e w3 ⟨r3, rfl, h3, hs, hg⟩
  have S3 := hide hs
  have G3 := hide (grown_trans (unhide G2) hg)
  clear hs hg S2 G2 s3
  go_wp2
  go_loopw [3, 5, 6] (fun ov kv nv wr => ∃ (t : ByteArray) (k n : Nat), ov = .string t ∧ kv = .int .i64 k ∧ nv = .int .i64 n ∧ k < 3 ∧ t.size + 4 * n ≤ 4 * r3 ∧ Hid (SrcAt wr src a len cap size) ∧ Hid (w.grownBy wr (some src))) (fun _ _ nv _ => (intOf nv).toNat)
  case atStart => exact ⟨⟨#[]⟩, r2, r3, rfl, rfl, rfl, by omega, by show 0 + 4 * r3 ≤ 4 * r3; omega, S3, G3⟩
  case round =>
    obtain ⟨t, k, n, rfl, rfl, rfl, hk3, hsz, HS, HG⟩ := hrel
    clear S3 G3
    have hlt := src_lt (unhide HS)
    have hGs := (unhide HG).size
    by_cases hn : 0 < n
    · have hn' : (0 : Int) < (n : Int) := by omega
      go_wp2_with fail
      refine (one_any _ src a len cap size 8 (by omega) (by omega) hl (unhide HS)).mono ?_
      rintro e w4 ⟨b4, rfl, hs, hg⟩
      have S4 := hide hs
      have G4 := hide (grown_trans (unhide HG) hg)
      clear hs hg HS HG hlt hGs
      have STEP : Hid (True) := hide trivial
      cases b4 with
      | true =>
        go_wp2_with fail
        refine (n_nat _ src a len cap size 3 (by omega) (by omega) hl (unhide S4)).mono ?_
        rintro e w5 ⟨k5, rfl, h5, hs, hg⟩
        have S5 := hide hs
        have G5 := hide (grown_trans (unhide G4) hg)
        have hk5 : k5 < 3 := by omega
        clear hs hg S4 G4 hk3
        obtain rfl | rfl | rfl : k5 = 0 ∨ k5 = 1 ∨ k5 = 2 := by omega
        · have hlt := src_lt (unhide S5)
          have HSA := hide (src_alloc (unhide S5) (.cells #[.string ⟨#[97]⟩, .string ⟨#[98]⟩, .string ⟨#[99]⟩, .string ⟨#[108]⟩, .string ⟨#[49]⟩, .string ⟨#[48]⟩, .string ⟨#[73]⟩, .string ⟨#[111]⟩, .string ⟨#[79]⟩, .string ⟨#[95]⟩, .string ⟨#[102]⟩] 9))
          have HGA := hide (grown_trans (unhide G5) (grown_alloc w5 (.cells #[.string ⟨#[97]⟩, .string ⟨#[98]⟩, .string ⟨#[99]⟩, .string ⟨#[108]⟩, .string ⟨#[49]⟩, .string ⟨#[48]⟩, .string ⟨#[73]⟩, .string ⟨#[111]⟩, .string ⟨#[79]⟩, .string ⟨#[95]⟩, .string ⟨#[102]⟩] 9) (some src)))
          have HLT := hide (lit11 w5)
          go_wp2_with (go_at_call 30; refine (pickN_any _ src a len cap size w5.heap.size 11 11 4 (by omega) (by omega) hl (unhide HSA) (by simp) (by omega) (unhide HLT)).mono ?_; rintro e w6 ⟨u, rfl, hu, hs, hg⟩; have HAD := fun W => run_string_add_sum (P := Tryd.prog) (w := W) t u (by omega); have S6 := hide hs; have G6 := hide (grown_trans (unhide HGA) hg); clear hs hg)
          have hsz2 : (t ++ u).size + 4 * (n - 1) ≤ 4 * r3 := by rw [ByteArray.size_append]; omega
          go_roundw
          case rel => exact ⟨t ++ u, 0, n - 1, rfl, rfl, by go_num, by omega, hsz2, S6, G6⟩
          case measure => simp [intOf]; omega
        · have hlt := src_lt (unhide S5)
          have CI := hide (n_idx w5 #[.int .i64 32, .int .i64 33, .int .i64 34, .int .i64 37, .int .i64 50, .int .i64 0, .int .i64 5, .int .i64 80, .int .i64 81] src a len cap size 9 (by omega) (by omega) hl (unhide S5) (fun i hi => by
            have hi' : i = 0 ∨ i = 1 ∨ i = 2 ∨ i = 3 ∨ i = 4 ∨ i = 5 ∨ i = 6 ∨ i = 7 ∨ i = 8 := by omega
            rcases hi' with rfl | rfl | rfl | rfl | rfl | rfl | rfl | rfl | rfl <;> exact ⟨_, rfl⟩))
          go_wp2_with (first
            | (go_at_call 26; refine (unhide CI).mono ?_; rintro e w6 ⟨r6, x6, rfl, hr6, c6, hs, hg⟩; have hr6' : (r6 : Int) < 9 := (by omega); have hr60 : (0 : Int) ≤ (r6 : Int) := (by omega); have S6 := hide hs; have G6 := hide (grown_trans (unhide G5) hg); clear hs hg)
            | (go_at_call 31; refine (writeN _ _).mono ?_; rintro e w7 ⟨u, rfl, hu, hb7⟩; have S7 := hide (src_below (unhide S6) hb7); have G7 := hide (grown_bel (unhide G6) hb7); clear hb7; have HAD := fun W => run_string_add_sum (P := Tryd.prog) (w := W) t u (by omega)))
          have hsz2 : (t ++ u).size + 4 * (n - 1) ≤ 4 * r3 := by rw [ByteArray.size_append]; omega
          go_roundw
          case rel => exact ⟨t ++ u, 1, n - 1, rfl, rfl, by go_num, by omega, hsz2, S7, G7⟩
          case measure => simp [intOf]; omega
        · have hlt := src_lt (unhide S5)
          have CI := hide (n_idx w5 #[.int .i64 1280, .int .i64 1281, .int .i64 8192, .int .i64 4096, .int .i64 24577, .int .i64 2049, .int .i64 9984, .int .i64 10016, .int .i64 7936, .int .i64 609] src a len cap size 10 (by omega) (by omega) hl (unhide S5) (fun i hi => by
            have hi' : i = 0 ∨ i = 1 ∨ i = 2 ∨ i = 3 ∨ i = 4 ∨ i = 5 ∨ i = 6 ∨ i = 7 ∨ i = 8 ∨ i = 9 := by omega
            rcases hi' with rfl | rfl | rfl | rfl | rfl | rfl | rfl | rfl | rfl | rfl <;> exact ⟨_, rfl⟩))
          go_wp2_with (first
            | (go_at_call 26; refine (unhide CI).mono ?_; rintro e w6 ⟨r6, x6, rfl, hr6, c6, hs, hg⟩; have hr6' : (r6 : Int) < 10 := (by omega); have hr60 : (0 : Int) ≤ (r6 : Int) := (by omega); have S6 := hide hs; have G6 := hide (grown_trans (unhide G5) hg); clear hs hg)
            | (go_at_call 31; refine (writeN _ _).mono ?_; rintro e w7 ⟨u, rfl, hu, hb7⟩; have S7 := hide (src_below (unhide S6) hb7); have G7 := hide (grown_bel (unhide G6) hb7); clear hb7; have HAD := fun W => run_string_add_sum (P := Tryd.prog) (w := W) t u (by omega)))
          have hsz2 : (t ++ u).size + 4 * (n - 1) ≤ 4 * r3 := by rw [ByteArray.size_append]; omega
          go_roundw
          case rel => exact ⟨t ++ u, 2, n - 1, rfl, rfl, by go_num, by omega, hsz2, S7, G7⟩
          case measure => simp [intOf]; omega
      | false =>
        obtain rfl | rfl | rfl : k = 0 ∨ k = 1 ∨ k = 2 := by omega
        · have hlt := src_lt (unhide S4)
          have HSA := hide (src_alloc (unhide S4) (.cells #[.string ⟨#[97]⟩, .string ⟨#[98]⟩, .string ⟨#[99]⟩, .string ⟨#[108]⟩, .string ⟨#[49]⟩, .string ⟨#[48]⟩, .string ⟨#[73]⟩, .string ⟨#[111]⟩, .string ⟨#[79]⟩, .string ⟨#[95]⟩, .string ⟨#[102]⟩] 9))
          have HGA := hide (grown_trans (unhide G4) (grown_alloc w4 (.cells #[.string ⟨#[97]⟩, .string ⟨#[98]⟩, .string ⟨#[99]⟩, .string ⟨#[108]⟩, .string ⟨#[49]⟩, .string ⟨#[48]⟩, .string ⟨#[73]⟩, .string ⟨#[111]⟩, .string ⟨#[79]⟩, .string ⟨#[95]⟩, .string ⟨#[102]⟩] 9) (some src)))
          have HLT := hide (lit11 w4)
          go_wp2_with (go_at_call 30; refine (pickN_any _ src a len cap size w4.heap.size 11 11 4 (by omega) (by omega) hl (unhide HSA) (by simp) (by omega) (unhide HLT)).mono ?_; rintro e w6 ⟨u, rfl, hu, hs, hg⟩; have HAD := fun W => run_string_add_sum (P := Tryd.prog) (w := W) t u (by omega); have S6 := hide hs; have G6 := hide (grown_trans (unhide HGA) hg); clear hs hg)
          have hsz2 : (t ++ u).size + 4 * (n - 1) ≤ 4 * r3 := by rw [ByteArray.size_append]; omega
          go_roundw
          case rel => exact ⟨t ++ u, 0, n - 1, rfl, rfl, by go_num, by omega, hsz2, S6, G6⟩
          case measure => simp [intOf]; omega
        · have hlt := src_lt (unhide S4)
          have CI := hide (n_idx w4 #[.int .i64 32, .int .i64 33, .int .i64 34, .int .i64 37, .int .i64 50, .int .i64 0, .int .i64 5, .int .i64 80, .int .i64 81] src a len cap size 9 (by omega) (by omega) hl (unhide S4) (fun i hi => by
            have hi' : i = 0 ∨ i = 1 ∨ i = 2 ∨ i = 3 ∨ i = 4 ∨ i = 5 ∨ i = 6 ∨ i = 7 ∨ i = 8 := by omega
            rcases hi' with rfl | rfl | rfl | rfl | rfl | rfl | rfl | rfl | rfl <;> exact ⟨_, rfl⟩))
          go_wp2_with (first
            | (go_at_call 26; refine (unhide CI).mono ?_; rintro e w6 ⟨r6, x6, rfl, hr6, c6, hs, hg⟩; have hr6' : (r6 : Int) < 9 := (by omega); have hr60 : (0 : Int) ≤ (r6 : Int) := (by omega); have S6 := hide hs; have G6 := hide (grown_trans (unhide G4) hg); clear hs hg)
            | (go_at_call 31; refine (writeN _ _).mono ?_; rintro e w7 ⟨u, rfl, hu, hb7⟩; have S7 := hide (src_below (unhide S6) hb7); have G7 := hide (grown_bel (unhide G6) hb7); clear hb7; have HAD := fun W => run_string_add_sum (P := Tryd.prog) (w := W) t u (by omega)))
          have hsz2 : (t ++ u).size + 4 * (n - 1) ≤ 4 * r3 := by rw [ByteArray.size_append]; omega
          go_roundw
          case rel => exact ⟨t ++ u, 1, n - 1, rfl, rfl, by go_num, by omega, hsz2, S7, G7⟩
          case measure => simp [intOf]; omega
        · have hlt := src_lt (unhide S4)
          have CI := hide (n_idx w4 #[.int .i64 1280, .int .i64 1281, .int .i64 8192, .int .i64 4096, .int .i64 24577, .int .i64 2049, .int .i64 9984, .int .i64 10016, .int .i64 7936, .int .i64 609] src a len cap size 10 (by omega) (by omega) hl (unhide S4) (fun i hi => by
            have hi' : i = 0 ∨ i = 1 ∨ i = 2 ∨ i = 3 ∨ i = 4 ∨ i = 5 ∨ i = 6 ∨ i = 7 ∨ i = 8 ∨ i = 9 := by omega
            rcases hi' with rfl | rfl | rfl | rfl | rfl | rfl | rfl | rfl | rfl | rfl <;> exact ⟨_, rfl⟩))
          go_wp2_with (first
            | (go_at_call 26; refine (unhide CI).mono ?_; rintro e w6 ⟨r6, x6, rfl, hr6, c6, hs, hg⟩; have hr6' : (r6 : Int) < 10 := (by omega); have hr60 : (0 : Int) ≤ (r6 : Int) := (by omega); have S6 := hide hs; have G6 := hide (grown_trans (unhide G4) hg); clear hs hg)
            | (go_at_call 31; refine (writeN _ _).mono ?_; rintro e w7 ⟨u, rfl, hu, hb7⟩; have S7 := hide (src_below (unhide S6) hb7); have G7 := hide (grown_bel (unhide G6) hb7); clear hb7; have HAD := fun W => run_string_add_sum (P := Tryd.prog) (w := W) t u (by omega)))
          have hsz2 : (t ++ u).size + 4 * (n - 1) ≤ 4 * r3 := by rw [ByteArray.size_append]; omega
          go_roundw
          case rel => exact ⟨t ++ u, 2, n - 1, rfl, rfl, by go_num, by omega, hsz2, S7, G7⟩
          case measure => simp [intOf]; omega
    · obtain rfl : n = 0 := by omega
      go_wp2
      go_ret
      exact ⟨_, rfl, by omega, unhide HS, unhide HG⟩
end Go.Proofs.YthjjojkabbepdaaDoor.Dr
