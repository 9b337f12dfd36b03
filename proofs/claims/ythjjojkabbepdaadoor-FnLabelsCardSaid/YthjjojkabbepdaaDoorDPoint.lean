/- A drawn point: some number; the source is one again. -/
import Derived.Test.YthjjojkabbepdaaDoorDSource
namespace Go.Proofs.YthjjojkabbepdaaDoor.Dr
open Go.RowKit
theorem grown_alloc (w : World) (o : Obj) (r : Option Nat) : w.grownBy (w.alloc o) r :=
  ⟨rfl, rfl, rfl, by simp, fun k hk _ => Below.heap_alloc w o k hk⟩
theorem src_lt {w : World} {src len cap : Nat} {a : Option Addr} {size : Int} (h : SrcAt w src a len cap size) : src < w.heap.size := by
  obtain ⟨_, p, mix, _, _, hh⟩ := h
  exact (Array.getElem?_eq_some_iff.1 hh).1
/-- The source stays one where its own block and the code's have not turned. -/
theorem src_keep {w w' : World} {src len cap : Nat} {a : Option Addr} {size : Int} (h : SrcAt w src a len cap size) (hs : w.heap.size ≤ w'.heap.size) (hb : ∀ k, k < w.heap.size → w'.heap[k]? = w.heap[k]?) : SrcAt w' src a len cap size := by
  have hlt := src_lt h
  obtain ⟨hc, p, mix, hp, hwf, hh⟩ := h
  refine ⟨?_, p, mix, hp, hwf, (hb src hlt).trans hh⟩
  rcases hc with h0 | ⟨cb, off, ha, hcb, hne, hcc⟩
  · exact .inl h0
  · refine .inr ⟨cb, off, ha, by omega, hne, fun i hi => ?_⟩
    obtain ⟨z, hz, hzb⟩ := hcc i hi
    exact ⟨z, (World.cell?_of_block (a := ⟨cb, off + i, none⟩) (hb cb hcb)).trans hz, hzb⟩
theorem src_alloc {w : World} {src len cap : Nat} {a : Option Addr} {size : Int} (h : SrcAt w src a len cap size) (o : Obj) : SrcAt (w.alloc o) src a len cap size :=
  src_keep h (by simp) (fun k hk => Below.heap_alloc w o k hk)
theorem n_nat (w : World) (src : Nat) (a : Option Addr) (len cap : Nat) (size most : Int) (hm : 0 < most) (hm2 : most ≤ 1000000) (hl : len ≤ 1048576) (h : SrcAt w src a len cap size) :
    Calls Tryd.prog 26 #[.pointer (some ⟨src, 0, none⟩), .int .i64 most] w fun e w' => ∃ r : Nat, e = .returned (.int .i64 r) ∧ (r : Int) < most ∧ SrcAt w' src a len cap size ∧ w.grownBy w' (some src) := by
  refine (n_any w src a len cap size most hm hm2 hl h).mono fun e w' ⟨r, he, r0, r1, hs, hg⟩ => ?_
  obtain ⟨n, rfl⟩ := Int.eq_ofNat_of_zero_le r0
  exact ⟨n, he, r1, hs, hg⟩
theorem n_idx (w : World) (O : Array Value) (src : Nat) (a : Option Addr) (len cap : Nat) (size : Int) (m : Nat) (hm : 0 < m) (hm2 : m ≤ 1000) (hl : len ≤ 1048576) (h : SrcAt w src a len cap size) (hO : ∀ i, i < m → ∃ x : Int, O[i]? = some (.int .i64 x)) :
    Calls Tryd.prog 26 #[.pointer (some ⟨src, 0, none⟩), .int .i64 (m : Int)] (w.alloc (.cells O 2)) fun e w' => ∃ (r : Nat) (x : Int), e = .returned (.int .i64 r) ∧ r < m ∧ w'.cell? ⟨w.heap.size, r, none⟩ = some (.int .i64 x) ∧ SrcAt w' src a len cap size ∧ w.grownBy w' (some src) := by
  refine (n_nat (w.alloc (.cells O 2)) src a len cap size m (by omega) (by omega) hl (src_alloc h _)).mono fun e w' ⟨r, he, r1, hs, hg⟩ => ?_
  obtain ⟨x, hx⟩ := hO r (by omega)
  have hlt := src_lt h
  refine ⟨r, x, he, by omega, ?_, hs, grown_trans (grown_alloc _ _ _) hg⟩
  rw [World.cell?_of_block (a := ⟨w.heap.size, r, none⟩) (hg.block w.heap.size (by simp) (by simp; omega))]
  simpa using hx
set_option maxHeartbeats 4000000 in
set_option maxRecDepth 100000 in
theorem point_any (w : World) (src : Nat) (a : Option Addr) (len cap : Nat) (size : Int) (hl : len ≤ 1048576) (h : SrcAt w src a len cap size) :
    Calls Tryd.prog 50 #[.pointer (some ⟨src, 0, none⟩)] w fun e w' => ∃ r : Int, e = .returned (.int .i64 r) ∧ SrcAt w' src a len cap size ∧ w.grownBy w' (some src) := by
  have H := hide h
  clear h
  go_enter Tryd.func50, Tryd.ntmps50
  go_wp2_with fail
  refine (n_nat _ src a len cap size 24 (by omega) (by omega) hl (unhide H)).mono ?_
  rintro e w0 ⟨t, rfl, ht, hs, hg⟩
  have S0 := hide hs
  have G0 := hide hg
  clear hs hg H
  obtain rfl | rfl | rfl | rfl | rfl | rfl | rfl | rfl | rfl | rfl | rfl | rfl | rfl | rfl | rfl | rfl | rfl | rfl | rfl | rfl | rfl | rfl | rfl | rfl : t = 0 ∨ t = 1 ∨ t = 2 ∨ t = 3 ∨ t = 4 ∨ t = 5 ∨ t = 6 ∨ t = 7 ∨ t = 8 ∨ t = 9 ∨ t = 10 ∨ t = 11 ∨ t = 12 ∨ t = 13 ∨ t = 14 ∨ t = 15 ∨ t = 16 ∨ t = 17 ∨ t = 18 ∨ t = 19 ∨ t = 20 ∨ t = 21 ∨ t = 22 ∨ t = 23 := by omega
  · go_wp2_with fail
    refine (n_nat _ src a len cap size 26 (by omega) (by omega) hl (unhide S0)).mono ?_
    rintro e w1 ⟨r1, rfl, h1, hs, hg⟩
    have S1 := hide hs
    have G1 := hide (grown_trans (unhide G0) hg)
    clear hs hg S0 G0
    go_wp2
    go_ret
    exact ⟨_, rfl, unhide S1, unhide G1⟩
  · go_wp2_with fail
    refine (n_nat _ src a len cap size 26 (by omega) (by omega) hl (unhide S0)).mono ?_
    rintro e w1 ⟨r1, rfl, h1, hs, hg⟩
    have S1 := hide hs
    have G1 := hide (grown_trans (unhide G0) hg)
    clear hs hg S0 G0
    go_wp2
    go_ret
    exact ⟨_, rfl, unhide S1, unhide G1⟩
  · go_wp2_with fail
    refine (n_nat _ src a len cap size 26 (by omega) (by omega) hl (unhide S0)).mono ?_
    rintro e w1 ⟨r1, rfl, h1, hs, hg⟩
    have S1 := hide hs
    have G1 := hide (grown_trans (unhide G0) hg)
    clear hs hg S0 G0
    go_wp2
    go_ret
    exact ⟨_, rfl, unhide S1, unhide G1⟩
  · go_wp2_with fail
    refine (n_nat _ src a len cap size 26 (by omega) (by omega) hl (unhide S0)).mono ?_
    rintro e w1 ⟨r1, rfl, h1, hs, hg⟩
    have S1 := hide hs
    have G1 := hide (grown_trans (unhide G0) hg)
    clear hs hg S0 G0
    go_wp2
    go_ret
    exact ⟨_, rfl, unhide S1, unhide G1⟩
  · go_wp2_with fail
    refine (n_idx w0 _ src a len cap size 8 (by omega) (by omega) hl (unhide S0) (by intro i hi; match i, hi with | 0, _ => exact ⟨_, rfl⟩ | 1, _ => exact ⟨_, rfl⟩ | 2, _ => exact ⟨_, rfl⟩ | 3, _ => exact ⟨_, rfl⟩ | 4, _ => exact ⟨_, rfl⟩ | 5, _ => exact ⟨_, rfl⟩ | 6, _ => exact ⟨_, rfl⟩ | 7, _ => exact ⟨_, rfl⟩)).mono ?_
    rintro e w1 ⟨r1, x, rfl, h1, hx, hs, hg⟩
    have S1 := hide hs
    have G1 := hide (grown_trans (unhide G0) hg)
    clear hs hg S0 G0
    go_wp2
    go_ret
    exact ⟨_, rfl, unhide S1, unhide G1⟩
  · go_wp2_with fail
    refine (n_nat _ src a len cap size 10 (by omega) (by omega) hl (unhide S0)).mono ?_
    rintro e w1 ⟨r1, rfl, h1, hs, hg⟩
    have S1 := hide hs
    have G1 := hide (grown_trans (unhide G0) hg)
    clear hs hg S0 G0
    go_wp2_with fail
    refine (n_nat _ src a len cap size 10 (by omega) (by omega) hl (unhide S1)).mono ?_
    rintro e w2 ⟨r2, rfl, h2, hs, hg⟩
    have S2 := hide hs
    have G2 := hide (grown_trans (unhide G1) hg)
    clear hs hg S1 G1
    go_wp2_with fail
    refine (n_nat _ src a len cap size 10 (by omega) (by omega) hl (unhide S2)).mono ?_
    rintro e w3 ⟨r3, rfl, h3, hs, hg⟩
    have S3 := hide hs
    have G3 := hide (grown_trans (unhide G2) hg)
    clear hs hg S2 G2
    go_wp2_with fail
    refine (n_nat _ src a len cap size 10 (by omega) (by omega) hl (unhide S3)).mono ?_
    rintro e w4 ⟨r4, rfl, h4, hs, hg⟩
    have S4 := hide hs
    have G4 := hide (grown_trans (unhide G3) hg)
    clear hs hg S3 G3
    go_wp2_with fail
    refine (n_idx w4 _ src a len cap size 4 (by omega) (by omega) hl (unhide S4) (by intro i hi; match i, hi with | 0, _ => exact ⟨_, rfl⟩ | 1, _ => exact ⟨_, rfl⟩ | 2, _ => exact ⟨_, rfl⟩ | 3, _ => exact ⟨_, rfl⟩)).mono ?_
    rintro e w5 ⟨r5, x, rfl, h5, hx, hs, hg⟩
    have S5 := hide hs
    have G5 := hide (grown_trans (unhide G4) hg)
    clear hs hg S4 G4
    go_wp2
    go_ret
    exact ⟨_, rfl, unhide S5, unhide G5⟩
  · go_wp2_with fail
    refine (n_idx w0 _ src a len cap size 12 (by omega) (by omega) hl (unhide S0) (by intro i hi; match i, hi with | 0, _ => exact ⟨_, rfl⟩ | 1, _ => exact ⟨_, rfl⟩ | 2, _ => exact ⟨_, rfl⟩ | 3, _ => exact ⟨_, rfl⟩ | 4, _ => exact ⟨_, rfl⟩ | 5, _ => exact ⟨_, rfl⟩ | 6, _ => exact ⟨_, rfl⟩ | 7, _ => exact ⟨_, rfl⟩ | 8, _ => exact ⟨_, rfl⟩ | 9, _ => exact ⟨_, rfl⟩ | 10, _ => exact ⟨_, rfl⟩ | 11, _ => exact ⟨_, rfl⟩)).mono ?_
    rintro e w1 ⟨r1, x, rfl, h1, hx, hs, hg⟩
    have S1 := hide hs
    have G1 := hide (grown_trans (unhide G0) hg)
    clear hs hg S0 G0
    go_wp2
    go_ret
    exact ⟨_, rfl, unhide S1, unhide G1⟩
  · go_wp2_with fail
    refine (n_nat _ src a len cap size 3 (by omega) (by omega) hl (unhide S0)).mono ?_
    rintro e w1 ⟨r1, rfl, h1, hs, hg⟩
    have S1 := hide hs
    have G1 := hide (grown_trans (unhide G0) hg)
    clear hs hg S0 G0
    go_wp2_with fail
    refine (n_nat _ src a len cap size 76 (by omega) (by omega) hl (unhide S1)).mono ?_
    rintro e w2 ⟨r2, rfl, h2, hs, hg⟩
    have S2 := hide hs
    have G2 := hide (grown_trans (unhide G1) hg)
    clear hs hg S1 G1
    go_wp2
    go_ret
    exact ⟨_, rfl, unhide S2, unhide G2⟩
  · go_wp2_with fail
    refine (n_nat _ src a len cap size 3 (by omega) (by omega) hl (unhide S0)).mono ?_
    rintro e w1 ⟨r1, rfl, h1, hs, hg⟩
    have S1 := hide hs
    have G1 := hide (grown_trans (unhide G0) hg)
    clear hs hg S0 G0
    go_wp2_with fail
    refine (n_nat _ src a len cap size 76 (by omega) (by omega) hl (unhide S1)).mono ?_
    rintro e w2 ⟨r2, rfl, h2, hs, hg⟩
    have S2 := hide hs
    have G2 := hide (grown_trans (unhide G1) hg)
    clear hs hg S1 G1
    go_wp2
    go_ret
    exact ⟨_, rfl, unhide S2, unhide G2⟩
  · go_wp2_with fail
    refine (n_nat _ src a len cap size 3 (by omega) (by omega) hl (unhide S0)).mono ?_
    rintro e w1 ⟨r1, rfl, h1, hs, hg⟩
    have S1 := hide hs
    have G1 := hide (grown_trans (unhide G0) hg)
    clear hs hg S0 G0
    go_wp2_with fail
    refine (n_nat _ src a len cap size 2 (by omega) (by omega) hl (unhide S1)).mono ?_
    rintro e w2 ⟨r2, rfl, h2, hs, hg⟩
    have S2 := hide hs
    have G2 := hide (grown_trans (unhide G1) hg)
    clear hs hg S1 G1
    go_wp2
    go_ret
    exact ⟨_, rfl, unhide S2, unhide G2⟩
  · go_wp2_with fail
    refine (n_nat _ src a len cap size 32 (by omega) (by omega) hl (unhide S0)).mono ?_
    rintro e w1 ⟨r1, rfl, h1, hs, hg⟩
    have S1 := hide hs
    have G1 := hide (grown_trans (unhide G0) hg)
    clear hs hg S0 G0
    go_wp2
    go_ret
    exact ⟨_, rfl, unhide S1, unhide G1⟩
  · go_wp2_with fail
    refine (n_nat _ src a len cap size 32 (by omega) (by omega) hl (unhide S0)).mono ?_
    rintro e w1 ⟨r1, rfl, h1, hs, hg⟩
    have S1 := hide hs
    have G1 := hide (grown_trans (unhide G0) hg)
    clear hs hg S0 G0
    go_wp2
    go_ret
    exact ⟨_, rfl, unhide S1, unhide G1⟩
  · go_wp2_with fail
    refine (n_nat _ src a len cap size 32 (by omega) (by omega) hl (unhide S0)).mono ?_
    rintro e w1 ⟨r1, rfl, h1, hs, hg⟩
    have S1 := hide hs
    have G1 := hide (grown_trans (unhide G0) hg)
    clear hs hg S0 G0
    go_wp2_with fail
    refine (n_nat _ src a len cap size 12 (by omega) (by omega) hl (unhide S1)).mono ?_
    rintro e w2 ⟨r2, rfl, h2, hs, hg⟩
    have S2 := hide hs
    have G2 := hide (grown_trans (unhide G1) hg)
    clear hs hg S1 G1
    go_wp2_with fail
    refine (n_idx w2 _ src a len cap size 4 (by omega) (by omega) hl (unhide S2) (by intro i hi; match i, hi with | 0, _ => exact ⟨_, rfl⟩ | 1, _ => exact ⟨_, rfl⟩ | 2, _ => exact ⟨_, rfl⟩ | 3, _ => exact ⟨_, rfl⟩)).mono ?_
    rintro e w3 ⟨r3, x, rfl, h3, hx, hs, hg⟩
    have S3 := hide hs
    have G3 := hide (grown_trans (unhide G2) hg)
    clear hs hg S2 G2
    go_wp2
    go_ret
    exact ⟨_, rfl, unhide S3, unhide G3⟩
  · go_wp2_with fail
    refine (n_nat _ src a len cap size 19 (by omega) (by omega) hl (unhide S0)).mono ?_
    rintro e w1 ⟨r1, rfl, h1, hs, hg⟩
    have S1 := hide hs
    have G1 := hide (grown_trans (unhide G0) hg)
    clear hs hg S0 G0
    go_wp2_with fail
    refine (n_nat _ src a len cap size 21 (by omega) (by omega) hl (unhide S1)).mono ?_
    rintro e w2 ⟨r2, rfl, h2, hs, hg⟩
    have S2 := hide hs
    have G2 := hide (grown_trans (unhide G1) hg)
    clear hs hg S1 G1
    go_wp2_with fail
    refine (n_nat _ src a len cap size 27 (by omega) (by omega) hl (unhide S2)).mono ?_
    rintro e w3 ⟨r3, rfl, h3, hs, hg⟩
    have S3 := hide hs
    have G3 := hide (grown_trans (unhide G2) hg)
    clear hs hg S2 G2
    go_wp2_with fail
    refine (n_idx w3 _ src a len cap size 3 (by omega) (by omega) hl (unhide S3) (by intro i hi; match i, hi with | 0, _ => exact ⟨_, rfl⟩ | 1, _ => exact ⟨_, rfl⟩ | 2, _ => exact ⟨_, rfl⟩)).mono ?_
    rintro e w4 ⟨r4, x, rfl, h4, hx, hs, hg⟩
    have S4 := hide hs
    have G4 := hide (grown_trans (unhide G3) hg)
    clear hs hg S3 G3
    go_wp2
    go_ret
    exact ⟨_, rfl, unhide S4, unhide G4⟩
  · go_wp2_with fail
    refine (n_nat _ src a len cap size 48 (by omega) (by omega) hl (unhide S0)).mono ?_
    rintro e w1 ⟨r1, rfl, h1, hs, hg⟩
    have S1 := hide hs
    have G1 := hide (grown_trans (unhide G0) hg)
    clear hs hg S0 G0
    go_wp2
    go_ret
    exact ⟨_, rfl, unhide S1, unhide G1⟩
  · go_wp2_with fail
    refine (n_nat _ src a len cap size 64 (by omega) (by omega) hl (unhide S0)).mono ?_
    rintro e w1 ⟨r1, rfl, h1, hs, hg⟩
    have S1 := hide hs
    have G1 := hide (grown_trans (unhide G0) hg)
    clear hs hg S0 G0
    go_wp2
    go_ret
    exact ⟨_, rfl, unhide S1, unhide G1⟩
  · go_wp2_with fail
    refine (n_nat _ src a len cap size 64 (by omega) (by omega) hl (unhide S0)).mono ?_
    rintro e w1 ⟨r1, rfl, h1, hs, hg⟩
    have S1 := hide hs
    have G1 := hide (grown_trans (unhide G0) hg)
    clear hs hg S0 G0
    go_wp2
    go_ret
    exact ⟨_, rfl, unhide S1, unhide G1⟩
  · go_wp2_with fail
    refine (n_nat _ src a len cap size 64 (by omega) (by omega) hl (unhide S0)).mono ?_
    rintro e w1 ⟨r1, rfl, h1, hs, hg⟩
    have S1 := hide hs
    have G1 := hide (grown_trans (unhide G0) hg)
    clear hs hg S0 G0
    go_wp2_with fail
    refine (n_nat _ src a len cap size 5 (by omega) (by omega) hl (unhide S1)).mono ?_
    rintro e w2 ⟨r2, rfl, h2, hs, hg⟩
    have S2 := hide hs
    have G2 := hide (grown_trans (unhide G1) hg)
    clear hs hg S1 G1
    go_wp2_with fail
    refine (n_nat _ src a len cap size 26 (by omega) (by omega) hl (unhide S2)).mono ?_
    rintro e w3 ⟨r3, rfl, h3, hs, hg⟩
    have S3 := hide hs
    have G3 := hide (grown_trans (unhide G2) hg)
    clear hs hg S2 G2
    go_wp2_with fail
    refine (n_idx w3 _ src a len cap size 3 (by omega) (by omega) hl (unhide S3) (by intro i hi; match i, hi with | 0, _ => exact ⟨_, rfl⟩ | 1, _ => exact ⟨_, rfl⟩ | 2, _ => exact ⟨_, rfl⟩)).mono ?_
    rintro e w4 ⟨r4, x, rfl, h4, hx, hs, hg⟩
    have S4 := hide hs
    have G4 := hide (grown_trans (unhide G3) hg)
    clear hs hg S3 G3
    go_wp2
    go_ret
    exact ⟨_, rfl, unhide S4, unhide G4⟩
  · go_wp2_with fail
    refine (n_nat _ src a len cap size 12 (by omega) (by omega) hl (unhide S0)).mono ?_
    rintro e w1 ⟨r1, rfl, h1, hs, hg⟩
    have S1 := hide hs
    have G1 := hide (grown_trans (unhide G0) hg)
    clear hs hg S0 G0
    go_wp2_with fail
    refine (n_idx w1 _ src a len cap size 3 (by omega) (by omega) hl (unhide S1) (by intro i hi; match i, hi with | 0, _ => exact ⟨_, rfl⟩ | 1, _ => exact ⟨_, rfl⟩ | 2, _ => exact ⟨_, rfl⟩)).mono ?_
    rintro e w2 ⟨r2, x, rfl, h2, hx, hs, hg⟩
    have S2 := hide hs
    have G2 := hide (grown_trans (unhide G1) hg)
    clear hs hg S1 G1
    go_wp2
    go_ret
    exact ⟨_, rfl, unhide S2, unhide G2⟩
  · go_wp2_with fail
    refine (n_nat _ src a len cap size 3 (by omega) (by omega) hl (unhide S0)).mono ?_
    rintro e w1 ⟨r1, rfl, h1, hs, hg⟩
    have S1 := hide hs
    have G1 := hide (grown_trans (unhide G0) hg)
    clear hs hg S0 G0
    go_wp2_with fail
    refine (n_nat _ src a len cap size 416 (by omega) (by omega) hl (unhide S1)).mono ?_
    rintro e w2 ⟨r2, rfl, h2, hs, hg⟩
    have S2 := hide hs
    have G2 := hide (grown_trans (unhide G1) hg)
    clear hs hg S1 G1
    go_wp2
    go_ret
    exact ⟨_, rfl, unhide S2, unhide G2⟩
  · go_wp2_with fail
    refine (n_nat _ src a len cap size 3 (by omega) (by omega) hl (unhide S0)).mono ?_
    rintro e w1 ⟨r1, rfl, h1, hs, hg⟩
    have S1 := hide hs
    have G1 := hide (grown_trans (unhide G0) hg)
    clear hs hg S0 G0
    go_wp2_with fail
    refine (n_nat _ src a len cap size 416 (by omega) (by omega) hl (unhide S1)).mono ?_
    rintro e w2 ⟨r2, rfl, h2, hs, hg⟩
    have S2 := hide hs
    have G2 := hide (grown_trans (unhide G1) hg)
    clear hs hg S1 G1
    go_wp2
    go_ret
    exact ⟨_, rfl, unhide S2, unhide G2⟩
  · go_wp2_with fail
    refine (n_nat _ src a len cap size 26 (by omega) (by omega) hl (unhide S0)).mono ?_
    rintro e w1 ⟨r1, rfl, h1, hs, hg⟩
    have S1 := hide hs
    have G1 := hide (grown_trans (unhide G0) hg)
    clear hs hg S0 G0
    go_wp2_with fail
    refine (n_nat _ src a len cap size 26 (by omega) (by omega) hl (unhide S1)).mono ?_
    rintro e w2 ⟨r2, rfl, h2, hs, hg⟩
    have S2 := hide hs
    have G2 := hide (grown_trans (unhide G1) hg)
    clear hs hg S1 G1
    go_wp2_with fail
    refine (n_nat _ src a len cap size 4 (by omega) (by omega) hl (unhide S2)).mono ?_
    rintro e w3 ⟨r3, rfl, h3, hs, hg⟩
    have S3 := hide hs
    have G3 := hide (grown_trans (unhide G2) hg)
    clear hs hg S2 G2
    go_wp2_with fail
    refine (n_idx w3 _ src a len cap size 3 (by omega) (by omega) hl (unhide S3) (by intro i hi; match i, hi with | 0, _ => exact ⟨_, rfl⟩ | 1, _ => exact ⟨_, rfl⟩ | 2, _ => exact ⟨_, rfl⟩)).mono ?_
    rintro e w4 ⟨r4, x, rfl, h4, hx, hs, hg⟩
    have S4 := hide hs
    have G4 := hide (grown_trans (unhide G3) hg)
    clear hs hg S3 G3
    go_wp2
    go_ret
    exact ⟨_, rfl, unhide S4, unhide G4⟩
  · go_wp2_with fail
    refine (n_nat _ src a len cap size 11172 (by omega) (by omega) hl (unhide S0)).mono ?_
    rintro e w1 ⟨r1, rfl, h1, hs, hg⟩
    have S1 := hide hs
    have G1 := hide (grown_trans (unhide G0) hg)
    clear hs hg S0 G0
    go_wp2_with fail
    refine (n_nat _ src a len cap size 2048 (by omega) (by omega) hl (unhide S1)).mono ?_
    rintro e w2 ⟨r2, rfl, h2, hs, hg⟩
    have S2 := hide hs
    have G2 := hide (grown_trans (unhide G1) hg)
    clear hs hg S1 G1
    go_wp2_with fail
    refine (n_idx w2 _ src a len cap size 2 (by omega) (by omega) hl (unhide S2) (by intro i hi; match i, hi with | 0, _ => exact ⟨_, rfl⟩ | 1, _ => exact ⟨_, rfl⟩)).mono ?_
    rintro e w3 ⟨r3, x, rfl, h3, hx, hs, hg⟩
    have S3 := hide hs
    have G3 := hide (grown_trans (unhide G2) hg)
    clear hs hg S2 G2
    go_wp2
    go_ret
    exact ⟨_, rfl, unhide S3, unhide G3⟩
  · go_wp2_with fail
    refine (n_nat _ src a len cap size 12288 (by omega) (by omega) hl (unhide S0)).mono ?_
    rintro e w1 ⟨r1, rfl, h1, hs, hg⟩
    have S1 := hide hs
    have G1 := hide (grown_trans (unhide G0) hg)
    clear hs hg S0 G0
    go_wp2_with fail
    refine (n_nat _ src a len cap size 4096 (by omega) (by omega) hl (unhide S1)).mono ?_
    rintro e w2 ⟨r2, rfl, h2, hs, hg⟩
    have S2 := hide hs
    have G2 := hide (grown_trans (unhide G1) hg)
    clear hs hg S1 G1
    go_wp2_with fail
    refine (n_nat _ src a len cap size 32768 (by omega) (by omega) hl (unhide S2)).mono ?_
    rintro e w3 ⟨r3, rfl, h3, hs, hg⟩
    have S3 := hide hs
    have G3 := hide (grown_trans (unhide G2) hg)
    clear hs hg S2 G2
    go_wp2_with fail
    refine (n_idx w3 _ src a len cap size 6 (by omega) (by omega) hl (unhide S3) (by intro i hi; match i, hi with | 0, _ => exact ⟨_, rfl⟩ | 1, _ => exact ⟨_, rfl⟩ | 2, _ => exact ⟨_, rfl⟩ | 3, _ => exact ⟨_, rfl⟩ | 4, _ => exact ⟨_, rfl⟩ | 5, _ => exact ⟨_, rfl⟩)).mono ?_
    rintro e w4 ⟨r4, x, rfl, h4, hx, hs, hg⟩
    have S4 := hide hs
    have G4 := hide (grown_trans (unhide G3) hg)
    clear hs hg S3 G3
    go_wp2
    go_ret
    exact ⟨_, rfl, unhide S4, unhide G4⟩
end Go.Proofs.YthjjojkabbepdaaDoor.Dr
