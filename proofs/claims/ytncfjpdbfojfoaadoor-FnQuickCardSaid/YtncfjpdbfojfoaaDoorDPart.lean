/- A drawn point of chapter 6: some number; the source is one again. -/
import Derived.Test.YtncfjpdbfojfoaaDoorDText
namespace Go.Proofs.YtncfjpdbfojfoaaDoor.Dr
open Go.RowKit
set_option maxHeartbeats 4000000 in
set_option maxRecDepth 100000 in
theorem part_any (w : World) (src : Nat) (a : Option Addr) (len cap : Nat) (size : Int) (hl : len ≤ 1048576) (h : SrcAt w src a len cap size) :
    Calls Tryd.prog 41 #[.pointer (some ⟨src, 0, none⟩)] w fun e w' => ∃ r : Int, e = .returned (.int .i64 r) ∧ SrcAt w' src a len cap size ∧ w.grownBy w' (some src) := by
  have H := hide h
  clear h
  go_enter Tryd.func41, Tryd.ntmps41
  go_wp2_with fail
  refine (n_nat _ src a len cap size 8 (by omega) (by omega) hl (unhide H)).mono ?_
  rintro e w0 ⟨t, rfl, ht, hs, hg⟩
  have S0 := hide hs
  have G0 := hide hg
  clear hs hg H
  obtain rfl | rfl | rfl | rfl | rfl | rfl | rfl | rfl : t = 0 ∨ t = 1 ∨ t = 2 ∨ t = 3 ∨ t = 4 ∨ t = 5 ∨ t = 6 ∨ t = 7 := by omega
  · go_wp2_with fail
    refine (n_nat _ src a len cap size 3 (by omega) (by omega) hl (unhide S0)).mono ?_
    rintro e w1 ⟨r1, rfl, h1, hs, hg⟩
    have S1 := hide hs
    have G1 := hide (grown_trans (unhide G0) hg)
    clear hs hg S0 G0
    go_wp2_with fail
    refine (n_nat _ src a len cap size 3 (by omega) (by omega) hl (unhide S1)).mono ?_
    rintro e w2 ⟨r2, rfl, h2, hs, hg⟩
    have S2 := hide hs
    have G2 := hide (grown_trans (unhide G1) hg)
    clear hs hg S1 G1
    go_wp2_with fail
    refine (n_idx w2 _ src a len cap size 2 (by omega) (by omega) hl (unhide S2) (by intro i hi; match i, hi with | 0, _ => exact ⟨_, rfl⟩ | 1, _ => exact ⟨_, rfl⟩)).mono ?_
    rintro e w3 ⟨r3, x, rfl, h3, hx, hs, hg⟩
    have S3 := hide hs
    have G3 := hide (grown_trans (unhide G2) hg)
    clear hs hg S2 G2
    go_wp2
    go_ret
    exact ⟨_, rfl, unhide S3, unhide G3⟩
  · go_wp2_with fail
    refine (n_nat _ src a len cap size 3 (by omega) (by omega) hl (unhide S0)).mono ?_
    rintro e w1 ⟨r1, rfl, h1, hs, hg⟩
    have S1 := hide hs
    have G1 := hide (grown_trans (unhide G0) hg)
    clear hs hg S0 G0
    go_wp2_with fail
    refine (n_nat _ src a len cap size 3 (by omega) (by omega) hl (unhide S1)).mono ?_
    rintro e w2 ⟨r2, rfl, h2, hs, hg⟩
    have S2 := hide hs
    have G2 := hide (grown_trans (unhide G1) hg)
    clear hs hg S1 G1
    go_wp2_with fail
    refine (n_nat _ src a len cap size 2 (by omega) (by omega) hl (unhide S2)).mono ?_
    rintro e w3 ⟨r3, rfl, h3, hs, hg⟩
    have S3 := hide hs
    have G3 := hide (grown_trans (unhide G2) hg)
    clear hs hg S2 G2
    go_wp2_with fail
    refine (n_idx w3 _ src a len cap size 6 (by omega) (by omega) hl (unhide S3) (by intro i hi; match i, hi with | 0, _ => exact ⟨_, rfl⟩ | 1, _ => exact ⟨_, rfl⟩ | 2, _ => exact ⟨_, rfl⟩ | 3, _ => exact ⟨_, rfl⟩ | 4, _ => exact ⟨_, rfl⟩ | 5, _ => exact ⟨_, rfl⟩)).mono ?_
    rintro e w4 ⟨r4, x, rfl, h4, hx, hs, hg⟩
    have S4 := hide hs
    have G4 := hide (grown_trans (unhide G3) hg)
    clear hs hg S3 G3
    go_wp2
    go_ret
    exact ⟨_, rfl, unhide S4, unhide G4⟩
  · go_wp2_with fail
    refine (n_nat _ src a len cap size 3 (by omega) (by omega) hl (unhide S0)).mono ?_
    rintro e w1 ⟨r1, rfl, h1, hs, hg⟩
    have S1 := hide hs
    have G1 := hide (grown_trans (unhide G0) hg)
    clear hs hg S0 G0
    go_wp2_with fail
    refine (n_nat _ src a len cap size 3 (by omega) (by omega) hl (unhide S1)).mono ?_
    rintro e w2 ⟨r2, rfl, h2, hs, hg⟩
    have S2 := hide hs
    have G2 := hide (grown_trans (unhide G1) hg)
    clear hs hg S1 G1
    go_wp2_with fail
    refine (n_nat _ src a len cap size 2 (by omega) (by omega) hl (unhide S2)).mono ?_
    rintro e w3 ⟨r3, rfl, h3, hs, hg⟩
    have S3 := hide hs
    have G3 := hide (grown_trans (unhide G2) hg)
    clear hs hg S2 G2
    go_wp2_with fail
    refine (n_idx w3 _ src a len cap size 6 (by omega) (by omega) hl (unhide S3) (by intro i hi; match i, hi with | 0, _ => exact ⟨_, rfl⟩ | 1, _ => exact ⟨_, rfl⟩ | 2, _ => exact ⟨_, rfl⟩ | 3, _ => exact ⟨_, rfl⟩ | 4, _ => exact ⟨_, rfl⟩ | 5, _ => exact ⟨_, rfl⟩)).mono ?_
    rintro e w4 ⟨r4, x, rfl, h4, hx, hs, hg⟩
    have S4 := hide hs
    have G4 := hide (grown_trans (unhide G3) hg)
    clear hs hg S3 G3
    go_wp2
    go_ret
    exact ⟨_, rfl, unhide S4, unhide G4⟩
  · go_wp2_with fail
    refine (n_nat _ src a len cap size 3 (by omega) (by omega) hl (unhide S0)).mono ?_
    rintro e w1 ⟨r1, rfl, h1, hs, hg⟩
    have S1 := hide hs
    have G1 := hide (grown_trans (unhide G0) hg)
    clear hs hg S0 G0
    go_wp2_with fail
    refine (n_nat _ src a len cap size 52 (by omega) (by omega) hl (unhide S1)).mono ?_
    rintro e w2 ⟨r2, rfl, h2, hs, hg⟩
    have S2 := hide hs
    have G2 := hide (grown_trans (unhide G1) hg)
    clear hs hg S1 G1
    go_wp2_with fail
    refine (n_nat _ src a len cap size 2 (by omega) (by omega) hl (unhide S2)).mono ?_
    rintro e w3 ⟨r3, rfl, h3, hs, hg⟩
    have S3 := hide hs
    have G3 := hide (grown_trans (unhide G2) hg)
    clear hs hg S2 G2
    go_wp2
    go_ret
    exact ⟨_, rfl, unhide S3, unhide G3⟩
  · go_wp2_with fail
    refine (n_nat _ src a len cap size 26 (by omega) (by omega) hl (unhide S0)).mono ?_
    rintro e w1 ⟨r1, rfl, h1, hs, hg⟩
    have S1 := hide hs
    have G1 := hide (grown_trans (unhide G0) hg)
    clear hs hg S0 G0
    go_wp2_with fail
    refine (n_nat _ src a len cap size 3 (by omega) (by omega) hl (unhide S1)).mono ?_
    rintro e w2 ⟨r2, rfl, h2, hs, hg⟩
    have S2 := hide hs
    have G2 := hide (grown_trans (unhide G1) hg)
    clear hs hg S1 G1
    go_wp2_with fail
    refine (n_nat _ src a len cap size 3 (by omega) (by omega) hl (unhide S2)).mono ?_
    rintro e w3 ⟨r3, rfl, h3, hs, hg⟩
    have S3 := hide hs
    have G3 := hide (grown_trans (unhide G2) hg)
    clear hs hg S2 G2
    go_wp2_with fail
    refine (n_nat _ src a len cap size 4 (by omega) (by omega) hl (unhide S3)).mono ?_
    rintro e w4 ⟨r4, rfl, h4, hs, hg⟩
    have S4 := hide hs
    have G4 := hide (grown_trans (unhide G3) hg)
    clear hs hg S3 G3
    go_wp2_with fail
    refine (n_idx w4 _ src a len cap size 6 (by omega) (by omega) hl (unhide S4) (by intro i hi; match i, hi with | 0, _ => exact ⟨_, rfl⟩ | 1, _ => exact ⟨_, rfl⟩ | 2, _ => exact ⟨_, rfl⟩ | 3, _ => exact ⟨_, rfl⟩ | 4, _ => exact ⟨_, rfl⟩ | 5, _ => exact ⟨_, rfl⟩)).mono ?_
    rintro e w5 ⟨r5, x, rfl, h5, hx, hs, hg⟩
    have S5 := hide hs
    have G5 := hide (grown_trans (unhide G4) hg)
    clear hs hg S4 G4
    go_wp2
    go_ret
    exact ⟨_, rfl, unhide S5, unhide G5⟩
  · go_wp2_with fail
    refine (n_nat _ src a len cap size 2 (by omega) (by omega) hl (unhide S0)).mono ?_
    rintro e w1 ⟨r1, rfl, h1, hs, hg⟩
    have S1 := hide hs
    have G1 := hide (grown_trans (unhide G0) hg)
    clear hs hg S0 G0
    go_wp2_with fail
    refine (n_nat _ src a len cap size 2 (by omega) (by omega) hl (unhide S1)).mono ?_
    rintro e w2 ⟨r2, rfl, h2, hs, hg⟩
    have S2 := hide hs
    have G2 := hide (grown_trans (unhide G1) hg)
    clear hs hg S1 G1
    go_wp2_with fail
    refine (n_nat _ src a len cap size 2 (by omega) (by omega) hl (unhide S2)).mono ?_
    rintro e w3 ⟨r3, rfl, h3, hs, hg⟩
    have S3 := hide hs
    have G3 := hide (grown_trans (unhide G2) hg)
    clear hs hg S2 G2
    go_wp2_with fail
    refine (n_idx w3 _ src a len cap size 6 (by omega) (by omega) hl (unhide S3) (by intro i hi; match i, hi with | 0, _ => exact ⟨_, rfl⟩ | 1, _ => exact ⟨_, rfl⟩ | 2, _ => exact ⟨_, rfl⟩ | 3, _ => exact ⟨_, rfl⟩ | 4, _ => exact ⟨_, rfl⟩ | 5, _ => exact ⟨_, rfl⟩)).mono ?_
    rintro e w4 ⟨r4, x, rfl, h4, hx, hs, hg⟩
    have S4 := hide hs
    have G4 := hide (grown_trans (unhide G3) hg)
    clear hs hg S3 G3
    go_wp2
    go_ret
    exact ⟨_, rfl, unhide S4, unhide G4⟩
  · go_wp2_with fail
    refine (n_nat _ src a len cap size 399 (by omega) (by omega) hl (unhide S0)).mono ?_
    rintro e w1 ⟨r1, rfl, h1, hs, hg⟩
    have S1 := hide hs
    have G1 := hide (grown_trans (unhide G0) hg)
    clear hs hg S0 G0
    go_wp2_with fail
    refine (n_nat _ src a len cap size 11172 (by omega) (by omega) hl (unhide S1)).mono ?_
    rintro e w2 ⟨r2, rfl, h2, hs, hg⟩
    have S2 := hide hs
    have G2 := hide (grown_trans (unhide G1) hg)
    clear hs hg S1 G1
    go_wp2_with fail
    refine (n_idx w2 _ src a len cap size 4 (by omega) (by omega) hl (unhide S2) (by intro i hi; match i, hi with | 0, _ => exact ⟨_, rfl⟩ | 1, _ => exact ⟨_, rfl⟩ | 2, _ => exact ⟨_, rfl⟩ | 3, _ => exact ⟨_, rfl⟩)).mono ?_
    rintro e w3 ⟨r3, x, rfl, h3, hx, hs, hg⟩
    have S3 := hide hs
    have G3 := hide (grown_trans (unhide G2) hg)
    clear hs hg S2 G2
    go_wp2
    go_ret
    exact ⟨_, rfl, unhide S3, unhide G3⟩
  · go_wp2_with fail
    refine (point_any _ src a len cap size hl (unhide S0)).mono ?_
    rintro e w1 ⟨r1, rfl, hs, hg⟩
    have S1 := hide hs
    have G1 := hide (grown_trans (unhide G0) hg)
    clear hs hg S0 G0
    go_wp2_with fail
    refine (point_any _ src a len cap size hl (unhide S1)).mono ?_
    rintro e w2 ⟨r2, rfl, hs, hg⟩
    have S2 := hide hs
    have G2 := hide (grown_trans (unhide G1) hg)
    clear hs hg S1 G1
    go_wp2_with fail
    refine (n_idx w2 _ src a len cap size 5 (by omega) (by omega) hl (unhide S2) (by intro i hi; match i, hi with | 0, _ => exact ⟨_, rfl⟩ | 1, _ => exact ⟨_, rfl⟩ | 2, _ => exact ⟨_, rfl⟩ | 3, _ => exact ⟨_, rfl⟩ | 4, _ => exact ⟨_, rfl⟩)).mono ?_
    rintro e w3 ⟨r3, x, rfl, h3, hx, hs, hg⟩
    have S3 := hide hs
    have G3 := hide (grown_trans (unhide G2) hg)
    clear hs hg S2 G2
    go_wp2
    go_ret
    exact ⟨_, rfl, unhide S3, unhide G3⟩
end Go.Proofs.YtncfjpdbfojfoaaDoor.Dr
