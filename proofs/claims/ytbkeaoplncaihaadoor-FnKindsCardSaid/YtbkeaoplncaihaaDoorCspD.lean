/- A drawn point of chapter 7: some number; the source is one again. -/
import Derived.Test.YtbkeaoplncaihaaDoorDPoint
namespace Go.Proofs.YtbkeaoplncaihaaDoor.Dr
open Go.RowKit
set_option linter.unusedVariables false
set_option maxHeartbeats 4000000 in
set_option maxRecDepth 100000 in
theorem anyPoint_any (w0 : World) (src : Nat) (a : Option Addr) (len cap : Nat) (size : Int) (hl : len ≤ 1048576) (h : SrcAt w0 src a len cap size) :
    Calls Tryd.prog 23 #[.pointer (some ⟨src, 0, none⟩)] w0 fun e w' => ∃ x : Int, e = .returned (.int .i64 x) ∧ SrcAt w' src a len cap size ∧ w0.grownBy w' (some src) := by
  have S0 := hide h
  have G0 := hide (grown_refl w0 (some src))
  clear h
  go_enter Tryd.func23, Tryd.ntmps23
  go_wp2_with fail
  refine (one_any _ src a len cap size 8 (by omega) (by omega) hl (unhide S0)).mono ?_
  rintro e w1 ⟨b1, rfl, hs, hg⟩
  have S1 := hide hs
  have G1 := hide (grown_trans (unhide G0) hg)
  clear hs hg S0 G0
  cases b1
  · go_wp2_with fail
    refine (one_any _ src a len cap size 3 (by omega) (by omega) hl (unhide S1)).mono ?_
    rintro e w2 ⟨b2, rfl, hs, hg⟩
    have S2 := hide hs
    have G2 := hide (grown_trans (unhide G1) hg)
    clear hs hg S1 G1
    cases b2
    · go_wp2_with fail
      refine (point_any _ src a len cap size hl (unhide S2)).mono ?_
      rintro e w3 ⟨x, rfl, hs, hg⟩
      have S3 := hide hs
      have G3 := hide (grown_trans (unhide G2) hg)
      clear hs hg S2 G2
      go_wp2
      go_ret
      exact ⟨_, rfl, unhide S3, unhide G3⟩
    · go_wp2_with fail
      refine (n_idx w2 _ src a len cap size 59 (by omega) (by omega) hl (unhide S2) (by intro i hi; match i, hi with | 0, _ => exact ⟨_, rfl⟩ | 1, _ => exact ⟨_, rfl⟩ | 2, _ => exact ⟨_, rfl⟩ | 3, _ => exact ⟨_, rfl⟩ | 4, _ => exact ⟨_, rfl⟩ | 5, _ => exact ⟨_, rfl⟩ | 6, _ => exact ⟨_, rfl⟩ | 7, _ => exact ⟨_, rfl⟩ | 8, _ => exact ⟨_, rfl⟩ | 9, _ => exact ⟨_, rfl⟩ | 10, _ => exact ⟨_, rfl⟩ | 11, _ => exact ⟨_, rfl⟩ | 12, _ => exact ⟨_, rfl⟩ | 13, _ => exact ⟨_, rfl⟩ | 14, _ => exact ⟨_, rfl⟩ | 15, _ => exact ⟨_, rfl⟩ | 16, _ => exact ⟨_, rfl⟩ | 17, _ => exact ⟨_, rfl⟩ | 18, _ => exact ⟨_, rfl⟩ | 19, _ => exact ⟨_, rfl⟩ | 20, _ => exact ⟨_, rfl⟩ | 21, _ => exact ⟨_, rfl⟩ | 22, _ => exact ⟨_, rfl⟩ | 23, _ => exact ⟨_, rfl⟩ | 24, _ => exact ⟨_, rfl⟩ | 25, _ => exact ⟨_, rfl⟩ | 26, _ => exact ⟨_, rfl⟩ | 27, _ => exact ⟨_, rfl⟩ | 28, _ => exact ⟨_, rfl⟩ | 29, _ => exact ⟨_, rfl⟩ | 30, _ => exact ⟨_, rfl⟩ | 31, _ => exact ⟨_, rfl⟩ | 32, _ => exact ⟨_, rfl⟩ | 33, _ => exact ⟨_, rfl⟩ | 34, _ => exact ⟨_, rfl⟩ | 35, _ => exact ⟨_, rfl⟩ | 36, _ => exact ⟨_, rfl⟩ | 37, _ => exact ⟨_, rfl⟩ | 38, _ => exact ⟨_, rfl⟩ | 39, _ => exact ⟨_, rfl⟩ | 40, _ => exact ⟨_, rfl⟩ | 41, _ => exact ⟨_, rfl⟩ | 42, _ => exact ⟨_, rfl⟩ | 43, _ => exact ⟨_, rfl⟩ | 44, _ => exact ⟨_, rfl⟩ | 45, _ => exact ⟨_, rfl⟩ | 46, _ => exact ⟨_, rfl⟩ | 47, _ => exact ⟨_, rfl⟩ | 48, _ => exact ⟨_, rfl⟩ | 49, _ => exact ⟨_, rfl⟩ | 50, _ => exact ⟨_, rfl⟩ | 51, _ => exact ⟨_, rfl⟩ | 52, _ => exact ⟨_, rfl⟩ | 53, _ => exact ⟨_, rfl⟩ | 54, _ => exact ⟨_, rfl⟩ | 55, _ => exact ⟨_, rfl⟩ | 56, _ => exact ⟨_, rfl⟩ | 57, _ => exact ⟨_, rfl⟩ | 58, _ => exact ⟨_, rfl⟩ | n + 59, hi => exact absurd hi (by omega))).mono ?_
      rintro e w3 ⟨r, x, rfl, hr, hx, hs, hg⟩
      have hr2 : (r : Int) < 59 := by omega
      have S3 := hide hs
      have G3 := hide (grown_trans (unhide G2) hg)
      clear hs hg S2 G2
      go_wp2
      go_ret
      exact ⟨_, rfl, unhide S3, unhide G3⟩
  · go_wp2_with fail
    refine (n_nat _ src a len cap size 32768 (by omega) (by omega) hl (unhide S1)).mono ?_
    rintro e w2 ⟨q, rfl, hq, hs, hg⟩
    have S2 := hide hs
    have G2 := hide (grown_trans (unhide G1) hg)
    clear hs hg S1 G1
    go_wp2_with fail
    refine (n_idx w2 _ src a len cap size 6 (by omega) (by omega) hl (unhide S2) (by intro i hi; match i, hi with | 0, _ => exact ⟨_, rfl⟩ | 1, _ => exact ⟨_, rfl⟩ | 2, _ => exact ⟨_, rfl⟩ | 3, _ => exact ⟨_, rfl⟩ | 4, _ => exact ⟨_, rfl⟩ | 5, _ => exact ⟨_, rfl⟩)).mono ?_
    rintro e w3 ⟨r, x, rfl, hr, hx, hs, hg⟩
    have hr2 : (r : Int) < 6 := by omega
    have S3 := hide hs
    have G3 := hide (grown_trans (unhide G2) hg)
    clear hs hg S2 G2
    go_wp2
    go_ret
    exact ⟨_, rfl, unhide S3, unhide G3⟩
end Go.Proofs.YtbkeaoplncaihaaDoor.Dr
