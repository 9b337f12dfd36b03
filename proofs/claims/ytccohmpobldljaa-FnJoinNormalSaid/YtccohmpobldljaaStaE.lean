/- What FnJoinNormal draws. -/
import Derived.Test.YtccohmpobldljaaDEqv
import Derived.Test.YtccohmpobldljaaNmlS
import Derived.Handy
namespace Go.Proofs.Ytccohmpobldljaa.Dr
open Go.RowKit
set_option linter.unusedVariables false
set_option maxHeartbeats 2000000 in
theorem normForm_any (w : World) (src : Nat) (a : Option Addr) (len cap : Nat) (size : Int) (hl : len ≤ 1048576) (h : SrcAt w src a len cap size) :
    Calls Try.prog 11 #[.pointer (some ⟨src, 0, none⟩)] w fun e w' => ∃ f : Int, e = .returned (.int .i64 f) ∧ SrcAt w' src a len cap size ∧ w.grownBy w' (some src) := by
  have CO := hide (one_any w src a len cap size 20 (by omega) (by omega) hl h)
  have NN := hide (fun (most : Int) W (h1 : 0 < most) (h2 : most ≤ 1000000) (q : SrcAt W src a len cap size) => n_nat W src a len cap size most h1 h2 hl q)
  clear h
  go_enter Try.func11, Try.ntmps11
  go_wp2_with fail
  refine (unhide CO).mono ?_
  rintro e w1 ⟨b, rfl, hs1, hg1⟩
  have S1 := hide hs1
  have G1 := hide hg1
  clear hs1 hg1 CO
  cases b with
  | true =>
    go_wp2_with fail
    refine ((unhide NN) _ _ (by omega) (by omega) (unhide S1)).mono ?_
    rintro e w2 ⟨r, rfl, hr, hs2, hg2⟩
    have S2 := hide hs2
    have G2 := hide (grown_trans (unhide G1) hg2)
    clear hs2 hg2
    go_wp2
    go_ret
    exact ⟨_, rfl, unhide S2, unhide G2⟩
  | false =>
    go_wp2_with fail
    refine ((unhide NN) _ _ (by omega) (by omega) (unhide S1)).mono ?_
    rintro e w2 ⟨r, rfl, hr, hs2, hg2⟩
    have S2 := hide hs2
    have G2 := hide (grown_trans (unhide G1) hg2)
    clear hs2 hg2
    go_wp2
    go_ret
    exact ⟨_, rfl, unhide S2, unhide G2⟩
theorem grown_on {w w' : World} {src B : Nat} (h : w.grownBy w' (some src)) (hB : B ≤ src) (hs : src < w.heap.size) : Below B w w' :=
  ⟨h.os, h.tape, h.output, by have := h.size; omega, fun k hk => h.block k (by omega) (fun e => by injection e with e; omega)⟩
set_option maxHeartbeats 4000000 in
set_option maxRecDepth 100000 in
theorem drawJN_any (w : World) (a : Option Addr) (len cap : Nat) (hl : len ≤ 1048576) (hc : CodeIn w a len) :
    Calls Try.prog 4 #[.slice a len cap] w fun e w' => ∃ (f : Int) (s t : ByteArray), e = .returned (.tuple #[.int .i64 f, .string s, .string t]) ∧ s.size ≤ 100001 ∧ t.size ≤ 100001 ∧ Below w.heap.size w w' := by
  have CS := hide (source_any w a len cap hl hc)
  have PT := hide (fun W size (h0 : 0 ≤ size) (h1 : size ≤ 12) (q : SrcAt W w.heap.size a len cap size) => partsText_any W w.heap.size a len cap size hl h0 h1 q)
  have SN := hide (fun f s W (h : s.size ≤ 1048576) => specNormalize f s W h)
  have SZ := hide (fun f s => nml_size f s)
  clear hc
  go_enter Try.func4, Try.ntmps4
  go_wp2_with fail
  refine (unhide CS).mono ?_
  rintro e w1 ⟨rfl, size, hz0, hz1, hs, hb1, hlt⟩
  have B1 := hide hb1
  have CF := hide (normForm_any w1 w.heap.size a len cap size hl hs)
  clear CS hs hb1
  go_wp2_with fail
  refine (unhide CF).mono ?_
  rintro e w2 ⟨f, rfl, hs2, hg2⟩
  have hlt2 : w.heap.size < w2.heap.size := Nat.lt_of_lt_of_le hlt hg2.size
  have B2 := hide ((unhide B1).trans (grown_on hg2 (Nat.le_refl _) hlt))
  have CO := hide (one_any w2 w.heap.size a len cap size 6 (by omega) (by omega) hl hs2)
  clear CF hs2 hg2 B1
  go_wp2_with fail
  refine (unhide CO).mono ?_
  rintro e w3 ⟨b, rfl, hs3, hg3⟩
  have hlt3 : w.heap.size < w3.heap.size := Nat.lt_of_lt_of_le hlt2 hg3.size
  have B3 := hide ((unhide B2).trans (grown_on hg3 (Nat.le_refl _) hlt2))
  have S3 := hide hs3
  clear CO hs3 hg3 B2
  cases b with
  | true =>
    go_wp2_with fail
    refine ((unhide PT) _ _ hz0 hz1 (unhide S3)).mono ?_
    rintro e w4 ⟨s, rfl, hsz, hs4, hg4⟩
    have hlt4 : w.heap.size < w4.heap.size := Nat.lt_of_lt_of_le hlt3 hg4.size
    have B4 := hide ((unhide B3).trans (grown_on hg4 (Nat.le_refl _) hlt3))
    have S4 := hide hs4
    clear hs4 hg4 B3 S3
    go_wp2_with fail
    refine ((unhide PT) _ _ hz0 hz1 (unhide S4)).mono ?_
    rintro e w5 ⟨t, rfl, htz, hs5, hg5⟩
    have B5 := hide ((unhide B4).trans (grown_on hg5 (Nat.le_refl _) hlt4))
    clear hs5 hg5 B4 S4
    go_wp2
    go_returns
    exact ⟨f, s, t, rfl, hsz, htz, unhide B5⟩
  | false =>
    go_wp2_with fail
    refine ((unhide PT) _ _ hz0 hz1 (unhide S3)).mono ?_
    rintro e w4 ⟨s, rfl, hsz, hs4, hg4⟩
    have hlt4 : w.heap.size < w4.heap.size := Nat.lt_of_lt_of_le hlt3 hg4.size
    have B4 := hide ((unhide B3).trans (grown_on hg4 (Nat.le_refl _) hlt3))
    have S4 := hide hs4
    clear hs4 hg4 B3 S3
    go_wp2_with fail
    refine ((unhide SN) f s _ (by omega)).mono ?_
    rintro e w5 ⟨rfl, hb5⟩
    have hlt5 : w.heap.size < w5.heap.size := Nat.lt_of_lt_of_le hlt4 hb5.size
    have B5 := hide ((unhide B4).trans (hb5.mono (by omega)))
    have S5 : Hid (SrcAt w5 w.heap.size a len cap size) := hide (src_below (unhide S4) hb5)
    have z5 := (unhide SZ) f s
    generalize strOfNums (nmlOut f s) = s5 at *
    clear hb5 B4 S4
    go_wp2_with fail
    refine ((unhide PT) _ _ hz0 hz1 (unhide S5)).mono ?_
    rintro e w6 ⟨t, rfl, htz, hs6, hg6⟩
    have B6 := hide ((unhide B5).trans (grown_on hg6 (Nat.le_refl _) hlt5))
    have hlt6 : w.heap.size < w6.heap.size := Nat.lt_of_lt_of_le hlt5 hg6.size
    clear hs6 hg6 B5 S5
    go_wp2_with fail
    refine ((unhide SN) f t _ (by omega)).mono ?_
    rintro e w7 ⟨rfl, hb7⟩
    have B7 := hide ((unhide B6).trans (hb7.mono (by omega)))
    have z7 := (unhide SZ) f t
    generalize strOfNums (nmlOut f t) = t7 at *
    clear hb7 B6
    go_wp2
    go_returns
    exact ⟨f, s5, t7, rfl, by omega, by omega, unhide B7⟩
end Go.Proofs.Ytccohmpobldljaa.Dr
