/- What FnLabels draws. -/
import Derived.Test.YthjjojkabbepdaaDoorNamD
namespace Go.Proofs.YthjjojkabbepdaaDoor.Dr
open Go.RowKit
set_option linter.unusedVariables false
set_option maxHeartbeats 2000000 in
set_option maxRecDepth 100000 in
theorem text_any (w : World) (src : Nat) (a : Option Addr) (len cap : Nat) (size : Int) (hl : len ≤ 1048576) (z0 : 0 ≤ size) (z1 : size ≤ 12) (h : SrcAt w src a len cap size) :
    Calls Tryd.prog 13 #[.pointer (some ⟨src, 0, none⟩)] w fun e w' => ∃ s : ByteArray, e = .returned (.string s) ∧ s.size ≤ 100001 ∧ SrcAt w' src a len cap size ∧ w.grownBy w' (some src) := by
  have H := hide h
  obtain ⟨_, p, mix, _, _, hh⟩ := h
  obtain ⟨_, _, _, c3, _, _, _⟩ := src_cells hh
  clear hh
  go_enter Tryd.func13, Tryd.ntmps13
  go_wp2_with fail
  refine (n_nat _ src a len cap size _ (by omega) (by omega) hl (unhide H)).mono ?_
  rintro e w1 ⟨r, rfl, hr, hs, hg⟩
  have S1 := hide hs
  have G1 := hide hg
  clear hs hg H c3
  go_wp2_with fail
  refine (textOf_any _ src a len cap r size hl (by omega) (unhide S1)).mono ?_
  rintro e w2 ⟨t, rfl, ht, hs, hg⟩
  have S2 := hide hs
  have G2 := hide (grown_trans (unhide G1) hg)
  clear hs hg S1 G1
  go_wp2_with fail
  refine (one_any _ src a len cap size 12 (by omega) (by omega) hl (unhide S2)).mono ?_
  rintro e w3 ⟨b1, rfl, hs, hg⟩
  have S3 := hide hs
  have G3 := hide (grown_trans (unhide G2) hg)
  clear hs hg S2 G2
  cases b1
  · go_wp2_with fail
    refine (one_any _ src a len cap size 200 (by omega) (by omega) hl (unhide S3)).mono ?_
    rintro e w4 ⟨b2, rfl, hs, hg⟩
    have S4 := hide hs
    have G4 := hide (grown_trans (unhide G3) hg)
    clear hs hg S3 G3
    cases b2
    · go_wp2
      go_ret
      exact ⟨_, rfl, by omega, unhide S4, unhide G4⟩
    · go_wp2_with fail
      refine (n_nat _ src a len cap size 3 (by omega) (by omega) hl (unhide S4)).mono ?_
      rintro e w5 ⟨q, rfl, hq, hs, hg⟩
      have S5 := hide hs
      have G5 := hide (grown_trans (unhide G4) hg)
      clear hs hg S4 G4
      go_wp2_with fail
      have eq : (65535 + (q : Int)) = ((65535 + q : Nat) : Int) := by omega
      rw [eq]
      clear eq
      refine (long_any _ src (65535 + q) (by omega) (by omega)).mono ?_
      rintro e w6 ⟨t3, rfl, ht3, hb⟩
      have S6 := hide (src_below (unhide S5) hb)
      have G6 := hide (grown_bel (unhide G5) hb)
      clear hb S5 G5
      go_wp2
      go_ret
      exact ⟨_, rfl, by omega, unhide S6, unhide G6⟩
  · go_wp2_with fail
    refine (spoil_any _ src a len cap size t hl (by omega) (unhide S3)).mono ?_
    rintro e w4 ⟨t2, rfl, ht2, hs, hg⟩
    have S4' := hide hs
    have G4 := hide (grown_trans (unhide G3) hg)
    clear hs hg S3 G3
    go_wp2_with fail
    refine (one_any _ src a len cap size 200 (by omega) (by omega) hl (unhide S4')).mono ?_
    rintro e w5 ⟨b2, rfl, hs, hg⟩
    have S5 := hide hs
    have G5 := hide (grown_trans (unhide G4) hg)
    clear hs hg S4' G4
    cases b2
    · go_wp2
      go_ret
      exact ⟨_, rfl, by omega, unhide S5, unhide G5⟩
    · go_wp2_with fail
      refine (n_nat _ src a len cap size 3 (by omega) (by omega) hl (unhide S5)).mono ?_
      rintro e w6 ⟨q, rfl, hq, hs, hg⟩
      have S6 := hide hs
      have G6 := hide (grown_trans (unhide G5) hg)
      clear hs hg S5 G5
      go_wp2_with fail
      have eq : (65535 + (q : Int)) = ((65535 + q : Nat) : Int) := by omega
      rw [eq]
      clear eq
      refine (long_any _ src (65535 + q) (by omega) (by omega)).mono ?_
      rintro e w7 ⟨t3, rfl, ht3, hb⟩
      have S7 := hide (src_below (unhide S6) hb)
      have G7 := hide (grown_bel (unhide G6) hb)
      clear hb S6 G6
      go_wp2
      go_ret
      exact ⟨_, rfl, by omega, unhide S7, unhide G7⟩
theorem grown_onE {w w' : World} {src B : Nat} (h : w.grownBy w' (some src)) (hB : B ≤ src) (hs : src < w.heap.size) : Below B w w' :=
  ⟨h.os, h.tape, h.output, by have := h.size; omega, fun k hk => h.block k (by omega) (fun e => by injection e with e; omega)⟩
set_option maxHeartbeats 2000000 in
set_option maxRecDepth 100000 in
theorem drawEnc_any (w : World) (a : Option Addr) (len cap : Nat) (hl : len ≤ 1048576) (hc : CodeIn w a len) :
    Calls Tryd.prog 5 #[.slice a len cap] w fun e w' => ∃ s : ByteArray, e = .returned (.string s) ∧ s.size ≤ 100001 ∧ Below w.heap.size w w' := by
  have CS := hide (source_any w a len cap hl hc)
  have NT := hide (fun W size (h0 : 0 ≤ size) (h1 : size ≤ 12) (q : SrcAt W w.heap.size a len cap size) => name_any W w.heap.size a len cap size hl h0 h1 q)
  have TX := hide (fun W size (h0 : 0 ≤ size) (h1 : size ≤ 12) (q : SrcAt W w.heap.size a len cap size) => text_any W w.heap.size a len cap size hl h0 h1 q)
  have ON := hide (fun W size (q : SrcAt W w.heap.size a len cap size) => one_any W w.heap.size a len cap size 2 (by omega) (by omega) hl q)
  clear hc
  go_enter Tryd.func5, Tryd.ntmps5
  go_wp2_with fail
  refine (unhide CS).mono ?_
  rintro e w1 ⟨rfl, size, hz0, hz1, hs, hb1, hlt⟩
  have B1 := hide hb1
  have S1 := hide hs
  clear CS hs hb1
  go_wp2_with fail
  refine ((unhide ON) _ _ (unhide S1)).mono ?_
  rintro e w2 ⟨b, rfl, hs2, hg2⟩
  have hlt2 : w.heap.size < w2.heap.size := Nat.lt_of_lt_of_le hlt hg2.size
  have B2 := hide ((unhide B1).trans (grown_onE hg2 (Nat.le_refl _) hlt))
  have S2 := hide hs2
  clear hs2 hg2 B1 S1
  cases b with
  | true =>
    go_wp2_with fail
    refine ((unhide TX) _ _ hz0 hz1 (unhide S2)).mono ?_
    rintro e w3 ⟨t, rfl, ht, hs3, hg3⟩
    have B3 := hide ((unhide B2).trans (grown_onE hg3 (Nat.le_refl _) hlt2))
    clear hs3 hg3 B2 S2
    go_wp2
    go_ret
    exact ⟨t, rfl, ht, unhide B3⟩
  | false =>
    go_wp2_with fail
    refine ((unhide NT) _ _ hz0 hz1 (unhide S2)).mono ?_
    rintro e w3 ⟨t, rfl, ht, hs3, hg3⟩
    have B3 := hide ((unhide B2).trans (grown_onE hg3 (Nat.le_refl _) hlt2))
    clear hs3 hg3 B2 S2
    go_wp2
    go_ret
    exact ⟨t, rfl, by omega, unhide B3⟩
end Go.Proofs.YthjjojkabbepdaaDoor.Dr
