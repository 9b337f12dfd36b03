/- A style: how large, a copy, what is alike. -/
import Derived.Test.YtgmpkapeemiecaaStrD
namespace Go.Proofs.Ytgmpkapeemiecaa.Sty
open Go.RowKit
set_option linter.unusedVariables false
set_option maxRecDepth 100000 in
set_option maxHeartbeats 2000000 in
theorem szStyle_any (p d c : Int) (v : Value) (K : List ByteArray) (w : World) (hv : StrsAt w v K) (hl : K.length ≤ 9223372036854775807) (hs : ∀ i, i < K.length → (nthS K i).size ≤ 9223372036854775807) :
    Calls Try.prog 17 #[.agg #[.int .i64 p, .int .i64 d, .int .i64 c, v], .int .i64 1048576] w fun e w' => ∃ r : Int, e = .returned (.int .i64 r) ∧ Below w.heap.size w w' ∧ (r < 0 ∨ (0 ≤ r ∧ K.length ≤ 1048576 ∧ ∀ i, i < K.length → (nthS K i).size ≤ 1048576)) := by
  have CS := hide (fun W h => szStrs_any v K 1048576 W h hl hs (by omega))
  have HV := hide hv
  obtain ⟨a, cap, rfl, _⟩ := hv
  have B0 := hide ((Below.refl w.heap.size w).alloc (Nat.le_refl _) (.cells #[.int .i64 p, .int .i64 d, .int .i64 c, .slice a K.length cap] 34))
  clear hs
  go_enter Try.func17, Try.ntmps17
  go_wp2_with (go_at_call 6; refine ((unhide CS) _ (StrsAt.below (unhide HV) (unhide B0))).mono ?_; rintro e w2 ⟨r, rfl, rfl, hr⟩; have HR := hide hr; clear hr)
  · go_ret
    exact ⟨-1, rfl, unhide B0, .inl (by omega)⟩
  · go_ret
    refine ⟨r, rfl, unhide B0, ?_⟩
    rcases unhide HR with h | h
    · exact .inl h
    · exact .inr ⟨h.1, h.2.2⟩
set_option maxRecDepth 100000 in
set_option maxHeartbeats 2000000 in
theorem eqStyle_any (p d c : Int) (v1 v2 : Value) (K : List ByteArray) (w : World) (h1 : StrsAt w v1 K) (h2 : StrsAt w v2 K) (hl : K.length ≤ 1048576) :
    Calls Try.prog 21 #[.agg #[.int .i64 p, .int .i64 d, .int .i64 c, v1], .agg #[.int .i64 p, .int .i64 d, .int .i64 c, v2]] w fun e w' => e = .returned (.bool true) ∧ Below w.heap.size w w' := by
  have CE := hide (fun W g1 g2 => eqStrs v1 v2 K W g1 g2 hl)
  have H1 := hide h1
  have H2 := hide h2
  obtain ⟨a1, c1, rfl, _⟩ := h1
  obtain ⟨a2, c2, rfl, _⟩ := h2
  have B0 := hide (((Below.refl w.heap.size w).alloc (Nat.le_refl _) (.cells #[.int .i64 p, .int .i64 d, .int .i64 c, .slice a1 K.length c1] 37)).alloc (by simp) (.cells #[.int .i64 p, .int .i64 d, .int .i64 c, .slice a2 K.length c2] 37))
  have n1 : (p != p) = false := by simp
  have n2 : (d != d) = false := by simp
  have n3 : (c != c) = false := by simp
  go_enter Try.func21, Try.ntmps21
  go_wp2_with (go_at_call 10; refine ((unhide CE) _ (StrsAt.below (unhide H1) (unhide B0)) (StrsAt.below (unhide H2) (unhide B0))).mono ?_; rintro e w2 ⟨rfl, hb2⟩; have B2 := hide ((unhide B0).trans (hb2.mono (unhide B0).size)); clear hb2)
  go_ret
  exact ⟨rfl, unhide B2⟩
end Go.Proofs.Ytgmpkapeemiecaa.Sty
