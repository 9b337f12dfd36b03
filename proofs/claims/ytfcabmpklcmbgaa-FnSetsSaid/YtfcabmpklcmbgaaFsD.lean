/- What FnSets draws. -/
import Derived.Test.YtfcabmpklcmbgaaTdA
import Derived.Handy
namespace Go.Proofs.Ytfcabmpklcmbgaa.Dr
open Go.RowKit
set_option linter.unusedVariables false
theorem sp_low {w : World} {B B2 : Nat} {v : Value} {L : List Sp} (h : SpRow w B2 v L) (hb : B ≤ B2) : SpRow w B v L := by
  refine ⟨h.1, ?_⟩
  rcases h.2 with h0 | ⟨g, cap, cur, h1, h2, h3⟩
  · exact .inl h0
  · exact .inr ⟨g, cap, cur, h1, Nat.le_trans hb h2, h3⟩
theorem St.below {w wr : World} {src : Nat} {a : Option Addr} {len cap : Nat} {size : Int} {v : Value} {L : List Sp} (h : St w wr src a len cap size v L) {B : Nat} (hB : B ≤ src) (hs : src < w.heap.size) : Below B w wr :=
  ⟨h.g.os, h.g.tape, h.g.output, by have := h.g.size; omega, fun k hk => h.g.block k (by omega) (fun e => by injection e with e; omega)⟩
set_option maxHeartbeats 8000000 in
set_option maxRecDepth 100000 in
theorem drawJ_any (w : World) (a : Option Addr) (len cap : Nat) (hl : len ≤ 1048576) (hc : CodeIn w a len) :
    Calls Try.prog 4 #[.slice a len cap] w fun e w' => ∃ (v u : Value) (L M : List Sp), e = .returned (.tuple #[v, u]) ∧ L.length ≤ 1001 ∧ M.length ≤ 1001 ∧ SpRow w' w.heap.size v L ∧ SpRow w' w.heap.size u M ∧ Below w.heap.size w w' := by
  have CS := hide (source_any w a len cap hl hc)
  go_enter Try.func4, Try.ntmps4
  go_wp2_with fail
  refine (unhide CS).mono ?_
  rintro e w1 ⟨rfl, size, hz0, hz1, hs, hb1, hlt⟩
  have B1 := hide hb1
  have CA := hide (anySpans_any w1 w.heap.size a len cap size hl hz0 hz1 hs)
  clear CS hs hb1
  go_wp2_with fail
  refine (unhide CA).mono ?_
  rintro e w2 ⟨v, L, rfl, hL, hV, hS⟩
  have S2 := hide hS
  have CN := hide (anySpans_any w2 w.heap.size a len cap size hl hz0 hz1 hS.s)
  have hlt2 : w.heap.size < w2.heap.size := Nat.lt_of_lt_of_le hlt hS.g.size
  obtain ⟨va, vc, rfl, _⟩ := hS.o.form
  clear CA hV hS
  go_wp2_with fail
  refine (unhide CN).mono ?_
  rintro e w3 ⟨u, M, rfl, hM, hV2, hS3⟩
  have S3 := hide hS3
  have S1 : Hid (SpRow w3 w1.heap.size (.slice va L.length vc) L) := hide (World.ownsRow.kept (unhide S2).o hS3.g (.inr (fun e => by have := ((unhide S2).o.lt _ e).1; omega)))
  obtain ⟨ua, uc, rfl, _⟩ := hS3.o.form
  clear CN hV2 hS3
  go_wp2
  go_returns
  exact ⟨_, _, L, M, rfl, hL, hM, sp_low (unhide S1) (by omega), sp_low (unhide S3).o (by omega), ((unhide B1).trans ((unhide S2).below (Nat.le_refl _) hlt)).trans ((unhide S3).below (Nat.le_refl _) hlt2)⟩
end Go.Proofs.Ytfcabmpklcmbgaa.Dr
