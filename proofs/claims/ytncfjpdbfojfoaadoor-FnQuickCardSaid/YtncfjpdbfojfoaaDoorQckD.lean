/- What FnQuick draws. -/
import Derived.Test.YtncfjpdbfojfoaaDoorStaE
namespace Go.Proofs.YtncfjpdbfojfoaaDoor.Dr
open Go.RowKit
set_option linter.unusedVariables false
set_option maxHeartbeats 4000000 in
set_option maxRecDepth 100000 in
theorem normText_any (f : Int) (w : World) (src : Nat) (a : Option Addr) (len cap : Nat) (size : Int) (hl : len ≤ 1048576) (z0 : 0 ≤ size) (z1 : size ≤ 12) (h : SrcAt w src a len cap size) :
    Calls Tryd.prog 10 #[.pointer (some ⟨src, 0, none⟩), .int .i64 f] w fun e w' => ∃ s : ByteArray, e = .returned (.string s) ∧ s.size ≤ 100001 ∧ Below src w w' := by
  have hsrc := src_lt h
  have CP := hide (partsText_any w src a len cap size hl z0 z1 h)
  clear h
  go_enter Tryd.func10, Tryd.ntmps10
  go_wp2_with fail
  refine (unhide CP).mono ?_
  rintro e w1 ⟨s, rfl, hs, hs1, hg1⟩
  have hlt1 : src < w1.heap.size := Nat.lt_of_lt_of_le hsrc hg1.size
  have B1 := hide (grown_on hg1 (Nat.le_refl _) hsrc)
  have CO := hide (one_any w1 src a len cap size 2 (by omega) (by omega) hl hs1)
  clear CP hs1 hg1
  go_wp2_with fail
  refine (unhide CO).mono ?_
  rintro e w2 ⟨b, rfl, hs2, hg2⟩
  have hlt2 : src < w2.heap.size := Nat.lt_of_lt_of_le hlt1 hg2.size
  have B2 := hide ((unhide B1).trans (grown_on hg2 (Nat.le_refl _) hlt1))
  clear CO hs2 hg2 B1
  cases b with
  | false =>
    go_wp2
    go_ret
    exact ⟨s, rfl, hs, unhide B2⟩
  | true =>
    have CN := hide (specNormalize f s w2 (by omega))
    have hz := nml_size f s
    generalize strOfNums (nmlOut f s) = t at *
    go_wp2_with fail
    refine (unhide CN).mono ?_
    rintro e w3 ⟨rfl, hb3⟩
    have B3 := hide ((unhide B2).trans (hb3.mono (by omega)))
    clear CN hb3 B2
    go_wp2
    go_ret
    exact ⟨t, rfl, by omega, unhide B3⟩
set_option maxHeartbeats 4000000 in
set_option maxRecDepth 100000 in
theorem drawQ_any (w : World) (a : Option Addr) (len cap : Nat) (hl : len ≤ 1048576) (hc : CodeIn w a len) :
    Calls Tryd.prog 4 #[.slice a len cap] w fun e w' => ∃ (f : Int) (s : ByteArray), e = .returned (.tuple #[.int .i64 f, .string s]) ∧ s.size ≤ 100001 ∧ Below w.heap.size w w' := by
  have CS := hide (source_any w a len cap hl hc)
  clear hc
  go_enter Tryd.func4, Tryd.ntmps4
  go_wp2_with fail
  refine (unhide CS).mono ?_
  rintro e w1 ⟨rfl, size, hz0, hz1, hs, hb1, hlt⟩
  have B1 := hide hb1
  have CF := hide (normForm_any w1 w.heap.size a len cap size hl hs)
  clear CS hs hb1
  go_wp2_with fail
  refine (unhide CF).mono ?_
  rintro e w2 ⟨f, rfl, hs2, hg2⟩
  have B2 := hide ((unhide B1).trans (grown_on hg2 (Nat.le_refl _) hlt))
  have CT := hide (normText_any f w2 w.heap.size a len cap size hl hz0 hz1 hs2)
  clear CF hs2 hg2 B1
  go_wp2_with fail
  refine (unhide CT).mono ?_
  rintro e w3 ⟨s, rfl, hsz, hb3⟩
  have B3 := hide ((unhide B2).trans hb3)
  clear CT hb3 B2
  go_wp2
  go_returns
  exact ⟨f, s, rfl, hsz, unhide B3⟩
end Go.Proofs.YtncfjpdbfojfoaaDoor.Dr
