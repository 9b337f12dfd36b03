/- The law of kinds. -/
import Derived.Test.YtbkeaoplncaihaaDoorKdP
import Derived.Test.YtbkeaoplncaihaaDoorLwQ
import Derived.Test.YtbkeaoplncaihaaDoorLwP
import Derived.Test.YtbkeaoplncaihaaDoorLwA
import Derived.Test.YtbkeaoplncaihaaDoorCspD
namespace Go.Proofs.YtbkeaoplncaihaaDoor.Kd
open Go.RowKit
set_option linter.unusedVariables false
theorem implSp (k : Int) (hk : 1 ≤ k ∧ k ≤ 4) (w : World) (ht : TabAt w) :
    Calls Tryd.prog 15 #[.int .i64 k] w fun e w' => ∃ (v : Value) (L : List Sp), e = .returned v ∧ RunsR (valW k) L.reverse 32768 ∧ SpRow w' w.heap.size v L ∧ Below w.heap.size w w' := by
  refine (implSpans k hk w ht).mono ?_
  rintro e w' ⟨v, L, he, hr, hl, hs, hb⟩
  exact ⟨v, L, he, hr, hs, hb⟩
theorem runs_same {f : Int → Int} {L L' : List Sp} {b : Int} (h : RunsR f L.reverse b) (h' : RunsR f L'.reverse b) : L' = L := by
  have := congrArg List.reverse (runs_one _ _ _ _ h' h)
  simpa using this
theorem ints4 {w : World} {g : Nat} {a b c d : Int} (h : w.heap[g]? = some (.cells #[.int .i64 a, .int .i64 b, .int .i64 c, .int .i64 d] 2 (0, 0))) : IntsAt w (.slice (some ⟨g, 0, none⟩) 4 4) [a, b, c, d] := by
  have hg := (Array.getElem?_eq_some_iff.1 h).1
  refine ⟨_, _, rfl, .inr ⟨g, 0, rfl, hg, fun i hi => ?_⟩⟩
  have hi4 : i < 4 := by simpa using hi
  obtain rfl | rfl | rfl | rfl : i = 0 ∨ i = 1 ∨ i = 2 ∨ i = 3 := by omega
  all_goals simp [World.cell?, h, Go.Proofs.YtbkeaoplncaihaaDoor.nth]
theorem draw_any (w : World) (a : Option Addr) (len cap : Nat) (hl : len ≤ 1048576) (hc : Dr.CodeIn w a len) :
    Calls Tryd.prog 4 #[.slice a len cap] w fun e w' => ∃ p : Int, e = .returned (.int .i64 p) ∧ Below w.heap.size w w' := by
  have CS := hide (Dr.source_any w a len cap hl hc)
  clear hc
  go_enter Tryd.func4, Tryd.ntmps4
  go_wp2_with fail
  refine (unhide CS).mono ?_
  rintro e w1 ⟨rfl, size, hz0, hz1, hs, hb1, hlt⟩
  have B1 := hide hb1
  have CF := hide (Dr.anyPoint_any w1 w.heap.size a len cap size hl hs)
  clear CS hs hb1
  go_wp2_with fail
  refine (unhide CF).mono ?_
  rintro e w2 ⟨p, rfl, hs2, hg2⟩
  have B2 := hide ((unhide B1).trans (show Below w.heap.size w1 w2 from ⟨hg2.os, hg2.tape, hg2.output, by have := hg2.size; omega, fun k hk => hg2.block k (by omega) (fun e => by injection e with e; omega)⟩))
  clear CF hs2 hg2 B1
  go_wp2
  go_ret
  exact ⟨p, rfl, unhide B2⟩
theorem code_on {w W : World} {a : Option Addr} {len : Nat} (h : Dr.CodeIn w a len) (hb : Below w.heap.size w W) : Dr.CodeIn W a len := by
  rcases h with h | ⟨cb, off, e, hl, hc⟩
  · exact .inl h
  · refine .inr ⟨cb, off, e, Nat.lt_of_lt_of_le hl hb.size, fun i hi => ?_⟩
    obtain ⟨z, h1, h2⟩ := hc i hi
    exact ⟨z, (hb.cell (p := ⟨cb, off + i, none⟩) hl).trans h1, h2⟩
theorem drewB (W : World) (n : Nat) : Below W.heap.size W (W.drewN n) := bdrew (Below.refl _ _) n
/-- What the law keeps. -/
structure Kw (w W : World) (g : Nat) (c s m a : Int) : Prop where
  tab : TabAt W
  row : IntsAt W (.slice (some ⟨g, 0, none⟩) 4 4) [c, s, m, a]
  bel : Below w.heap.size w W
theorem Kw.on {w W W' : World} {g : Nat} {c s m a : Int} (h : Kw w W g c s m a) (hb : Below W.heap.size W W') : Kw w W' g c s m a := ⟨h.tab.below hb, h.row.below hb, h.bel.trans (hb.mono h.bel.size)⟩
theorem Kw.cell {w W : World} {g : Nat} {c s m a : Int} (h : Kw w W g c s m a) (i : Nat) (hi : i < 4) : W.cell? ⟨g, i, none⟩ = some (.int .i64 (nth [c, s, m, a] i)) := by
  obtain ⟨a', cap, e, h⟩ := h.row
  injection e with e1 _ _
  rcases h with h | ⟨b, off, e2, _, hc⟩
  · cases h
  · rw [e2] at e1
    injection e1 with e1
    injection e1 with e3 e4 _
    have := hc i (by simpa using hi)
    rw [← e3, ← e4, Nat.zero_add] at this
    exact this
end Go.Proofs.YtbkeaoplncaihaaDoor.Kd
