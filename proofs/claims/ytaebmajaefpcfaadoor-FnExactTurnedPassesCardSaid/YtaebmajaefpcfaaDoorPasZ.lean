/- TurnedPasses of the program. -/
import Derived.Test.YtaebmajaefpcfaaDoorPasY
import Derived.Test.YtaebmajaefpcfaaDoorPasG
namespace Go.Proofs.YtaebmajaefpcfaaDoor.Pas
open Go.RowKit Go.Shelf
set_option linter.unusedVariables false
theorem pag_nil (lo hi : Nat) (w : World) : PaG lo hi w (.slice none 0 0) [] := ⟨fun _ => none, [], World.ownsRow_nil w _ _ _, (fun k e => by cases e), (fun i hi => by simp at hi), (fun i j k hi => by simp at hi)⟩
set_option maxRecDepth 100000 in
set_option maxHeartbeats 4000000 in
theorem turnedOf_bad (v : Value) (P : List Pa) (B : Nat) (w : World) (hv : PaAt B w v P) (hs : Small P) (hT : Tabs w) (hr : right P = false) :
    Calls Tryd.prog 23 #[v] w fun e w' => e = .returned (.tuple #[.slice none 0 0, .bool false]) ∧ Below w.heap.size w w' := by
  have hf0 : flt P = 1 := by
    rcases flt_iff P with ⟨_, h⟩ | ⟨h, _⟩
    · rw [hr] at h; cases h
    · exact h
  have hB2 : Below w.heap.size w ((w.alloc (.cells #[.slice none 0 0] 25)).alloc (.cells #[.bool false] 4)) := (al1 w _).alloc (by simp) _
  have PF := implPF v P B _ (hv.below hB2) hs (Utf8Tabs_below hT hB2)
  rw [hf0] at PF
  have PF' := hide PF
  have b0 : Boxed ((w.alloc (.cells #[.slice none 0 0] 25)).alloc (.cells #[.bool false] 4)) w.heap.size 25 (.slice none 0 0) := (Boxed.new w 25 (.slice none 0 0)).alloc _
  have b1 : Boxed ((w.alloc (.cells #[.slice none 0 0] 25)).alloc (.cells #[.bool false] 4)) (w.heap.size + 1) 4 (.bool false) := by
    have := Boxed.new (w.alloc (.cells #[.slice none 0 0] 25)) 4 (.bool false)
    simpa using this
  have H0 := hide b0
  have H1 := hide b1
  have HB := hide hB2
  obtain ⟨va, vc, rfl⟩ := hv.form
  clear PF hf0 hr b0 b1 hB2 hv hT
  go_enter Tryd.func23, Tryd.ntmps23
  go_wp2_with fail
  refine (unhide PF').mono ?_
  rintro e w1 ⟨rfl, hb1⟩
  have c0 : Boxed w1 w.heap.size 25 (.slice none 0 0) := (hb1.block _ (unhide H0).lt).trans (unhide H0)
  have c1 : Boxed w1 (w.heap.size + 1) 4 (.bool false) := (hb1.block _ (unhide H1).lt).trans (unhide H1)
  have d1 := c1.other (B' := w.heap.size) (by omega) (.slice none 0 0)
  have e0 := (c0.set (.slice none 0 0)).other (B' := w.heap.size + 1) (by omega) (.bool false)
  have e1 := d1.set (.bool false)
  have BF := hide ((((unhide HB).trans (hb1.mono (unhide HB).size)).setCell (p := ⟨w.heap.size, 0, none⟩) (Nat.le_refl _) (.slice none 0 0)).setCell (p := ⟨w.heap.size + 1, 0, none⟩) (by simp) (.bool false))
  have f0 := c0.cell
  have f1 := c0.frozen
  have f2 := d1.cell
  have f3 := d1.frozen
  have g0 := e0.cell
  have g1 := e1.cell
  clear c0 c1 d1 e0 e1 hb1 H0 H1 PF'
  go_wp2
  refine bodyPost_ret (v := .tuple #[.slice none 0 0, .bool false]) (by simp [results, Tryd.results23, go_sem, g0, g1]; try rfl) rfl ?_
  exact ⟨rfl, unhide BF⟩
set_option maxRecDepth 100000 in
set_option maxHeartbeats 4000000 in
theorem implT (v : Value) (P : List Pa) (B : Nat) (w : World) (hv : PaAt B w v P) (hs : Small P) (hT : Tabs w) :
    Calls Tryd.prog 11 #[v] w fun e w' => (∃ u, e = .returned u ∧ PaG w.heap.size w'.heap.size w' u (ans P)) ∧ Below w.heap.size w w' := by
  have C : Calls Tryd.prog 23 #[v] w fun e w' => (∃ u z, e = .returned (.tuple #[u, .bool z]) ∧ PaG w.heap.size w'.heap.size w' u (ans P)) ∧ Below w.heap.size w w' := by
    cases hr : right P with
    | true =>
      refine ((callsIn_wide (n := 5)).1 (turnedOf_in v P B w hv hs hT hr)).mono ?_
      rintro e w' ⟨⟨u, z, rfl, rfl, h1, h2⟩, hb⟩
      refine ⟨⟨u, _, rfl, ?_⟩, hb⟩
      cases hc : canA P with
      | true => rw [ans_yes hr hc]; exact h1 hc
      | false => rw [ans_no hc, h2 hc]; exact pag_nil _ _ _
    | false =>
      refine (turnedOf_bad v P B w hv hs hT hr).mono ?_
      rintro e w' ⟨rfl, hb⟩
      exact ⟨⟨_, _, rfl, by rw [ans_bad hr]; exact pag_nil _ _ _⟩, hb⟩
  have HC := hide C
  obtain ⟨va, vc, rfl⟩ := hv.form
  clear C hv hT hs
  generalize ans P = Q at *
  go_enter Tryd.func11, Tryd.ntmps11
  go_wp2_with (go_at_call 23; refine (unhide HC).mono ?_; rintro e w1 ⟨⟨u, z, rfl, hp⟩, hb1⟩; have HP := hide hp; have B1 := hide hb1; clear hp hb1)
  go_ret
  exact ⟨⟨_, rfl, unhide HP⟩, unhide B1⟩
end Go.Proofs.YtaebmajaefpcfaaDoor.Pas
