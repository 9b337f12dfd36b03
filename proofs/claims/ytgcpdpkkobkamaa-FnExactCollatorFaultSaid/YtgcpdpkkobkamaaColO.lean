/- Arguments that hold a collator, opened. -/
import Derived.Test.YtgcpdpkkobkamaaMC
import Derived.Test.YtgcpdpkkobkamaaColE
namespace Go.Proofs.Ytgcpdpkkobkamaa.Col
open Go.ChangeShapes Go.WideShapes Go.ChangeAt Go.RowKit Go.Deep
set_option linter.unusedVariables false
section
variable {H : Type} {enc : TypeId × Value → H} {w : World} {base : Nat} {spare : Nat → Bool} {held : Bool}
theorem lentry_cells : Try.prog.cellsOf 50 = 2 := by kernel_rfl
theorem str_cells : Try.prog.cellsOf 9 = 1 := by kernel_rfl
theorem lspans_cells : Try.prog.cellsOf 48 = 1 := by kernel_rfl
theorem lentries_cells : Try.prog.cellsOf 22 = 1 := by kernel_rfl
theorem lcoll_cells : Try.prog.cellsOf 24 = 3 := by kernel_rfl
theorem bool_cells : Try.prog.cellsOf 4 = 1 := by kernel_rfl
theorem i64_cells : Try.prog.cellsOf 2 = 1 := by kernel_rfl
/-- A row of elements that stands in a cell. -/
theorem sps_cell {fuel : Nat} {u : Value} {y : DataW H × List MemPlace} (h : DataW.trod enc Try.prog w base spare held fuel 48 [u] = some y) : ∃ L, SpsAt w u L ∧ L.length ≤ maxLen := by
  have hs : ∃ a l c, u = .slice a l c := by
    rcases open_slice Try.underlying48 h with ⟨hcs, _⟩ | ⟨x, l, c, m, n, D, Pl, hcs, _⟩
    · simp at hcs; exact ⟨none, 0, 0, hcs⟩
    · simp at hcs; exact ⟨some x, l, c, hcs⟩
  obtain ⟨a, l, c, rfl⟩ := hs
  obtain ⟨d, ps⟩ := y
  exact open_spans a l c rfl ⟨fuel, h⟩
set_option maxRecDepth 100000 in
theorem ens_cell {fuel : Nat} {v : Value} {y : DataW H × List MemPlace} (h : DataW.trod enc Try.prog w base spare held fuel 22 [v] = some y) : ∃ E, EnAt SpsAt w v E ∧ E.length ≤ maxLen ∧ ∀ i, i < E.length → (ge E i).1.size ≤ maxLen ∧ (ge E i).2.length ≤ maxLen := by
  rcases open_slice Try.underlying22 h with ⟨hcs, _⟩ | ⟨x, len, cap, m, n, D, Pl, hcs, _, hl, hm, hmm, _, hx⟩
  · simp at hcs
    subst hcs
    exact ⟨[], ⟨none, 0, rfl, .inl rfl⟩, by simp, by simp⟩
  · simp at hcs
    subst hcs
    have hlm : len ≤ m := by rw [hmm]; split <;> omega
    have each : ∀ i, i < len → ∃ r : En, w.cell? (x.add (i * 2)) = some (.string r.1) ∧ (∃ u, w.cell? (x.add (i * 2 + 1)) = some u ∧ SpsAt w u r.2) ∧ r.1.size ≤ maxLen ∧ r.2.length ≤ maxLen := by
      intro i hi
      obtain ⟨cs', h1, h2⟩ := hx i (by omega)
      rw [lentry_cells] at h1
      obtain ⟨_, hlen, hcell⟩ := World.cells?_some h1
      obtain ⟨xs, k, hk, hxy, _, hxl, hfl⟩ := DataW.trod_struct Try.underlying50 h2
      match cs', hlen with
      | [v0, v1], _ =>
        have g0 := hfl 0 _ rfl
        have g1 := hfl 1 _ rfl
        simp [str_cells, lspans_cells] at g0 g1
        have e0 := hcell 0 (by omega)
        have e1 := hcell 1 (by omega)
        rw [add_add] at e0 e1
        have j0 : ∃ y, DataW.trod enc Try.prog w base spare held k 9 [v0] = some y := by
          match xs, hxl with
          | [y0, y1], _ => exact ⟨_, g0⟩
        have j1 : ∃ y, DataW.trod enc Try.prog w base spare held k 48 [v1] = some y := by
          match xs, hxl with
          | [y0, y1], _ => exact ⟨_, g1⟩
        obtain ⟨_, j0⟩ := j0
        obtain ⟨_, j1⟩ := j1
        obtain ⟨s, q0, _, hsz⟩ := DataW.trod_string Try.underlying9 j0
        obtain ⟨L, q1, hL⟩ := sps_cell j1
        simp at q0
        subst q0
        exact ⟨(s, L), by simpa using e0, ⟨v1, by simpa using e1, q1⟩, hsz, hL⟩
    obtain ⟨R, hR⟩ := choose_lt each
    have hlen : ((List.range len).map R).length = len := by simp
    have hg : ∀ i, i < len → ge ((List.range len).map R) i = R i := fun i hi => by simp [ge, List.getD, hi]
    refine ⟨(List.range len).map R, ⟨some x, cap, by rw [hlen], ?_⟩, by rw [hlen]; omega, fun i hi => ?_⟩
    · by_cases h0 : len = 0
      · exact .inl (List.length_eq_zero_iff.1 (by omega))
      · have hR0 : w.cell? (x.add 0) = some (.string (R 0).1) := (hR 0 (by omega)).1
        obtain ⟨b, off, rfl⟩ := add_spot hR0
        have hb := block_lt_of_cell hR0
        rw [addr_add] at hb
        refine .inr ⟨b, off, rfl, hb, fun i hi => ?_⟩
        rw [hlen] at hi
        obtain ⟨t1, t2, _⟩ := hR i hi
        rw [addr_add] at t1
        rw [addr_add] at t2
        rw [hg i hi]
        exact ⟨t1, t2⟩
    · rw [hlen] at hi
      rw [hg i hi]
      exact (hR i hi).2.2
set_option maxRecDepth 100000 in
theorem open_coll {b0 : Nat} {r : Reach} {v : Value} {d : DataW H} {ps : List MemPlace} (hval : Value.okWide Try.prog w r b0 24 v) (h : DataW.Trod enc Try.prog w base spare held 24 v d ps) :
    ∃ u s p E, v = .agg #[u, .int .i64 s, .bool p] ∧ EnAt SpsAt w u E ∧ E.length ≤ maxLen ∧ ∀ i, i < E.length → (ge E i).1.size ≤ maxLen ∧ (ge E i).2.length ≤ maxLen := by
  obtain ⟨fuel, hf⟩ := h
  obtain ⟨cs, rfl, hcs⟩ := okWide_struct Try.underlying24 hval
  rw [lcoll_cells] at hcs
  obtain ⟨xs, k, hk, hxy, _, hxl, hfl⟩ := DataW.trod_struct Try.underlying24 hf
  obtain ⟨v0, v1, v2, rfl⟩ : ∃ v0 v1 v2, cs = #[v0, v1, v2] := by
    obtain ⟨l⟩ := cs
    match l, hcs with
    | [v0, v1, v2], _ => exact ⟨v0, v1, v2, rfl⟩
  have g0 := hfl 0 _ rfl
  have g1 := hfl 1 _ rfl
  have g2 := hfl 2 _ rfl
  simp [lentries_cells, i64_cells, bool_cells, Value.cells] at g0 g1 g2
  have j0 : ∃ y, DataW.trod enc Try.prog w base spare held k 22 [v0] = some y := by
    match xs, hxl with
    | [y0, y1, y2], _ => exact ⟨_, g0⟩
  have j1 : ∃ y, DataW.trod enc Try.prog w base spare held k 2 [v1] = some y := by
    match xs, hxl with
    | [y0, y1, y2], _ => exact ⟨_, g1⟩
  have j2 : ∃ y, DataW.trod enc Try.prog w base spare held k 4 [v2] = some y := by
    match xs, hxl with
    | [y0, y1, y2], _ => exact ⟨_, g2⟩
  obtain ⟨_, j0⟩ := j0
  obtain ⟨_, j1⟩ := j1
  obtain ⟨_, j2⟩ := j2
  obtain ⟨E, a0, a1, a2⟩ := ens_cell j0
  obtain ⟨s, q1, _⟩ := DataW.trod_int Try.underlying2 j1
  obtain ⟨p, q2, _⟩ := DataW.trod_bool Try.underlying4 j2
  simp at q1 q2
  subst q1 q2
  exact ⟨v0, s, p, E, rfl, a0, a1, a2⟩
end
end Go.Proofs.Ytgcpdpkkobkamaa.Col
