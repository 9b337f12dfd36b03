/- Arguments that hold passes, opened. -/
import Derived.Test.YtfjnjednliacdaaDoorPasA
import Derived.ProofKit
import Derived.OpenShut
import Derived.ShutString
import Derived.ChangeOld
import Derived.Deep.Slices
namespace Go.Proofs.YtfjnjednliacdaaDoor.Pas
open Go.ChangeShapes Go.WideShapes Go.ChangeAt Go.RowKit Go.Deep
set_option linter.unusedVariables false
section
variable {H : Type} {enc : TypeId × Value → H} {w : World} {base : Nat} {spare : Nat → Bool} {held : Bool}
theorem lwr_cells : Tryd.prog.cellsOf 61 = 5 := by kernel_rfl
theorem lpass_cells : Tryd.prog.cellsOf 32 = 2 := by kernel_rfl
theorem str_cells : Tryd.prog.cellsOf 9 = 1 := by kernel_rfl
theorem i64_cells : Tryd.prog.cellsOf 2 = 1 := by kernel_rfl
theorem lwrs_cells : Tryd.prog.cellsOf 30 = 1 := by kernel_rfl
theorem addr_add (b off i : Nat) : (⟨b, off, none⟩ : Addr).add i = ⟨b, off + i, none⟩ := by unfold Addr.add; split <;> simp_all
theorem add_spot {w : World} {a : Addr} {v : Value} (h : w.cell? (a.add 0) = some v) : ∃ b off, a = ⟨b, off, none⟩ := by
  obtain ⟨b, off, spot⟩ := a
  have hspot : spot = none := by simpa [Addr.add] using World.cell?_spot h
  exact ⟨b, off, by rw [hspot]⟩
set_option maxRecDepth 100000 in
theorem rules_cell {fuel : Nat} {v : Value} {y : DataW H × List MemPlace} (h : DataW.trod enc Tryd.prog w base spare held fuel 30 [v] = some y) : ∃ L, RuAt 0 w v L ∧ L.length ≤ maxLen ∧ ∀ i, i < L.length → Fit1 (gr L i) := by
  rcases open_slice Tryd.underlying30 h with ⟨hcs, _⟩ | ⟨x, len, cap, m, n, D, Pl, hcs, _, hl, hm, hmm, _, hx⟩
  · simp at hcs
    subst hcs
    exact ⟨[], ⟨none, 0, rfl, .inl rfl⟩, by simp, by simp⟩
  · simp at hcs
    subst hcs
    have hlm : len ≤ m := by rw [hmm]; split <;> omega
    have each : ∀ i, i < len → ∃ r : Ru, (w.cell? (x.add (i * 5)) = some (.string r.1) ∧ w.cell? (x.add (i * 5 + 1)) = some (.string r.2.1) ∧ w.cell? (x.add (i * 5 + 2)) = some (.string r.2.2.1) ∧ w.cell? (x.add (i * 5 + 3)) = some (.string r.2.2.2.1) ∧ w.cell? (x.add (i * 5 + 4)) = some (.int .i64 r.2.2.2.2)) ∧ Fit1 r := by
      intro i hi
      obtain ⟨cs', h1, h2⟩ := hx i (by omega)
      rw [lwr_cells] at h1
      obtain ⟨_, hlen, hcell⟩ := World.cells?_some h1
      obtain ⟨xs, k, hk, hxy, _, hxl, hfl⟩ := DataW.trod_struct Tryd.underlying61 h2
      match cs', hlen with
      | [v0, v1, v2, v3, v4], _ =>
        have g0 := hfl 0 _ rfl
        have g1 := hfl 1 _ rfl
        have g2 := hfl 2 _ rfl
        have g3 := hfl 3 _ rfl
        have g4 := hfl 4 _ rfl
        simp [str_cells, i64_cells] at g0 g1 g2 g3 g4
        have e0 := hcell 0 (by omega)
        have e1 := hcell 1 (by omega)
        have e2 := hcell 2 (by omega)
        have e3 := hcell 3 (by omega)
        have e4 := hcell 4 (by omega)
        rw [add_add] at e0 e1 e2 e3 e4
        have j0 : ∃ y, DataW.trod enc Tryd.prog w base spare held k 9 [v0] = some y := by
          match xs, hxl with
          | [y0, y1, y2, y3, y4], _ => exact ⟨_, g0⟩
        have j1 : ∃ y, DataW.trod enc Tryd.prog w base spare held k 9 [v1] = some y := by
          match xs, hxl with
          | [y0, y1, y2, y3, y4], _ => exact ⟨_, g1⟩
        have j2 : ∃ y, DataW.trod enc Tryd.prog w base spare held k 9 [v2] = some y := by
          match xs, hxl with
          | [y0, y1, y2, y3, y4], _ => exact ⟨_, g2⟩
        have j3 : ∃ y, DataW.trod enc Tryd.prog w base spare held k 9 [v3] = some y := by
          match xs, hxl with
          | [y0, y1, y2, y3, y4], _ => exact ⟨_, g3⟩
        have j4 : ∃ y, DataW.trod enc Tryd.prog w base spare held k 2 [v4] = some y := by
          match xs, hxl with
          | [y0, y1, y2, y3, y4], _ => exact ⟨_, g4⟩
        obtain ⟨_, j0⟩ := j0
        obtain ⟨_, j1⟩ := j1
        obtain ⟨_, j2⟩ := j2
        obtain ⟨_, j3⟩ := j3
        obtain ⟨_, j4⟩ := j4
        obtain ⟨s0, q0, _, z0⟩ := DataW.trod_string Tryd.underlying9 j0
        obtain ⟨s1, q1, _, z1⟩ := DataW.trod_string Tryd.underlying9 j1
        obtain ⟨s2, q2, _, z2⟩ := DataW.trod_string Tryd.underlying9 j2
        obtain ⟨s3, q3, _, z3⟩ := DataW.trod_string Tryd.underlying9 j3
        obtain ⟨s4, q4, _⟩ := DataW.trod_int Tryd.underlying2 j4
        simp at q0 q1 q2 q3 q4
        subst q0 q1 q2 q3 q4
        unfold maxLen at z0 z1 z2 z3
        refine ⟨(s0, s1, s2, s3, s4), ⟨by simpa using e0, by simpa using e1, by simpa using e2, by simpa using e3, by simpa using e4⟩, ?_⟩
        unfold Fit1
        simp only
        omega
    obtain ⟨R, hR⟩ := choose_lt each
    have hlen : ((List.range len).map R).length = len := by simp
    have hg : ∀ i, i < len → gr ((List.range len).map R) i = R i := fun i hi => by simp [gr, List.getD, hi]
    refine ⟨(List.range len).map R, ⟨some x, cap, by rw [hlen], ?_⟩, by rw [hlen]; omega, fun i hi => ?_⟩
    · by_cases h0 : len = 0
      · exact .inl (List.length_eq_zero_iff.1 (by omega))
      · have hR0 : w.cell? (x.add 0) = some (.string (R 0).1) := (hR 0 (by omega)).1.1
        obtain ⟨b, off, rfl⟩ := add_spot hR0
        have hb := block_lt_of_cell hR0
        rw [addr_add] at hb
        refine .inr ⟨b, off, rfl, Nat.zero_le _, hb, fun i hi => ?_⟩
        rw [hlen] at hi
        obtain ⟨⟨t0, t1, t2, t3, t4⟩, _⟩ := hR i hi
        rw [addr_add] at t0 t1 t2 t3 t4
        rw [hg i hi]
        exact ⟨t0, t1, t2, t3, t4⟩
    · rw [hlen] at hi
      rw [hg i hi]
      exact (hR i hi).2
set_option maxRecDepth 100000 in
theorem open_passes {v : Value} {d : DataW H} {ps : List MemPlace} (a : Option Addr) (len cap : Nat) (hv : v = .slice a len cap) (h : DataW.Trod enc Tryd.prog w base spare held 22 v d ps) : ∃ P, PaAt 0 w v P ∧ FitP P := by
  subst hv
  obtain ⟨fuel, hf⟩ := h
  rcases open_slice Tryd.underlying22 hf with ⟨hcs, _⟩ | ⟨x, l, c, m, n, D, Pl, hcs, _, hl, hm, hmm, _, hx⟩
  · simp [Value.cells] at hcs
    obtain ⟨rfl, rfl, rfl⟩ := hcs
    exact ⟨[], ⟨none, 0, rfl, .inl rfl⟩, by simp, by simp⟩
  · simp [Value.cells] at hcs
    obtain ⟨rfl, rfl, rfl⟩ := hcs
    have hlm : len ≤ m := by rw [hmm]; split <;> omega
    have each : ∀ i, i < len → ∃ r : Pa, (∃ u, w.cell? (x.add (i * 2)) = some u ∧ RuAt 0 w u r.1 ∧ w.cell? (x.add (i * 2 + 1)) = some (.int .i64 r.2)) ∧ FitR r.1 := by
      intro i hi
      obtain ⟨cs', h1, h2⟩ := hx i (by omega)
      rw [lpass_cells] at h1
      obtain ⟨_, hlen, hcell⟩ := World.cells?_some h1
      obtain ⟨xs, k, hk, hxy, _, hxl, hfl⟩ := DataW.trod_struct Tryd.underlying32 h2
      match cs', hlen with
      | [v0, v1], _ =>
        have g0 := hfl 0 _ rfl
        have g1 := hfl 1 _ rfl
        simp [lwrs_cells, i64_cells] at g0 g1
        have e0 := hcell 0 (by omega)
        have e1 := hcell 1 (by omega)
        rw [add_add] at e0 e1
        have j0 : ∃ y, DataW.trod enc Tryd.prog w base spare held k 30 [v0] = some y := by
          match xs, hxl with
          | [y0, y1], _ => exact ⟨_, g0⟩
        have j1 : ∃ y, DataW.trod enc Tryd.prog w base spare held k 2 [v1] = some y := by
          match xs, hxl with
          | [y0, y1], _ => exact ⟨_, g1⟩
        obtain ⟨_, j0⟩ := j0
        obtain ⟨_, j1⟩ := j1
        obtain ⟨L, q0, hL, hF⟩ := rules_cell j0
        obtain ⟨s1, q1, _⟩ := DataW.trod_int Tryd.underlying2 j1
        simp at q1
        subst q1
        unfold maxLen at hL
        exact ⟨(L, s1), ⟨v0, by simpa using e0, q0, by simpa using e1⟩, by show L.length ≤ _; omega, hF⟩
    obtain ⟨R, hR⟩ := choose_lt each
    have hlen : ((List.range len).map R).length = len := by simp
    have hg : ∀ i, i < len → gp ((List.range len).map R) i = R i := fun i hi => by simp [gp, List.getD, hi]
    have hmx : len ≤ 9223372036854775807 := by unfold maxLen at *; omega
    refine ⟨(List.range len).map R, ⟨some x, cap, by rw [hlen], ?_⟩, by rw [hlen]; exact hmx, fun i hi => ?_⟩
    · by_cases h0 : len = 0
      · exact .inl (List.length_eq_zero_iff.1 (by omega))
      · obtain ⟨u0, hR0, _⟩ := (hR 0 (by omega)).1
        obtain ⟨b, off, rfl⟩ := add_spot hR0
        have hb := block_lt_of_cell hR0
        rw [addr_add] at hb
        refine .inr ⟨b, off, rfl, Nat.zero_le _, hb, fun i hi => ?_⟩
        rw [hlen] at hi
        obtain ⟨⟨u, t1, t2, t3⟩, _⟩ := hR i hi
        rw [addr_add] at t1 t3
        rw [hg i hi]
        exact ⟨u, t1, t2, t3⟩
    · rw [hlen] at hi
      rw [hg i hi]
      exact (hR i hi).2
end
end Go.Proofs.YtfjnjednliacdaaDoor.Pas
