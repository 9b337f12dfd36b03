/- Arguments that hold spans, opened. -/
import Derived.Test.YtbecklokapcgbaaDoorTlrB
import Derived.ProofKit
import Derived.OpenShut
import Derived.ShutString
import Derived.ChangeOld
import Derived.Deep.Slices
namespace Go.Proofs.YtbecklokapcgbaaDoor
namespace Tlr
open Go.ChangeShapes Go.WideShapes Go.ChangeAt Go.RowKit Go.Deep
open Wrd (Tl tlx TlAt)
section
variable {H : Type} {enc : TypeId × Value → H} {w : World} {base : Nat} {spare : Nat → Bool} {held : Bool}
theorem lspan_cells : Tryd.prog.cellsOf 40 = 3 := by kernel_rfl
theorem int_cells : Tryd.prog.cellsOf 2 = 1 := by kernel_rfl
theorem bool_cells : Tryd.prog.cellsOf 4 = 1 := by kernel_rfl
theorem addr_add (b off i : Nat) : (⟨b, off, none⟩ : Addr).add i = ⟨b, off + i, none⟩ := by unfold Addr.add; split <;> simp_all
theorem add_spot {w : World} {a : Addr} {v : Value} (h : w.cell? (a.add 0) = some v) : ∃ b off, a = ⟨b, off, none⟩ := by
  obtain ⟨b, off, spot⟩ := a
  have hspot : spot = none := by simpa [Addr.add] using World.cell?_spot h
  exact ⟨b, off, by rw [hspot]⟩
set_option maxRecDepth 100000 in
theorem open_tailors {v : Value} {d : DataW H} {ps : List MemPlace} (a : Option Addr) (len cap : Nat) (hv : v = .slice a len cap) (h : DataW.Trod enc Tryd.prog w base spare held 22 v d ps) : ∃ L, TlAt w v L ∧ L.length ≤ maxLen := by
  subst hv
  obtain ⟨fuel, hf⟩ := h
  rcases open_slice Tryd.underlying22 hf with ⟨hcs, _⟩ | ⟨x, l, c, m, n, D, Pl, hcs, _, hl, hm, hmm, _, hx⟩
  · simp [Value.cells] at hcs
    obtain ⟨rfl, rfl, rfl⟩ := hcs
    exact ⟨[], ⟨none, 0, rfl, .inl rfl⟩, by simp⟩
  · simp [Value.cells] at hcs
    obtain ⟨rfl, rfl, rfl⟩ := hcs
    have hlm : len ≤ m := by rw [hmm]; split <;> omega
    have each : ∀ i, i < len → ∃ r : Tl, w.cell? (x.add (i * 3)) = some (.int .i64 r.1) ∧ w.cell? (x.add (i * 3 + 1)) = some (.int .i64 r.2.1) ∧ w.cell? (x.add (i * 3 + 2)) = some (.bool r.2.2) := by
      intro i hi
      obtain ⟨cs', h1, h2⟩ := hx i (by omega)
      rw [lspan_cells] at h1
      obtain ⟨_, hlen, hcell⟩ := World.cells?_some h1
      obtain ⟨xs, k, hk, hxy, _, hxl, hfl⟩ := DataW.trod_struct Tryd.underlying40 h2
      match cs', hlen with
      | [v0, v1, v2], _ =>
        have g0 := hfl 0 _ rfl
        have g1 := hfl 1 _ rfl
        have g2 := hfl 2 _ rfl
        simp [int_cells, bool_cells] at g0 g1 g2
        have e0 := hcell 0 (by omega)
        have e1 := hcell 1 (by omega)
        have e2 := hcell 2 (by omega)
        rw [add_add] at e0 e1 e2
        have j0 : ∃ y, DataW.trod enc Tryd.prog w base spare held k 2 [v0] = some y := by
          match xs, hxl with
          | [y0, y1, y2], _ => exact ⟨_, g0⟩
        have j1 : ∃ y, DataW.trod enc Tryd.prog w base spare held k 2 [v1] = some y := by
          match xs, hxl with
          | [y0, y1, y2], _ => exact ⟨_, g1⟩
        have j2 : ∃ y, DataW.trod enc Tryd.prog w base spare held k 4 [v2] = some y := by
          match xs, hxl with
          | [y0, y1, y2], _ => exact ⟨_, g2⟩
        obtain ⟨_, j0⟩ := j0
        obtain ⟨_, j1⟩ := j1
        obtain ⟨_, j2⟩ := j2
        obtain ⟨n0, q0, _⟩ := DataW.trod_int Tryd.underlying2 j0
        obtain ⟨n1, q1, _⟩ := DataW.trod_int Tryd.underlying2 j1
        obtain ⟨n2, q2, _⟩ := DataW.trod_bool Tryd.underlying4 j2
        simp at q0 q1 q2
        subst q0 q1 q2
        exact ⟨(n0, n1, n2), by simpa using e0, by simpa using e1, by simpa using e2⟩
    have : Inhabited Tl := ⟨t0⟩
    obtain ⟨R, hR⟩ := choose_lt each
    have hlen : ((List.range len).map R).length = len := by simp
    have hg : ∀ i, i < len → tlx ((List.range len).map R) i = R i := fun i hi => by
      show ((List.range len).map R).getD i t0 = R i
      simp [List.getD, hi]
    refine ⟨(List.range len).map R, ⟨some x, cap, by rw [hlen], ?_⟩, by rw [hlen]; omega⟩
    by_cases h0 : len = 0
    · exact .inl (List.length_eq_zero_iff.1 (by omega))
    · have hR0 : w.cell? (x.add 0) = some (.int .i64 (R 0).1) := (hR 0 (by omega)).1
      obtain ⟨b, off, rfl⟩ := add_spot hR0
      have hb := block_lt_of_cell hR0
      rw [addr_add] at hb
      refine .inr ⟨b, off, rfl, hb, fun i hi => ?_⟩
      rw [hlen] at hi
      have := hR i hi
      rw [addr_add, addr_add, addr_add] at this
      rw [hg i hi]
      exact this
end
end Tlr
end Go.Proofs.YtbecklokapcgbaaDoor
