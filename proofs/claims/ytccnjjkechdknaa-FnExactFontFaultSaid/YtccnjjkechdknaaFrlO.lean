/- Arguments that hold rules or glyphs, opened. -/
import Derived.Test.YtccnjjkechdknaaFrlA
import Derived.ProofKit
import Derived.OpenShut
import Derived.ShutString
import Derived.ChangeOld
import Derived.Deep.Slices
namespace Go.Proofs.Ytccnjjkechdknaa.Frl
open Go.ChangeShapes Go.WideShapes Go.ChangeAt Go.RowKit Go.Deep
set_option linter.unusedVariables false
section
variable {H : Type} {enc : TypeId × Value → H} {w : World} {base : Nat} {held : Bool}
theorem int_cells : Try.prog.cellsOf 2 = 1 := by kernel_rfl
theorem lrule_cells : Try.prog.cellsOf 65 = 4 := by kernel_rfl
theorem ints_cells1 : Try.prog.cellsOf 63 = 1 := by kernel_rfl
theorem addr_add (b off i : Nat) : (⟨b, off, none⟩ : Addr).add i = ⟨b, off + i, none⟩ := by unfold Addr.add; split <;> simp_all
theorem add_spot {w : World} {a : Addr} {v : Value} (h : w.cell? (a.add 0) = some v) : ∃ b off, a = ⟨b, off, none⟩ := by
  obtain ⟨b, off, spot⟩ := a
  have hspot : spot = none := by simpa [Addr.add] using World.cell?_spot h
  exact ⟨b, off, by rw [hspot]⟩
theorem ints_cell {fuel : Nat} {u : Value} {y : DataW H × List MemPlace} (h : DataW.trod enc Try.prog w base (fun _ => true) held fuel 63 [u] = some y) : ∃ L, IntsAt w u L ∧ L.length ≤ maxLen := by
  rcases open_ints Try.underlying63 Try.underlying2 int_cells h with ⟨hcs, _⟩ | ⟨x, len, cap, zs, hcs, _, hl, hm, hz, _, hcell, _⟩
  · simp at hcs
    subst hcs
    exact ⟨[], ⟨none, 0, rfl, .inl rfl⟩, by simp⟩
  · simp at hcs
    subst hcs
    have hz' : zs.length = cap := by simpa using hz
    have hlen : (zs.take len).length = len := by simp; omega
    refine ⟨zs.take len, ⟨some x, cap, by rw [hlen], ?_⟩, by rw [hlen]; omega⟩
    by_cases h0 : len = 0
    · exact .inl (List.length_eq_zero_iff.1 (by omega))
    · obtain ⟨b, off, rfl⟩ := add_spot (hcell 0 (by omega))
      have hb := block_lt_of_cell (hcell 0 (by omega))
      rw [addr_add] at hb
      refine .inr ⟨b, off, rfl, hb, fun i hi => ?_⟩
      have := hcell i (by omega)
      rw [addr_add] at this
      rw [this]
      have e : nth (zs.take len) i = zs.getD i 0 := by simp [nth, List.getD, show i < len by omega]
      rw [e]
set_option maxRecDepth 100000 in
theorem open_rules {v : Value} {d : DataW H} {ps : List MemPlace} (a : Option Addr) (len cap : Nat) (hv : v = .slice a len cap) (h : DataW.Trod enc Try.prog w base (fun _ => true) held 23 v d ps) : ∃ n Q, RuI w v n Q ∧ n ≤ maxLen ∧ AllB Q maxLen := by
  subst hv
  obtain ⟨fuel, hf⟩ := h
  rcases open_slice Try.underlying23 hf with ⟨hcs, _⟩ | ⟨x, l, c, m, n, D, Pl, hcs, _, hl, hm, hmm, _, hx⟩
  · simp [Value.cells] at hcs
    obtain ⟨rfl, rfl, rfl⟩ := hcs
    exact ⟨0, [], ⟨rfl, none, 0, rfl, .inl rfl⟩, by simp, fun k => by simp [qn]⟩
  · simp [Value.cells] at hcs
    obtain ⟨rfl, rfl, rfl⟩ := hcs
    have hlm : len ≤ m := by rw [hmm]; split <;> omega
    have each : ∀ k, k < len * 4 → ∃ L : List Int, (∃ u, w.cell? (x.add k) = some u ∧ IntsAt w u L) ∧ L.length ≤ maxLen := by
      intro kk hkk
      obtain ⟨cs', h1, h2⟩ := hx (kk / 4) (by omega)
      rw [lrule_cells] at h1
      obtain ⟨_, hlen, hcell⟩ := World.cells?_some h1
      obtain ⟨xs, k, hk, hxy, _, hxl, hfl⟩ := DataW.trod_struct Try.underlying65 h2
      match cs', hlen with
      | [v0, v1, v2, v3], _ =>
        have g0 := hfl 0 _ rfl
        have g1 := hfl 1 _ rfl
        have g2 := hfl 2 _ rfl
        have g3 := hfl 3 _ rfl
        simp [ints_cells1] at g0 g1 g2 g3
        have e0 := hcell 0 (by omega)
        have e1 := hcell 1 (by omega)
        have e2 := hcell 2 (by omega)
        have e3 := hcell 3 (by omega)
        rw [add_add] at e0 e1 e2 e3
        have j0 : ∃ y, DataW.trod enc Try.prog w base (fun _ => true) held k 63 [v0] = some y := by
          match xs, hxl with
          | [y0, y1, y2, y3], _ => exact ⟨_, g0⟩
        have j1 : ∃ y, DataW.trod enc Try.prog w base (fun _ => true) held k 63 [v1] = some y := by
          match xs, hxl with
          | [y0, y1, y2, y3], _ => exact ⟨_, g1⟩
        have j2 : ∃ y, DataW.trod enc Try.prog w base (fun _ => true) held k 63 [v2] = some y := by
          match xs, hxl with
          | [y0, y1, y2, y3], _ => exact ⟨_, g2⟩
        have j3 : ∃ y, DataW.trod enc Try.prog w base (fun _ => true) held k 63 [v3] = some y := by
          match xs, hxl with
          | [y0, y1, y2, y3], _ => exact ⟨_, g3⟩
        obtain ⟨_, j0⟩ := j0
        obtain ⟨_, j1⟩ := j1
        obtain ⟨_, j2⟩ := j2
        obtain ⟨_, j3⟩ := j3
        obtain ⟨L0, q0, b0⟩ := ints_cell j0
        obtain ⟨L1, q1, b1⟩ := ints_cell j1
        obtain ⟨L2, q2, b2⟩ := ints_cell j2
        obtain ⟨L3, q3, b3⟩ := ints_cell j3
        have hw : kk = kk / 4 * 4 + 0 ∨ kk = kk / 4 * 4 + 1 ∨ kk = kk / 4 * 4 + 2 ∨ kk = kk / 4 * 4 + 3 := by omega
        rcases hw with hw | hw | hw | hw
        · refine ⟨L0, ⟨v0, ?_, q0⟩, b0⟩
          rw [hw]; simpa using e0
        · refine ⟨L1, ⟨v1, ?_, q1⟩, b1⟩
          rw [hw]; simpa using e1
        · refine ⟨L2, ⟨v2, ?_, q2⟩, b2⟩
          rw [hw]; simpa using e2
        · refine ⟨L3, ⟨v3, ?_, q3⟩, b3⟩
          rw [hw]; simpa using e3
    obtain ⟨R, hR⟩ := choose_lt each
    have hlen : ((List.range (len * 4)).map R).length = len * 4 := by simp
    have hg : ∀ i, i < len * 4 → qn ((List.range (len * 4)).map R) i = R i := fun i hi => by simp [qn, List.getD, hi]
    refine ⟨len, (List.range (len * 4)).map R, ⟨hlen, some x, cap, rfl, ?_⟩, by omega, fun i => ?_⟩
    · by_cases h0 : len = 0
      · exact .inl h0
      · obtain ⟨u, hu, _⟩ := (hR 0 (by omega)).1
        obtain ⟨b, off, rfl⟩ := add_spot hu
        have hb := block_lt_of_cell hu
        rw [addr_add] at hb
        refine .inr ⟨b, off, rfl, hb, fun i hi => ?_⟩
        obtain ⟨⟨u, t1, t2⟩, _⟩ := hR i hi
        rw [addr_add] at t1
        rw [hg i hi]
        exact ⟨u, t1, t2⟩
    · by_cases hi : i < len * 4
      · rw [hg i hi]
        exact (hR i hi).2
      · have : qn ((List.range (len * 4)).map R) i = [] := by unfold qn; rw [List.getD_eq_getElem?_getD, List.getElem?_eq_none (by omega)]; rfl
        rw [this]; simp
end
end Go.Proofs.Ytccnjjkechdknaa.Frl
