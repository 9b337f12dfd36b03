/- Several texts in one. -/
import Derived.Test.YtfldomifooihlaaGreatDoorHA
import Derived.ProofKit
import Derived.OpenShut
import Derived.ShutString
import Derived.ChangeOld
import Derived.Deep.Slices
import Derived.Test.YtfldomifooihlaaGreatDoorHF1
/- Arguments that hold spans, opened. -/
namespace Go.Proofs.YtfldomifooihlaaGreatDoor
open Go.ChangeShapes Go.WideShapes Go.ChangeAt Go.RowKit Go.Deep
section
variable {H : Type} {enc : TypeId × Value → H} {w : World} {base : Nat} {spare : Nat → Bool} {held : Bool}
theorem lspan_cells : Tryz.prog.cellsOf 88 = 3 := by kernel_rfl
theorem int_cells : Tryz.prog.cellsOf 2 = 1 := by kernel_rfl
theorem addr_add (b off i : Nat) : (⟨b, off, none⟩ : Addr).add i = ⟨b, off + i, none⟩ := by unfold Addr.add; split <;> simp_all
theorem add_spot {w : World} {a : Addr} {v : Value} (h : w.cell? (a.add 0) = some v) : ∃ b off, a = ⟨b, off, none⟩ := by
  obtain ⟨b, off, spot⟩ := a
  have hspot : spot = none := by simpa [Addr.add] using World.cell?_spot h
  exact ⟨b, off, by rw [hspot]⟩
set_option maxRecDepth 100000 in
theorem open_spans {v : Value} {d : DataW H} {ps : List MemPlace} (a : Option Addr) (len cap : Nat) (hv : v = .slice a len cap) (h : DataW.Trod enc Tryz.prog w base spare held 22 v d ps) : ∃ L, SpsAt w v L ∧ L.length ≤ maxLen := by
  subst hv
  obtain ⟨fuel, hf⟩ := h
  rcases open_slice Tryz.underlying22 hf with ⟨hcs, _⟩ | ⟨x, l, c, m, n, D, Pl, hcs, _, hl, hm, hmm, _, hx⟩
  · simp [Value.cells] at hcs
    obtain ⟨rfl, rfl, rfl⟩ := hcs
    exact ⟨[], ⟨none, 0, rfl, .inl rfl⟩, by simp⟩
  · simp [Value.cells] at hcs
    obtain ⟨rfl, rfl, rfl⟩ := hcs
    have hlm : len ≤ m := by rw [hmm]; split <;> omega
    have each : ∀ i, i < len → ∃ r : Sp, w.cell? (x.add (i * 3)) = some (.int .i64 r.1) ∧ w.cell? (x.add (i * 3 + 1)) = some (.int .i64 r.2.1) ∧ w.cell? (x.add (i * 3 + 2)) = some (.int .i64 r.2.2) := by
      intro i hi
      obtain ⟨cs', h1, h2⟩ := hx i (by omega)
      rw [lspan_cells] at h1
      obtain ⟨_, hlen, hcell⟩ := World.cells?_some h1
      obtain ⟨xs, k, hk, hxy, _, hxl, hfl⟩ := DataW.trod_struct Tryz.underlying88 h2
      match cs', hlen with
      | [v0, v1, v2], _ =>
        have g0 := hfl 0 _ rfl
        have g1 := hfl 1 _ rfl
        have g2 := hfl 2 _ rfl
        simp [int_cells] at g0 g1 g2
        have e0 := hcell 0 (by omega)
        have e1 := hcell 1 (by omega)
        have e2 := hcell 2 (by omega)
        rw [add_add] at e0 e1 e2
        have j0 : ∃ y, DataW.trod enc Tryz.prog w base spare held k 2 [v0] = some y := by
          match xs, hxl with
          | [y0, y1, y2], _ => exact ⟨_, g0⟩
        have j1 : ∃ y, DataW.trod enc Tryz.prog w base spare held k 2 [v1] = some y := by
          match xs, hxl with
          | [y0, y1, y2], _ => exact ⟨_, g1⟩
        have j2 : ∃ y, DataW.trod enc Tryz.prog w base spare held k 2 [v2] = some y := by
          match xs, hxl with
          | [y0, y1, y2], _ => exact ⟨_, g2⟩
        obtain ⟨_, j0⟩ := j0
        obtain ⟨_, j1⟩ := j1
        obtain ⟨_, j2⟩ := j2
        obtain ⟨n0, q0, _⟩ := DataW.trod_int Tryz.underlying2 j0
        obtain ⟨n1, q1, _⟩ := DataW.trod_int Tryz.underlying2 j1
        obtain ⟨n2, q2, _⟩ := DataW.trod_int Tryz.underlying2 j2
        simp at q0 q1 q2
        subst q0 q1 q2
        exact ⟨(n0, n1, n2), by simpa using e0, by simpa using e1, by simpa using e2⟩
    obtain ⟨R, hR⟩ := choose_lt each
    have hlen : ((List.range len).map R).length = len := by simp
    have hg : ∀ i, i < len → gx ((List.range len).map R) i = R i := fun i hi => by simp [gx, List.getD, hi]
    refine ⟨(List.range len).map R, ⟨some x, cap, by rw [hlen], ?_⟩, by rw [hlen]; omega⟩
    by_cases h0 : len = 0
    · exact .inl (List.length_eq_zero_iff.1 (by omega))
    · have hR0 : w.cell? (x.add 0) = some (.int .i64 (R 0).1) := (hR 0 (by omega)).1
      obtain ⟨b, off, rfl⟩ := add_spot hR0
      have hb := block_lt_of_cell hR0
      rw [addr_add] at hb
      refine .inr ⟨b, off, rfl, hb, fun i hi => ?_⟩
      rw [hlen] at hi
      have := hR i hi
      rw [addr_add, addr_add, addr_add] at this
      rw [hg i hi]
      exact this
end
end Go.Proofs.YtfldomifooihlaaGreatDoor
/- Arguments that hold spans, opened. -/
namespace Go.Proofs.YtfldomifooihlaaGreatDoor.Krn
open Go.ChangeShapes Go.WideShapes Go.ChangeAt Go.RowKit Go.Deep
section
variable {H : Type} {enc : TypeId × Value → H} {w : World} {base : Nat} {spare : Nat → Bool} {held : Bool}
theorem lspan_cells : Tryz.prog.cellsOf 91 = 3 := by kernel_rfl
theorem int_cells : Tryz.prog.cellsOf 2 = 1 := by kernel_rfl
theorem addr_add (b off i : Nat) : (⟨b, off, none⟩ : Addr).add i = ⟨b, off + i, none⟩ := by unfold Addr.add; split <;> simp_all
theorem add_spot {w : World} {a : Addr} {v : Value} (h : w.cell? (a.add 0) = some v) : ∃ b off, a = ⟨b, off, none⟩ := by
  obtain ⟨b, off, spot⟩ := a
  have hspot : spot = none := by simpa [Addr.add] using World.cell?_spot h
  exact ⟨b, off, by rw [hspot]⟩
set_option maxRecDepth 100000 in
theorem open_spans {v : Value} {d : DataW H} {ps : List MemPlace} (a : Option Addr) (len cap : Nat) (hv : v = .slice a len cap) (h : DataW.Trod enc Tryz.prog w base spare held 24 v d ps) : ∃ L, SpsAt w v L ∧ L.length ≤ maxLen := by
  subst hv
  obtain ⟨fuel, hf⟩ := h
  rcases open_slice Tryz.underlying24 hf with ⟨hcs, _⟩ | ⟨x, l, c, m, n, D, Pl, hcs, _, hl, hm, hmm, _, hx⟩
  · simp [Value.cells] at hcs
    obtain ⟨rfl, rfl, rfl⟩ := hcs
    exact ⟨[], ⟨none, 0, rfl, .inl rfl⟩, by simp⟩
  · simp [Value.cells] at hcs
    obtain ⟨rfl, rfl, rfl⟩ := hcs
    have hlm : len ≤ m := by rw [hmm]; split <;> omega
    have each : ∀ i, i < len → ∃ r : Sp, w.cell? (x.add (i * 3)) = some (.int .i64 r.1) ∧ w.cell? (x.add (i * 3 + 1)) = some (.int .i64 r.2.1) ∧ w.cell? (x.add (i * 3 + 2)) = some (.int .i64 r.2.2) := by
      intro i hi
      obtain ⟨cs', h1, h2⟩ := hx i (by omega)
      rw [lspan_cells] at h1
      obtain ⟨_, hlen, hcell⟩ := World.cells?_some h1
      obtain ⟨xs, k, hk, hxy, _, hxl, hfl⟩ := DataW.trod_struct Tryz.underlying91 h2
      match cs', hlen with
      | [v0, v1, v2], _ =>
        have g0 := hfl 0 _ rfl
        have g1 := hfl 1 _ rfl
        have g2 := hfl 2 _ rfl
        simp [int_cells] at g0 g1 g2
        have e0 := hcell 0 (by omega)
        have e1 := hcell 1 (by omega)
        have e2 := hcell 2 (by omega)
        rw [add_add] at e0 e1 e2
        have j0 : ∃ y, DataW.trod enc Tryz.prog w base spare held k 2 [v0] = some y := by
          match xs, hxl with
          | [y0, y1, y2], _ => exact ⟨_, g0⟩
        have j1 : ∃ y, DataW.trod enc Tryz.prog w base spare held k 2 [v1] = some y := by
          match xs, hxl with
          | [y0, y1, y2], _ => exact ⟨_, g1⟩
        have j2 : ∃ y, DataW.trod enc Tryz.prog w base spare held k 2 [v2] = some y := by
          match xs, hxl with
          | [y0, y1, y2], _ => exact ⟨_, g2⟩
        obtain ⟨_, j0⟩ := j0
        obtain ⟨_, j1⟩ := j1
        obtain ⟨_, j2⟩ := j2
        obtain ⟨n0, q0, _⟩ := DataW.trod_int Tryz.underlying2 j0
        obtain ⟨n1, q1, _⟩ := DataW.trod_int Tryz.underlying2 j1
        obtain ⟨n2, q2, _⟩ := DataW.trod_int Tryz.underlying2 j2
        simp at q0 q1 q2
        subst q0 q1 q2
        exact ⟨(n0, n1, n2), by simpa using e0, by simpa using e1, by simpa using e2⟩
    obtain ⟨R, hR⟩ := choose_lt each
    have hlen : ((List.range len).map R).length = len := by simp
    have hg : ∀ i, i < len → gx ((List.range len).map R) i = R i := fun i hi => by simp [gx, List.getD, hi]
    refine ⟨(List.range len).map R, ⟨some x, cap, by rw [hlen], ?_⟩, by rw [hlen]; omega⟩
    by_cases h0 : len = 0
    · exact .inl (List.length_eq_zero_iff.1 (by omega))
    · have hR0 : w.cell? (x.add 0) = some (.int .i64 (R 0).1) := (hR 0 (by omega)).1
      obtain ⟨b, off, rfl⟩ := add_spot hR0
      have hb := block_lt_of_cell hR0
      rw [addr_add] at hb
      refine .inr ⟨b, off, rfl, hb, fun i hi => ?_⟩
      rw [hlen] at hi
      have := hR i hi
      rw [addr_add, addr_add, addr_add] at this
      rw [hg i hi]
      exact this
end
end Go.Proofs.YtfldomifooihlaaGreatDoor.Krn
/- Arguments that hold rules or glyphs, opened. -/
namespace Go.Proofs.YtfldomifooihlaaGreatDoor.Frl
open Go.ChangeShapes Go.WideShapes Go.ChangeAt Go.RowKit Go.Deep
set_option linter.unusedVariables false
section
variable {H : Type} {enc : TypeId × Value → H} {w : World} {base : Nat} {held : Bool}
theorem int_cells : Tryz.prog.cellsOf 2 = 1 := by kernel_rfl
theorem lrule_cells : Tryz.prog.cellsOf 71 = 4 := by kernel_rfl
theorem ints_cells1 : Tryz.prog.cellsOf 69 = 1 := by kernel_rfl
theorem addr_add (b off i : Nat) : (⟨b, off, none⟩ : Addr).add i = ⟨b, off + i, none⟩ := by unfold Addr.add; split <;> simp_all
theorem add_spot {w : World} {a : Addr} {v : Value} (h : w.cell? (a.add 0) = some v) : ∃ b off, a = ⟨b, off, none⟩ := by
  obtain ⟨b, off, spot⟩ := a
  have hspot : spot = none := by simpa [Addr.add] using World.cell?_spot h
  exact ⟨b, off, by rw [hspot]⟩
theorem ints_cell {fuel : Nat} {u : Value} {y : DataW H × List MemPlace} (h : DataW.trod enc Tryz.prog w base (fun _ => true) held fuel 69 [u] = some y) : ∃ L, IntsAt w u L ∧ L.length ≤ maxLen := by
  rcases open_ints Tryz.underlying69 Tryz.underlying2 int_cells h with ⟨hcs, _⟩ | ⟨x, len, cap, zs, hcs, _, hl, hm, hz, _, hcell, _⟩
  · simp at hcs
    subst hcs
    exact ⟨[], ⟨none, 0, rfl, .inl rfl⟩, by simp⟩
  · simp at hcs
    subst hcs
    have hz' : zs.length = cap := by simpa using hz
    have hlen : (zs.take len).length = len := by simp; omega
    refine ⟨zs.take len, ⟨some x, cap, by rw [hlen], ?_⟩, by rw [hlen]; omega⟩
    by_cases h0 : len = 0
    · exact .inl (List.length_eq_zero_iff.1 (by omega))
    · obtain ⟨b, off, rfl⟩ := add_spot (hcell 0 (by omega))
      have hb := block_lt_of_cell (hcell 0 (by omega))
      rw [addr_add] at hb
      refine .inr ⟨b, off, rfl, hb, fun i hi => ?_⟩
      have := hcell i (by omega)
      rw [addr_add] at this
      rw [this]
      have e : nth (zs.take len) i = zs.getD i 0 := by simp [nth, List.getD, show i < len by omega]
      rw [e]
set_option maxRecDepth 100000 in
theorem open_rules {v : Value} {d : DataW H} {ps : List MemPlace} (a : Option Addr) (len cap : Nat) (hv : v = .slice a len cap) (h : DataW.Trod enc Tryz.prog w base (fun _ => true) held 23 v d ps) : ∃ n Q, RuI w v n Q ∧ n ≤ maxLen ∧ AllB Q maxLen := by
  subst hv
  obtain ⟨fuel, hf⟩ := h
  rcases open_slice Tryz.underlying23 hf with ⟨hcs, _⟩ | ⟨x, l, c, m, n, D, Pl, hcs, _, hl, hm, hmm, _, hx⟩
  · simp [Value.cells] at hcs
    obtain ⟨rfl, rfl, rfl⟩ := hcs
    exact ⟨0, [], ⟨rfl, none, 0, rfl, .inl rfl⟩, by simp, fun k => by simp [qn]⟩
  · simp [Value.cells] at hcs
    obtain ⟨rfl, rfl, rfl⟩ := hcs
    have hlm : len ≤ m := by rw [hmm]; split <;> omega
    have each : ∀ k, k < len * 4 → ∃ L : List Int, (∃ u, w.cell? (x.add k) = some u ∧ IntsAt w u L) ∧ L.length ≤ maxLen := by
      intro kk hkk
      obtain ⟨cs', h1, h2⟩ := hx (kk / 4) (by omega)
      rw [lrule_cells] at h1
      obtain ⟨_, hlen, hcell⟩ := World.cells?_some h1
      obtain ⟨xs, k, hk, hxy, _, hxl, hfl⟩ := DataW.trod_struct Tryz.underlying71 h2
      match cs', hlen with
      | [v0, v1, v2, v3], _ =>
        have g0 := hfl 0 _ rfl
        have g1 := hfl 1 _ rfl
        have g2 := hfl 2 _ rfl
        have g3 := hfl 3 _ rfl
        simp [ints_cells1] at g0 g1 g2 g3
        have e0 := hcell 0 (by omega)
        have e1 := hcell 1 (by omega)
        have e2 := hcell 2 (by omega)
        have e3 := hcell 3 (by omega)
        rw [add_add] at e0 e1 e2 e3
        have j0 : ∃ y, DataW.trod enc Tryz.prog w base (fun _ => true) held k 69 [v0] = some y := by
          match xs, hxl with
          | [y0, y1, y2, y3], _ => exact ⟨_, g0⟩
        have j1 : ∃ y, DataW.trod enc Tryz.prog w base (fun _ => true) held k 69 [v1] = some y := by
          match xs, hxl with
          | [y0, y1, y2, y3], _ => exact ⟨_, g1⟩
        have j2 : ∃ y, DataW.trod enc Tryz.prog w base (fun _ => true) held k 69 [v2] = some y := by
          match xs, hxl with
          | [y0, y1, y2, y3], _ => exact ⟨_, g2⟩
        have j3 : ∃ y, DataW.trod enc Tryz.prog w base (fun _ => true) held k 69 [v3] = some y := by
          match xs, hxl with
          | [y0, y1, y2, y3], _ => exact ⟨_, g3⟩
        obtain ⟨_, j0⟩ := j0
        obtain ⟨_, j1⟩ := j1
        obtain ⟨_, j2⟩ := j2
        obtain ⟨_, j3⟩ := j3
        obtain ⟨L0, q0, b0⟩ := ints_cell j0
        obtain ⟨L1, q1, b1⟩ := ints_cell j1
        obtain ⟨L2, q2, b2⟩ := ints_cell j2
        obtain ⟨L3, q3, b3⟩ := ints_cell j3
        have hw : kk = kk / 4 * 4 + 0 ∨ kk = kk / 4 * 4 + 1 ∨ kk = kk / 4 * 4 + 2 ∨ kk = kk / 4 * 4 + 3 := by omega
        rcases hw with hw | hw | hw | hw
        · refine ⟨L0, ⟨v0, ?_, q0⟩, b0⟩
          rw [hw]; simpa using e0
        · refine ⟨L1, ⟨v1, ?_, q1⟩, b1⟩
          rw [hw]; simpa using e1
        · refine ⟨L2, ⟨v2, ?_, q2⟩, b2⟩
          rw [hw]; simpa using e2
        · refine ⟨L3, ⟨v3, ?_, q3⟩, b3⟩
          rw [hw]; simpa using e3
    obtain ⟨R, hR⟩ := choose_lt each
    have hlen : ((List.range (len * 4)).map R).length = len * 4 := by simp
    have hg : ∀ i, i < len * 4 → qn ((List.range (len * 4)).map R) i = R i := fun i hi => by simp [qn, List.getD, hi]
    refine ⟨len, (List.range (len * 4)).map R, ⟨hlen, some x, cap, rfl, ?_⟩, by omega, fun i => ?_⟩
    · by_cases h0 : len = 0
      · exact .inl h0
      · obtain ⟨u, hu, _⟩ := (hR 0 (by omega)).1
        obtain ⟨b, off, rfl⟩ := add_spot hu
        have hb := block_lt_of_cell hu
        rw [addr_add] at hb
        refine .inr ⟨b, off, rfl, hb, fun i hi => ?_⟩
        obtain ⟨⟨u, t1, t2⟩, _⟩ := hR i hi
        rw [addr_add] at t1
        rw [hg i hi]
        exact ⟨u, t1, t2⟩
    · by_cases hi : i < len * 4
      · rw [hg i hi]
        exact (hR i hi).2
      · have : qn ((List.range (len * 4)).map R) i = [] := by unfold qn; rw [List.getD_eq_getElem?_getD, List.getElem?_eq_none (by omega)]; rfl
        rw [this]; simp
end
end Go.Proofs.YtfldomifooihlaaGreatDoor.Frl
/- Arguments that hold a font, opened. -/
namespace Go.Proofs.YtfldomifooihlaaGreatDoor.Fnt
open Go.ChangeShapes Go.WideShapes Go.ChangeAt Go.RowKit Go.Deep
set_option linter.unusedVariables false
section
variable {H : Type} {enc : TypeId × Value → H} {w : World} {base : Nat} {held : Bool}
theorem lspans_cells : Tryz.prog.cellsOf 22 = 1 := by kernel_rfl
theorem lrules_cells : Tryz.prog.cellsOf 23 = 1 := by kernel_rfl
theorem lkerns_cells : Tryz.prog.cellsOf 24 = 1 := by kernel_rfl
theorem lfont_cells : Tryz.prog.cellsOf 26 = 5 := by kernel_rfl
theorem i64_cells : Tryz.prog.cellsOf 2 = 1 := by kernel_rfl
theorem sps_cell {fuel : Nat} {u : Value} {y : DataW H × List MemPlace} (h : DataW.trod enc Tryz.prog w base (fun _ => true) held fuel 22 [u] = some y) : ∃ a c L, u = .slice a L.length c ∧ SpsAt w u L ∧ L.length ≤ maxLen := by
  have hs : ∃ a l c, u = .slice a l c := by
    rcases open_slice Tryz.underlying22 h with ⟨hcs, _⟩ | ⟨x, l, c, m, n, D, Pl, hcs, _⟩
    · simp at hcs; exact ⟨none, 0, 0, hcs⟩
    · simp at hcs; exact ⟨some x, l, c, hcs⟩
  obtain ⟨a, l, c, rfl⟩ := hs
  obtain ⟨d, ps⟩ := y
  obtain ⟨L, h1, h2⟩ := open_spans a l c rfl ⟨fuel, h⟩
  have h1' := h1
  obtain ⟨a', c', e, _⟩ := h1'
  injection e with e1 e2 e3
  subst e2
  exact ⟨a, c, L, rfl, h1, h2⟩
theorem krn_cell {fuel : Nat} {u : Value} {y : DataW H × List MemPlace} (h : DataW.trod enc Tryz.prog w base (fun _ => true) held fuel 24 [u] = some y) : ∃ a c L, u = .slice a L.length c ∧ Krn.SpsAt w u L ∧ L.length ≤ maxLen := by
  have hs : ∃ a l c, u = .slice a l c := by
    rcases open_slice Tryz.underlying24 h with ⟨hcs, _⟩ | ⟨x, l, c, m, n, D, Pl, hcs, _⟩
    · simp at hcs; exact ⟨none, 0, 0, hcs⟩
    · simp at hcs; exact ⟨some x, l, c, hcs⟩
  obtain ⟨a, l, c, rfl⟩ := hs
  obtain ⟨d, ps⟩ := y
  obtain ⟨L, h1, h2⟩ := Krn.open_spans a l c rfl ⟨fuel, h⟩
  have h1' := h1
  obtain ⟨a', c', e, _⟩ := h1'
  injection e with e1 e2 e3
  subst e2
  exact ⟨a, c, L, rfl, h1, h2⟩
theorem rul_cell {fuel : Nat} {u : Value} {y : DataW H × List MemPlace} (h : DataW.trod enc Tryz.prog w base (fun _ => true) held fuel 23 [u] = some y) : ∃ a c n Q, u = .slice a n c ∧ Frl.RuI w u n Q ∧ n ≤ maxLen ∧ Frl.AllB Q maxLen := by
  have hs : ∃ a l c, u = .slice a l c := by
    rcases open_slice Tryz.underlying23 h with ⟨hcs, _⟩ | ⟨x, l, c, m, n, D, Pl, hcs, _⟩
    · simp at hcs; exact ⟨none, 0, 0, hcs⟩
    · simp at hcs; exact ⟨some x, l, c, hcs⟩
  obtain ⟨a, l, c, rfl⟩ := hs
  obtain ⟨d, ps⟩ := y
  obtain ⟨n, Q, h1, h2, h3⟩ := Frl.open_rules a l c rfl ⟨fuel, h⟩
  have h1' := h1
  obtain ⟨_, a', c', e, _⟩ := h1'
  injection e with e1 e2 e3
  subst e2
  exact ⟨a, c, l, Q, rfl, h1, h2, h3⟩
set_option maxRecDepth 100000 in
theorem open_font {b0 : Nat} {r : Reach} {v : Value} {d : DataW H} {ps : List MemPlace} (hval : Value.okWide Tryz.prog w r b0 26 v) (h : DataW.Trod enc Tryz.prog w base (fun _ => true) held 26 v d ps) :
    ∃ wd a1 a2 a3 a4 c1 c2 c3 c4 LW n Q LK LA, v = .agg #[.int .i64 wd, .slice a1 (List.length LW) c1, .slice a2 n c2, .slice a3 (List.length LK) c3, .slice a4 (List.length LA) c4] ∧ SpsAt w (.slice a1 (List.length LW) c1) LW ∧ Frl.RuI w (.slice a2 n c2) n Q ∧ Krn.SpsAt w (.slice a3 (List.length LK) c3) LK ∧ SpsAt w (.slice a4 (List.length LA) c4) LA ∧ List.length LW ≤ maxLen ∧ n ≤ maxLen ∧ Frl.AllB Q maxLen ∧ List.length LK ≤ maxLen ∧ List.length LA ≤ maxLen := by
  obtain ⟨fuel, hf⟩ := h
  obtain ⟨cs, rfl, hcs⟩ := okWide_struct Tryz.underlying26 hval
  rw [lfont_cells] at hcs
  obtain ⟨xs, k, hk, hxy, _, hxl, hfl⟩ := DataW.trod_struct Tryz.underlying26 hf
  obtain ⟨v0, v1, v2, v3, v4, rfl⟩ : ∃ v0 v1 v2 v3 v4, cs = #[v0, v1, v2, v3, v4] := by
    obtain ⟨l⟩ := cs
    match l, hcs with
    | [v0, v1, v2, v3, v4], _ => exact ⟨v0, v1, v2, v3, v4, rfl⟩
  have g0 := hfl 0 _ rfl
  have g1 := hfl 1 _ rfl
  have g2 := hfl 2 _ rfl
  have g3 := hfl 3 _ rfl
  have g4 := hfl 4 _ rfl
  simp [lspans_cells, lrules_cells, lkerns_cells, i64_cells, Value.cells] at g0 g1 g2 g3 g4
  have j0 : ∃ y, DataW.trod enc Tryz.prog w base (fun _ => true) held k 2 [v0] = some y := by
    match xs, hxl with
    | [y0, y1, y2, y3, y4], _ => exact ⟨_, g0⟩
  have j1 : ∃ y, DataW.trod enc Tryz.prog w base (fun _ => true) held k 22 [v1] = some y := by
    match xs, hxl with
    | [y0, y1, y2, y3, y4], _ => exact ⟨_, g1⟩
  have j2 : ∃ y, DataW.trod enc Tryz.prog w base (fun _ => true) held k 23 [v2] = some y := by
    match xs, hxl with
    | [y0, y1, y2, y3, y4], _ => exact ⟨_, g2⟩
  have j3 : ∃ y, DataW.trod enc Tryz.prog w base (fun _ => true) held k 24 [v3] = some y := by
    match xs, hxl with
    | [y0, y1, y2, y3, y4], _ => exact ⟨_, g3⟩
  have j4 : ∃ y, DataW.trod enc Tryz.prog w base (fun _ => true) held k 22 [v4] = some y := by
    match xs, hxl with
    | [y0, y1, y2, y3, y4], _ => exact ⟨_, g4⟩
  obtain ⟨_, j0⟩ := j0
  obtain ⟨_, j1⟩ := j1
  obtain ⟨_, j2⟩ := j2
  obtain ⟨_, j3⟩ := j3
  obtain ⟨_, j4⟩ := j4
  obtain ⟨wd, q0, _⟩ := DataW.trod_int Tryz.underlying2 j0
  obtain ⟨a1, c1, LW, rfl, s1, m1⟩ := sps_cell j1
  obtain ⟨a2, c2, n, Q, rfl, s2, m2, m5⟩ := rul_cell j2
  obtain ⟨a3, c3, LK, rfl, s3, m3⟩ := krn_cell j3
  obtain ⟨a4, c4, LA, rfl, s4, m4⟩ := sps_cell j4
  simp at q0
  subst q0
  exact ⟨wd, a1, a2, a3, a4, c1, c2, c3, c4, LW, n, Q, LK, LA, rfl, s1, s2, s3, s4, m1, m2, m5, m3, m4⟩
end
end Go.Proofs.YtfldomifooihlaaGreatDoor.Fnt
