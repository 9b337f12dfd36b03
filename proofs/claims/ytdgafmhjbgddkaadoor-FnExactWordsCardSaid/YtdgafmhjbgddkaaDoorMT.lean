/- Several texts in one. -/
import Derived.Test.YtdgafmhjbgddkaaDoorRows
import Derived.Test.YtdgafmhjbgddkaaDoorBase
import Derived.Test.YtdgafmhjbgddkaaDoorWrdX
import Derived.Test.YtdgafmhjbgddkaaDoorAppG
import Derived.BigQuiet
import Derived.Deep.QuietTactic
import Derived.Deep.RegionWith
import Derived.Handy
import Derived.ProofKit
import Derived.OpenShut
import Derived.ShutString
import Derived.ChangeOld
import Derived.Deep.Slices
/- Rows of spans: a copy of one, and what is read of one. -/
namespace Go.Proofs.YtdgafmhjbgddkaaDoor
namespace Tlr
open Go.RowKit
open Wrd (Tl tlx TlAt tlV toTl eqTl)
set_option linter.unusedVariables false
def t0 : Tl := (0, 0, false)
theorem infoSp : (Tryd.prog.info? 38).map (fun i => (i.zero, i.size, i.bytes)) = some (some (.agg #[.int .i64 0, .int .i64 0, .bool false]), 3, 24) := by kernel_rfl
/-- The cells of spans. -/
def cells (L : List Tl) : List Value := L.flatMap fun r => [.int .i64 r.1, .int .i64 r.2.1, .bool r.2.2]
theorem cells_cons (a : Tl) (t : List Tl) : cells (a :: t) = [.int .i64 a.1, .int .i64 a.2.1, .bool a.2.2] ++ cells t := rfl
theorem cells_len (L : List Tl) : (cells L).length = L.length * 3 := by
  induction L with
  | nil => rfl
  | cons a t ih => rw [cells_cons, List.length_append, ih, List.length_cons]; simp; omega
theorem cells_snoc (L : List Tl) (r : Tl) : cells (L ++ [r]) = cells L ++ [.int .i64 r.1, .int .i64 r.2.1, .bool r.2.2] := by
  unfold cells; rw [List.flatMap_append, List.flatMap_singleton]
theorem cells_append (L M : List Tl) : cells (L ++ M) = cells L ++ cells M := by unfold cells; rw [List.flatMap_append]
/-- Spans in a row of the call's own. -/
def SpRow (w : World) (B : Nat) (v : Value) (L : List Tl) : Prop := w.ownsRow B 38 3 v L.length (cells L)
theorem SpRow.below {w w' : World} {B : Nat} {v : Value} {L : List Tl} (h : SpRow w B v L) (hb : Below w.heap.size w w') : SpRow w' B v L := ownsRow_below h hb
theorem cells_at (L : List Tl) (i j : Nat) (hi : i < L.length) (hj : j < 3) : (cells L)[i * 3 + j]? = [Value.int .i64 (tlx L i).1, .int .i64 (tlx L i).2.1, .bool (tlx L i).2.2][j]? := by
  induction L generalizing i with
  | nil => simp at hi
  | cons a t ih =>
    rw [cells_cons]
    match i with
    | 0 =>
      rw [List.getElem?_append_left (by simp; omega), Nat.zero_mul, Nat.zero_add]
      rfl
    | i + 1 =>
      rw [List.getElem?_append_right (by simp; omega)]
      have e : (i + 1) * 3 + j - [Value.int .i64 a.1, .int .i64 a.2.1, .bool a.2.2].length = i * 3 + j := by simp; omega
      rw [e, ih i (by simpa using hi)]
      rfl
theorem SpRow.read {w : World} {B g c : Nat} {L : List Tl} (h : SpRow w B (.slice (some ⟨g, 0, none⟩) L.length c) L) (i : Nat) (hi : i < L.length) :
    w.cell? ⟨g, i * 3, none⟩ = some (.int .i64 (tlx L i).1) ∧ w.cell? ⟨g, i * 3 + 1, none⟩ = some (.int .i64 (tlx L i).2.1) ∧ w.cell? ⟨g, i * 3 + 2, none⟩ = some (.bool (tlx L i).2.2) :=
  ⟨(World.ownsRow.cellAt h (i * 3) (by omega)).trans (cells_at L i 0 hi (by omega)), (World.ownsRow.cellAt h (i * 3 + 1) (by omega)).trans (cells_at L i 1 hi (by omega)), (World.ownsRow.cellAt h (i * 3 + 2) (by omega)).trans (cells_at L i 2 hi (by omega))⟩
theorem SpRow.form {w : World} {B : Nat} {v : Value} {L : List Tl} (h : SpRow w B v L) : ∃ a c, v = .slice a L.length c ∧ (0 < L.length → ∃ g, a = some ⟨g, 0, none⟩ ∧ B ≤ g ∧ g < w.heap.size) := by
  rcases h.2 with ⟨hv, hn⟩ | ⟨g, cap, cur, hv, hg, hh, _⟩
  · exact ⟨none, 0, by rw [hv, hn], fun h => by omega⟩
  · exact ⟨_, _, hv, fun _ => ⟨g, rfl, hg, (Array.getElem?_eq_some_iff.1 hh).1⟩⟩
theorem wrap_in (x : Int) (h0 : -9223372036854775808 ≤ x) (h1 : x ≤ 9223372036854775807) : IntKind.i64.wrap x = x := by
  simp [IntKind.wrap, IntKind.signed, IntKind.bits]; omega
theorem cell_alloc {w : World} {a : Addr} {v : Value} (h : w.cell? a = some v) (o : Obj) : (w.alloc o).cell? a = some v := (World.cell?_of_block (Below.heap_alloc w o a.block (block_lt_of_cell h))).trans h
/-- The first k spans of L, and zeros behind them. -/
def fillS (L : List Tl) (k : Nat) : List Tl := L.take k ++ List.replicate (L.length - k) t0
theorem fillS_zero (L : List Tl) : fillS L 0 = List.replicate L.length t0 := by simp [fillS]
theorem fillS_all (L : List Tl) : fillS L L.length = L := by simp [fillS]
theorem fillS_len (L : List Tl) (k : Nat) (h : k ≤ L.length) : (fillS L k).length = L.length := by simp [fillS]; omega
theorem rep_cells (n : Nat) : cells (List.replicate n t0) = (madeCells #[Value.int .i64 0, .int .i64 0, .bool false] (n * 3)).toList := by
  apply List.ext_getElem?
  intro i
  unfold madeCells
  rw [Array.toList_map, List.getElem?_map, Array.toList_range]
  by_cases h : i < n * 3
  · rw [List.getElem?_range h, show i = i / 3 * 3 + i % 3 by omega, cells_at _ _ _ (by simp; omega) (by omega)]
    have e : tlx (List.replicate n (t0 : Tl)) (i / 3) = t0 := by
      have h3 : i / 3 < n := by omega
      show (List.replicate n t0).getD (i / 3) t0 = t0
      simp [List.getD, h3]
    rw [e]
    have hm : i % 3 = 0 ∨ i % 3 = 1 ∨ i % 3 = 2 := by omega
    rcases hm with hm | hm | hm <;> simp [hm, Nat.add_mod, t0]
  · rw [List.getElem?_eq_none (by rw [cells_len]; simp; omega), List.getElem?_eq_none (by simp; omega)]
    rfl
theorem cells_set3 (A C : List Tl) (r s : Tl) : (((cells (A ++ r :: C)).set (A.length * 3) (.int .i64 s.1)).set (A.length * 3 + 1) (.int .i64 s.2.1)).set (A.length * 3 + 2) (.bool s.2.2) = cells (A ++ s :: C) := by
  rw [cells_append, cells_append, cells_cons, cells_cons]
  have hl := cells_len A
  rw [List.set_append_right _ _ (by omega), List.set_append_right _ _ (by omega), List.set_append_right _ _ (by omega)]
  congr 1
  rw [hl, Nat.sub_self, show A.length * 3 + 1 - A.length * 3 = 1 by omega, show A.length * 3 + 2 - A.length * 3 = 2 by omega]
  rfl
theorem fillS_set (L : List Tl) (k : Nat) (h : k < L.length) : (((cells (fillS L k)).set (k * 3) (.int .i64 (tlx L k).1)).set (k * 3 + 1) (.int .i64 (tlx L k).2.1)).set (k * 3 + 2) (.bool (tlx L k).2.2) = cells (fillS L (k + 1)) := by
  have hk : (L.take k).length = k := by simp; omega
  have e1 : L.length - k = (L.length - (k + 1)) + 1 := by omega
  have := cells_set3 (L.take k) (List.replicate (L.length - (k + 1)) t0) t0 (tlx L k)
  rw [hk] at this
  unfold fillS
  rw [e1, List.replicate_succ, this, List.take_succ_eq_append_getElem h, List.append_assoc]
  have e2 : tlx L k = L[k] := by
    show L.getD k t0 = L[k]
    simp [List.getD, h]
  rw [e2]
  rfl
theorem made_below {w w1 : World} (h : w.grownBy w1 none) : Below w.heap.size w w1 := (Below.refl _ _).grown h (Nat.le_refl _) (fun k hk => by cases hk)
/-- The three cells of one span, stored. -/
theorem row3_stored {w : World} {B g n c : Nat} {xs : List Value} (h : w.ownsRow B 38 3 (.slice (some ⟨g, 0, none⟩) n c) n xs) (k : Nat) (x y z : Value) :
    (((w.setCell ⟨g, k * 3, none⟩ x).setCell ⟨g, k * 3 + 1, none⟩ y).setCell ⟨g, k * 3 + 2, none⟩ z).ownsRow B 38 3 (.slice (some ⟨g, 0, none⟩) n c) n (((xs.set (k * 3) x).set (k * 3 + 1) y).set (k * 3 + 2) z) :=
  (((h.stored (k * 3) x).1.stored (k * 3 + 1) y).1.stored (k * 3 + 2) z).1
theorem row3_at {w : World} {B g n c : Nat} {xs : List Value} (h : w.ownsRow B 38 3 (.slice (some ⟨g, 0, none⟩) n c) n xs) (j : Nat) (hj : j < n * 3) : ∃ x, w.cell? ⟨g, j, none⟩ = some x ∧ w.frozen? ⟨g, j, none⟩ = false := by
  have hn : xs.length = n * 3 := h.1
  have := h.cellAt j hj
  rw [List.getElem?_eq_getElem (by omega)] at this
  exact ⟨_, this, h.frozenAt j⟩
set_option maxHeartbeats 1000000 in
theorem toSpans_at (b off cap : Nat) (L : List Tl) (w : World) (hbs : b < w.heap.size) (hc : ∀ i, i < L.length → w.cell? ⟨b, off + i * 3, none⟩ = some (.int .i64 (tlx L i).1) ∧ w.cell? ⟨b, off + i * 3 + 1, none⟩ = some (.int .i64 (tlx L i).2.1) ∧ w.cell? ⟨b, off + i * 3 + 2, none⟩ = some (.bool (tlx L i).2.2)) (hl : L.length ≤ 1048576) :
    Calls Tryd.prog 7 #[.slice (some ⟨b, off, none⟩) L.length cap] w fun e w' => e = .returned (.slice (some ⟨w.heap.size, 0, none⟩) L.length L.length) ∧
      SpRow w' w.heap.size (.slice (some ⟨w.heap.size, 0, none⟩) L.length L.length) L ∧ Below w.heap.size w w' := by
  obtain ⟨i0, hi, hz0, hz1, hz2⟩ := info_parts infoSp
  have HC := hide hc
  clear hc
  go_enter Tryd.func7, Tryd.ntmps7
  go_wp2_with (at_make; refine wpList_make_full _ rfl _ _ 26 rfl w.heap.size 38 i0 (.agg #[.int .i64 0, .int .i64 0, .bool false]) 3 Tryd.underlying26 hi hz0 hz1 .i64 .i64 _ _ L.length rfl rfl rfl rfl ?b2 ?b3 ?b4 ?_)
  case b2 => rw [hz2]; omega
  case b3 => unfold maxLen; omega
  case b4 => omega
  intro w1 hown hgrow
  rw [← rep_cells, ← fillS_zero] at hown
  have H1 := hide hown
  have hb1 := hide (made_below hgrow)
  clear hown hgrow
  go_wp2
  go_loopw [4] (fun i wr => ∃ k : Nat, k ≤ L.length ∧ i = .int .i64 k ∧ Hid (wr.ownsRow w.heap.size 38 3 (.slice (some ⟨w.heap.size, 0, none⟩) L.length L.length) L.length (cells (fillS L k))) ∧ Hid (Below w.heap.size w wr)) (fun i _ => L.length - (intOf i).toNat)
  case atStart => exact ⟨0, Nat.zero_le _, rfl, H1, hb1⟩
  case round =>
    obtain ⟨k, hk, rfl, HO, HB⟩ := hrel
    clear H1 hb1
    by_cases hlt : k < L.length
    · have hlt' : (k : Int) < (L.length : Int) := by omega
      obtain ⟨c0, c1, c2⟩ := (unhide HC) k hlt
      have d0 := ((unhide HB).cell (p := ⟨b, off + k * 3, none⟩) hbs).trans c0
      have d1 := ((unhide HB).cell (p := ⟨b, off + k * 3 + 1, none⟩) hbs).trans c1
      have d2 := ((unhide HB).cell (p := ⟨b, off + k * 3 + 2, none⟩) hbs).trans c2
      clear c0 c1 c2
      have HF := hide (fillS_set L k hlt)
      generalize hr : tlx L k = r at *
      clear hr
      go_wp2_with fail
      refine (toTl r _).mono ?_
      rintro e w2 ⟨rfl, hb2⟩
      unfold tlV
      have HO2 := hide (ownsRow_below (unhide HO) hb2)
      have HB2 := hide ((unhide HB).trans (hb2.mono (unhide HB).size))
      clear hb2 HO HB d0 d1 d2
      obtain ⟨x0, p0, q0⟩ := row3_at (unhide HO2) (k * 3) (by omega)
      obtain ⟨x1, p1, q1⟩ := row3_at (unhide HO2) (k * 3 + 1) (by omega)
      obtain ⟨x2, p2, q2⟩ := row3_at (unhide HO2) (k * 3 + 2) (by omega)
      have HS := hide (row3_stored (unhide HO2) k (.int .i64 r.1) (.int .i64 r.2.1) (.bool r.2.2))
      have HB3 := hide ((((unhide HB2).setCell (p := ⟨w.heap.size, k * 3, none⟩) (Nat.le_refl _) (.int .i64 r.1)).setCell (p := ⟨w.heap.size, k * 3 + 1, none⟩) (Nat.le_refl _) (.int .i64 r.2.1)).setCell (p := ⟨w.heap.size, k * 3 + 2, none⟩) (Nat.le_refl _) (.bool r.2.2))
      rw [unhide HF] at HS
      go_wp2
      go_roundw
      case rel => exact ⟨k + 1, by omega, by go_num, HS, HB3⟩
      case measure => simp [intOf]; omega
    · obtain rfl : k = L.length := by omega
      go_wp2
      go_ret
      have ho := unhide HO
      rw [fillS_all] at ho
      exact ⟨rfl, ho, unhide HB⟩
set_option maxHeartbeats 1000000 in
theorem toSpans_nil (a : Option Addr) (cap : Nat) (L : List Tl) (w : World) (h0 : L.length = 0) :
    Calls Tryd.prog 7 #[.slice a L.length cap] w fun e w' => e = .returned (.slice (some ⟨w.heap.size, 0, none⟩) L.length L.length) ∧
      SpRow w' w.heap.size (.slice (some ⟨w.heap.size, 0, none⟩) L.length L.length) L ∧ Below w.heap.size w w' := by
  have H0 := hide h0
  clear h0
  have hl : L.length ≤ 1048576 := by rw [unhide H0]; omega
  obtain ⟨i0, hi, hz0, hz1, hz2⟩ := info_parts infoSp
  go_enter Tryd.func7, Tryd.ntmps7
  go_wp2_with (at_make; refine wpList_make_full _ rfl _ _ 26 rfl w.heap.size 38 i0 (.agg #[.int .i64 0, .int .i64 0, .bool false]) 3 Tryd.underlying26 hi hz0 hz1 .i64 .i64 _ _ L.length rfl rfl rfl rfl ?b2 ?b3 ?b4 ?_)
  case b2 => rw [hz2]; omega
  case b3 => unfold maxLen; omega
  case b4 => omega
  intro w1 hown hgrow
  rw [← rep_cells, ← fillS_zero] at hown
  have H1 := hide hown
  have hb1 := hide (made_below hgrow)
  clear hown hgrow
  go_wp2
  go_loopw [4] (fun i wr => ∃ k : Nat, k ≤ L.length ∧ i = .int .i64 k ∧ Hid (wr.ownsRow w.heap.size 38 3 (.slice (some ⟨w.heap.size, 0, none⟩) L.length L.length) L.length (cells (fillS L k))) ∧ Hid (Below w.heap.size w wr)) (fun i _ => L.length - (intOf i).toNat)
  case atStart => exact ⟨0, Nat.zero_le _, rfl, H1, hb1⟩
  case round =>
    obtain ⟨k, hk, rfl, HO, HB⟩ := hrel
    clear H1 hb1
    by_cases hlt : k < L.length
    · have := unhide H0; omega
    · obtain rfl : k = L.length := by omega
      go_wp2
      go_ret
      have ho := unhide HO
      rw [fillS_all] at ho
      exact ⟨rfl, ho, unhide HB⟩
theorem toSpans (v : Value) (L : List Tl) (w : World) (h : TlAt w v L) (hl : L.length ≤ 1048576) :
    Calls Tryd.prog 7 #[v] w fun e w' => e = .returned (.slice (some ⟨w.heap.size, 0, none⟩) L.length L.length) ∧
      SpRow w' w.heap.size (.slice (some ⟨w.heap.size, 0, none⟩) L.length L.length) L ∧ Below w.heap.size w w' := by
  obtain ⟨a, cap, rfl, h⟩ := h
  rcases h with h | ⟨b, off, rfl, hbs, hc⟩
  · exact toSpans_nil a cap L w (by rw [h]; rfl)
  · exact toSpans_at b off cap L w hbs hc hl
end Tlr
end Go.Proofs.YtdgafmhjbgddkaaDoor
/- Arguments that hold spans, opened. -/
namespace Go.Proofs.YtdgafmhjbgddkaaDoor
namespace Tlr
open Go.ChangeShapes Go.WideShapes Go.ChangeAt Go.RowKit Go.Deep
open Wrd (Tl tlx TlAt)
section
variable {H : Type} {enc : TypeId × Value → H} {w : World} {base : Nat} {spare : Nat → Bool} {held : Bool}
theorem lspan_cells : Tryd.prog.cellsOf 40 = 3 := by kernel_rfl
theorem int_cells : Tryd.prog.cellsOf 2 = 1 := by kernel_rfl
theorem bool_cells : Tryd.prog.cellsOf 4 = 1 := by kernel_rfl
theorem addr_add (b off i : Nat) : (⟨b, off, none⟩ : Addr).add i = ⟨b, off + i, none⟩ := by unfold Addr.add; split <;> simp_all
theorem add_spot {w : World} {a : Addr} {v : Value} (h : w.cell? (a.add 0) = some v) : ∃ b off, a = ⟨b, off, none⟩ := by
  obtain ⟨b, off, spot⟩ := a
  have hspot : spot = none := by simpa [Addr.add] using World.cell?_spot h
  exact ⟨b, off, by rw [hspot]⟩
set_option maxRecDepth 100000 in
theorem open_tailors {v : Value} {d : DataW H} {ps : List MemPlace} (a : Option Addr) (len cap : Nat) (hv : v = .slice a len cap) (h : DataW.Trod enc Tryd.prog w base spare held 22 v d ps) : ∃ L, TlAt w v L ∧ L.length ≤ maxLen := by
  subst hv
  obtain ⟨fuel, hf⟩ := h
  rcases open_slice Tryd.underlying22 hf with ⟨hcs, _⟩ | ⟨x, l, c, m, n, D, Pl, hcs, _, hl, hm, hmm, _, hx⟩
  · simp [Value.cells] at hcs
    obtain ⟨rfl, rfl, rfl⟩ := hcs
    exact ⟨[], ⟨none, 0, rfl, .inl rfl⟩, by simp⟩
  · simp [Value.cells] at hcs
    obtain ⟨rfl, rfl, rfl⟩ := hcs
    have hlm : len ≤ m := by rw [hmm]; split <;> omega
    have each : ∀ i, i < len → ∃ r : Tl, w.cell? (x.add (i * 3)) = some (.int .i64 r.1) ∧ w.cell? (x.add (i * 3 + 1)) = some (.int .i64 r.2.1) ∧ w.cell? (x.add (i * 3 + 2)) = some (.bool r.2.2) := by
      intro i hi
      obtain ⟨cs', h1, h2⟩ := hx i (by omega)
      rw [lspan_cells] at h1
      obtain ⟨_, hlen, hcell⟩ := World.cells?_some h1
      obtain ⟨xs, k, hk, hxy, _, hxl, hfl⟩ := DataW.trod_struct Tryd.underlying40 h2
      match cs', hlen with
      | [v0, v1, v2], _ =>
        have g0 := hfl 0 _ rfl
        have g1 := hfl 1 _ rfl
        have g2 := hfl 2 _ rfl
        simp [int_cells, bool_cells] at g0 g1 g2
        have e0 := hcell 0 (by omega)
        have e1 := hcell 1 (by omega)
        have e2 := hcell 2 (by omega)
        rw [add_add] at e0 e1 e2
        have j0 : ∃ y, DataW.trod enc Tryd.prog w base spare held k 2 [v0] = some y := by
          match xs, hxl with
          | [y0, y1, y2], _ => exact ⟨_, g0⟩
        have j1 : ∃ y, DataW.trod enc Tryd.prog w base spare held k 2 [v1] = some y := by
          match xs, hxl with
          | [y0, y1, y2], _ => exact ⟨_, g1⟩
        have j2 : ∃ y, DataW.trod enc Tryd.prog w base spare held k 4 [v2] = some y := by
          match xs, hxl with
          | [y0, y1, y2], _ => exact ⟨_, g2⟩
        obtain ⟨_, j0⟩ := j0
        obtain ⟨_, j1⟩ := j1
        obtain ⟨_, j2⟩ := j2
        obtain ⟨n0, q0, _⟩ := DataW.trod_int Tryd.underlying2 j0
        obtain ⟨n1, q1, _⟩ := DataW.trod_int Tryd.underlying2 j1
        obtain ⟨n2, q2, _⟩ := DataW.trod_bool Tryd.underlying4 j2
        simp at q0 q1 q2
        subst q0 q1 q2
        exact ⟨(n0, n1, n2), by simpa using e0, by simpa using e1, by simpa using e2⟩
    have : Inhabited Tl := ⟨t0⟩
    obtain ⟨R, hR⟩ := choose_lt each
    have hlen : ((List.range len).map R).length = len := by simp
    have hg : ∀ i, i < len → tlx ((List.range len).map R) i = R i := fun i hi => by
      show ((List.range len).map R).getD i t0 = R i
      simp [List.getD, hi]
    refine ⟨(List.range len).map R, ⟨some x, cap, by rw [hlen], ?_⟩, by rw [hlen]; omega⟩
    by_cases h0 : len = 0
    · exact .inl (List.length_eq_zero_iff.1 (by omega))
    · have hR0 : w.cell? (x.add 0) = some (.int .i64 (R 0).1) := (hR 0 (by omega)).1
      obtain ⟨b, off, rfl⟩ := add_spot hR0
      have hb := block_lt_of_cell hR0
      rw [addr_add] at hb
      refine .inr ⟨b, off, rfl, hb, fun i hi => ?_⟩
      rw [hlen] at hi
      have := hR i hi
      rw [addr_add, addr_add, addr_add] at this
      rw [hg i hi]
      exact this
end
end Tlr
end Go.Proofs.YtdgafmhjbgddkaaDoor
