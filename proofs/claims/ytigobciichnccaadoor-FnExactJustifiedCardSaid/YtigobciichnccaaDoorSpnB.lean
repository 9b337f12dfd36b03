/- Rows of spans: a copy of one, and what is read of one. -/
import Derived.Test.YtigobciichnccaaDoorRows
import Derived.Test.YtigobciichnccaaDoorBase
import Derived.Test.YtigobciichnccaaDoorSetP
import Derived.BigQuiet
import Derived.Deep.QuietTactic
import Derived.Deep.RegionWith
import Derived.Handy
namespace Go.Proofs.YtigobciichnccaaDoor
open Go.RowKit
/-- The cells of spans. -/
def cells (L : List Sp) : List Value := L.flatMap fun r => [.int .i64 r.1, .int .i64 r.2.1, .int .i64 r.2.2]
theorem cells_cons (a : Sp) (t : List Sp) : cells (a :: t) = [.int .i64 a.1, .int .i64 a.2.1, .int .i64 a.2.2] ++ cells t := rfl
theorem cells_len (L : List Sp) : (cells L).length = L.length * 3 := by
  induction L with
  | nil => rfl
  | cons a t ih => rw [cells_cons, List.length_append, ih, List.length_cons]; simp; omega
theorem cells_snoc (L : List Sp) (r : Sp) : cells (L ++ [r]) = cells L ++ [.int .i64 r.1, .int .i64 r.2.1, .int .i64 r.2.2] := by
  unfold cells; rw [List.flatMap_append, List.flatMap_singleton]
theorem cells_append (L M : List Sp) : cells (L ++ M) = cells L ++ cells M := by unfold cells; rw [List.flatMap_append]
theorem cells_at (L : List Sp) (i j : Nat) (hi : i < L.length) (hj : j < 3) : (cells L)[i * 3 + j]? = [Value.int .i64 (gx L i).1, .int .i64 (gx L i).2.1, .int .i64 (gx L i).2.2][j]? := by
  induction L generalizing i with
  | nil => simp at hi
  | cons a t ih =>
    rw [cells_cons]
    match i with
    | 0 =>
      rw [List.getElem?_append_left (by simp; omega)]
      simp [gx]
    | i + 1 =>
      rw [List.getElem?_append_right (by simp; omega)]
      have e : (i + 1) * 3 + j - [Value.int .i64 a.1, .int .i64 a.2.1, .int .i64 a.2.2].length = i * 3 + j := by simp; omega
      rw [e, ih i (by simpa using hi)]
      simp [gx]
theorem wrap_in (x : Int) (h0 : -9223372036854775808 ≤ x) (h1 : x ≤ 9223372036854775807) : IntKind.i64.wrap x = x := by
  simp [IntKind.wrap, IntKind.signed, IntKind.bits]; omega
theorem cell_alloc {w : World} {a : Addr} {v : Value} (h : w.cell? a = some v) (o : Obj) : (w.alloc o).cell? a = some v := (World.cell?_of_block (Below.heap_alloc w o a.block (block_lt_of_cell h))).trans h
/-- A slice value that holds just the spans L. -/
def SpsAt (w : World) (v : Value) (L : List Sp) : Prop :=
  ∃ a cap, v = .slice a L.length cap ∧ (L = [] ∨ ∃ b off, a = some ⟨b, off, none⟩ ∧ b < w.heap.size ∧ ∀ i, i < L.length → w.cell? ⟨b, off + i * 3, none⟩ = some (.int .i64 (gx L i).1) ∧ w.cell? ⟨b, off + i * 3 + 1, none⟩ = some (.int .i64 (gx L i).2.1) ∧ w.cell? ⟨b, off + i * 3 + 2, none⟩ = some (.int .i64 (gx L i).2.2))
theorem SpsAt.below {w w' : World} {v : Value} {L : List Sp} (h : SpsAt w v L) (hb : Below w.heap.size w w') : SpsAt w' v L := by
  obtain ⟨a, cap, rfl, h⟩ := h
  refine ⟨a, cap, rfl, ?_⟩
  rcases h with h | ⟨b, off, rfl, hbs, hc⟩
  · exact .inl h
  · exact .inr ⟨b, off, rfl, Nat.lt_of_lt_of_le hbs hb.size, fun i hi => ⟨(hb.cell (p := ⟨b, off + i * 3, none⟩) hbs).trans (hc i hi).1, (hb.cell (p := ⟨b, off + i * 3 + 1, none⟩) hbs).trans (hc i hi).2.1, (hb.cell (p := ⟨b, off + i * 3 + 2, none⟩) hbs).trans (hc i hi).2.2⟩⟩
/-- The first k spans of L, and zeros behind them. -/
def fillS (L : List Sp) (k : Nat) : List Sp := L.take k ++ List.replicate (L.length - k) (0, 0, 0)
theorem fillS_zero (L : List Sp) : fillS L 0 = List.replicate L.length (0, 0, 0) := by simp [fillS]
theorem fillS_all (L : List Sp) : fillS L L.length = L := by simp [fillS]
theorem fillS_len (L : List Sp) (k : Nat) (h : k ≤ L.length) : (fillS L k).length = L.length := by simp [fillS]; omega
theorem rep_cells (n : Nat) : cells (List.replicate n (0, 0, 0)) = (madeCells #[Value.int .i64 0, .int .i64 0, .int .i64 0] (n * 3)).toList := by
  apply List.ext_getElem?
  intro i
  unfold madeCells
  rw [Array.toList_map, List.getElem?_map, Array.toList_range]
  by_cases h : i < n * 3
  · rw [List.getElem?_range h, show i = i / 3 * 3 + i % 3 by omega, cells_at _ _ _ (by simp; omega) (by omega)]
    have e : gx (List.replicate n ((0, 0, 0) : Sp)) (i / 3) = (0, 0, 0) := by
      rw [gx, List.getD_eq_getElem?_getD, List.getElem?_replicate, if_pos (by omega)]; rfl
    rw [e]
    have hm : i % 3 = 0 ∨ i % 3 = 1 ∨ i % 3 = 2 := by omega
    rcases hm with hm | hm | hm <;> simp [hm, Nat.add_mod]
  · rw [List.getElem?_eq_none (by rw [cells_len]; simp; omega), List.getElem?_eq_none (by simp; omega)]
    rfl
theorem cells_set3 (A C : List Sp) (r s : Sp) : (((cells (A ++ r :: C)).set (A.length * 3) (.int .i64 s.1)).set (A.length * 3 + 1) (.int .i64 s.2.1)).set (A.length * 3 + 2) (.int .i64 s.2.2) = cells (A ++ s :: C) := by
  rw [cells_append, cells_append, cells_cons, cells_cons]
  have hl := cells_len A
  rw [List.set_append_right _ _ (by omega), List.set_append_right _ _ (by omega), List.set_append_right _ _ (by omega)]
  congr 1
  rw [hl, Nat.sub_self, show A.length * 3 + 1 - A.length * 3 = 1 by omega, show A.length * 3 + 2 - A.length * 3 = 2 by omega]
  rfl
theorem fillS_set (L : List Sp) (k : Nat) (h : k < L.length) : (((cells (fillS L k)).set (k * 3) (.int .i64 (gx L k).1)).set (k * 3 + 1) (.int .i64 (gx L k).2.1)).set (k * 3 + 2) (.int .i64 (gx L k).2.2) = cells (fillS L (k + 1)) := by
  have hk : (L.take k).length = k := by simp; omega
  have e1 : L.length - k = (L.length - (k + 1)) + 1 := by omega
  have := cells_set3 (L.take k) (List.replicate (L.length - (k + 1)) (0, 0, 0)) (0, 0, 0) (gx L k)
  rw [hk] at this
  unfold fillS
  rw [e1, List.replicate_succ, this, List.take_succ_eq_append_getElem h, List.append_assoc]
  have e2 : gx L k = L[k] := by simp [gx, List.getD, h]
  rw [e2]
  rfl
theorem made_below {w w1 : World} (h : w.grownBy w1 none) : Below w.heap.size w w1 := (Below.refl _ _).grown h (Nat.le_refl _) (fun k hk => by cases hk)
end Go.Proofs.YtigobciichnccaaDoor
