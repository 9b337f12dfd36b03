/- A row of numbers as spans: the specification. -/
import Derived.Test.YtnfdkcphmolkiaaVlsP
import Derived.Test.YtnfdkcphmolkiaaUnlA
import Derived.Test.YtnfdkcphmolkiaaSpnE
namespace Go.Proofs.Ytnfdkcphmolkiaa
open Go.RowKit
theorem three_new (w : World) (x y z : Value) (t : TypeId) : ∀ j u, [x, y, z][j]? = some u → (w.alloc (.cells #[x, y, z] t)).cell? ((⟨w.heap.size, 0, none⟩ : Addr).add j) = some u := by
  intro j u hj
  match j, hj with
  | 0, hj => simp at hj; subst hj; simp [Addr.add]
  | 1, hj => simp at hj; subst hj; simp [Addr.add]
  | 2, hj => simp at hj; subst hj; simp [Addr.add]
  | (j + 3), hj => simp at hj
theorem three_one (x y z : Int) : ∀ u ∈ [Value.int .i64 x, Value.int .i64 y, Value.int .i64 z], u.oneCell' = true := by
  intro u hu; simp at hu; rcases hu with rfl | rfl | rfl <;> rfl
/-- One span more. -/
theorem sp_step {w wr w3 : World} {v v' : Value} {L : List Sp} {x y z : Int} {o : Obj} (hb : Below w.heap.size w wr) (h : SpRow wr w.heap.size v L)
    (ho : w3.ownsRow w.heap.size 59 3 v' (L.length + 1) (cells L ++ [.int .i64 x, .int .i64 y, .int .i64 z])) (hg : (wr.alloc o).grownBy w3 v.ownBlock) :
    SpRow w3 w.heap.size v' (L ++ [(x, y, z)]) ∧ Below w.heap.size w w3 := by
  refine ⟨?_, (hb.alloc hb.size o).grown hg (by have := hb.size; simp; omega) (fun j hj => (h.lt j hj).1)⟩
  unfold SpRow
  rw [cells_snoc, List.length_append]
  exact ho
theorem cells_last (L : List Sp) (r : Sp) (j : Nat) : (cells (L ++ [r]))[L.length * 3 + j]? = [Value.int .i64 r.1, .int .i64 r.2.1, .int .i64 r.2.2][j]? := by
  rw [cells_snoc, List.getElem?_append_right (by rw [cells_len]; omega), cells_len, Nat.add_sub_cancel_left]
theorem cells_upd (L : List Sp) (x y u z : Int) : (cells (L ++ [(x, y, u)])).set (L.length * 3 + 1) (.int .i64 z) = cells (L ++ [(x, z, u)]) := by
  rw [cells_snoc, cells_snoc, List.set_append_right _ _ (by rw [cells_len]; omega), cells_len, Nat.add_sub_cancel_left]
  rfl
theorem sp_cell {w : World} {B g c : Nat} {L : List Sp} {r : Sp} (h : SpRow w B (.slice (some ⟨g, 0, none⟩) (L.length + 1) c) (L ++ [r])) (j : Nat) (hj : j < 3) : w.cell? ⟨g, L.length * 3 + j, none⟩ = [Value.int .i64 r.1, .int .i64 r.2.1, .int .i64 r.2.2][j]? ∧ w.frozen? ⟨g, L.length * 3 + j, none⟩ = false := by
  have h' : w.ownsRow B 59 3 (.slice (some ⟨g, 0, none⟩) (L.length + 1) c) (L.length + 1) (cells (L ++ [r])) := by
    have : (L ++ [r]).length = L.length + 1 := by simp
    unfold SpRow at h
    rw [this] at h
    exact h
  exact ⟨(h'.cellAt (L.length * 3 + j) (by omega)).trans (cells_last L r j), h'.frozenAt _⟩
theorem sp_upd {w wr : World} {g c : Nat} {L : List Sp} {x y u : Int} (hb : Below w.heap.size w wr) (h : SpRow wr w.heap.size (.slice (some ⟨g, 0, none⟩) (L.length + 1) c) (L ++ [(x, y, u)])) (hg : w.heap.size ≤ g) (z : Int) :
    SpRow (wr.setCell ⟨g, L.length * 3 + 1, none⟩ (.int .i64 z)) w.heap.size (.slice (some ⟨g, 0, none⟩) (L.length + 1) c) (L ++ [(x, z, u)]) ∧ Below w.heap.size w (wr.setCell ⟨g, L.length * 3 + 1, none⟩ (.int .i64 z)) := by
  have hl : ∀ r : Sp, (L ++ [r]).length = L.length + 1 := fun r => by simp
  refine ⟨?_, hb.setCell (p := ⟨g, L.length * 3 + 1, none⟩) hg _⟩
  have h1 := h
  unfold SpRow at h1
  rw [hl] at h1
  have hst := (World.ownsRow.stored h1 (L.length * 3 + 1) (.int .i64 z)).1
  rw [cells_upd] at hst
  unfold SpRow
  rw [hl]
  exact hst
def fnum (l : List Int) (p : Int) : Int := nth l p.toNat
theorem fnum_nat (l : List Int) (k : Nat) : fnum l (k : Int) = nth l k := by unfold fnum; rw [Int.toNat_natCast]
end Go.Proofs.Ytnfdkcphmolkiaa
