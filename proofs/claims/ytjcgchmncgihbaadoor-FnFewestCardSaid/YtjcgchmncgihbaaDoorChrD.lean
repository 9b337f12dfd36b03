/- The rules of characters asked in their order, as the program does. -/
import Derived.Test.YtjcgchmncgihbaaDoorChrR
import Derived.Deep.WholeRow
import Derived.Laws.EntriesVeiled
namespace Go.Proofs.YtjcgchmncgihbaaDoor
namespace Chr
open Go.RowKit
theorem pl_cells {w : World} {g : Nat} {l r b : Int} {f : Nat} {d : Bool} {T : TypeId} (h : w.heap[g]? = some (.cells #[.int .i64 l, .int .i64 r, .int .i64 b, .int .i64 (f : Int), .bool d] T (0, 0))) :
    w.cell? ⟨g, 0, none⟩ = some (.int .i64 l) ∧ w.cell? ⟨g, 1, none⟩ = some (.int .i64 r) ∧ w.cell? ⟨g, 2, none⟩ = some (.int .i64 b) ∧ w.cell? ⟨g, 3, none⟩ = some (.int .i64 (f : Int)) ∧ w.cell? ⟨g, 4, none⟩ = some (.bool d) := by
  simp [World.cell?, h]
/-- A round behind which the rule kept silent. -/
theorem dglue {w wr w2 : World} {o ob : Obj} (hB : Below w.heap.size w wr) (hE : wr.heap[w.heap.size]? = some ob) (h2 : Below (wr.alloc o).heap.size (wr.alloc o) w2) : Hid (Below w.heap.size w w2) ∧ Hid (w2.heap[w.heap.size]? = some ob) := by
  have hl : w.heap.size < wr.heap.size := (Array.getElem?_eq_some_iff.1 hE).1
  have h3 : Below wr.heap.size wr w2 := ((Below.refl _ _).alloc (Nat.le_refl _) o).trans (h2.mono (by simp))
  exact ⟨hB.trans (h3.mono (Nat.le_of_lt hl)), by show w2.heap[w.heap.size]? = _; rw [h3.block _ hl]; exact hE⟩
end Chr
end Go.Proofs.YtjcgchmncgihbaaDoor
