/- Tries as arguments: opened, copied, held against each other. -/
import Derived.Test.YtfcabmpklcmbgaaTfsA
import Derived.Test.YtfcabmpklcmbgaaSpnO
namespace Go.Proofs.Ytfcabmpklcmbgaa
open Go.ChangeShapes Go.WideShapes Go.ChangeAt Go.RowKit Go.Deep
/-- Two cells of a box. -/
def Box (w : World) (g : Nat) (x y : Value) : Prop := (w.cell? ⟨g, 0, none⟩ = some x ∧ w.cell? ⟨g, 1, none⟩ = some y) ∧ w.frozen? ⟨g, 0, none⟩ = false ∧ w.frozen? ⟨g, 1, none⟩ = false
theorem Box.below {w w' : World} {g : Nat} {x y : Value} (h : Box w g x y) (hb : Below w.heap.size w w') : Box w' g x y := by
  have hg : g < w.heap.size := block_lt_of_cell (a := ⟨g, 0, none⟩) h.1.1
  have e := hb.block g hg
  exact ⟨⟨(World.cell?_of_block (a := ⟨g, 0, none⟩) e).trans h.1.1, (World.cell?_of_block (a := ⟨g, 1, none⟩) e).trans h.1.2⟩, (World.frozen?_of_block (a := ⟨g, 0, none⟩) e).trans h.2.1, (World.frozen?_of_block (a := ⟨g, 1, none⟩) e).trans h.2.2⟩
theorem Box.lt {w : World} {g : Nat} {x y : Value} (h : Box w g x y) : g < w.heap.size := block_lt_of_cell (a := ⟨g, 0, none⟩) h.1.1
theorem Box.new (w : World) (x y : Value) (t : TypeId) : Box (w.alloc (.cells #[x, y] t)) w.heap.size x y := ⟨box2 w x y t, by simp, by simp⟩
theorem Box.alloc {w : World} {g : Nat} {x y : Value} (h : Box w g x y) (o : Obj) : Box (w.alloc o) g x y := h.below ((Below.refl _ _).alloc (Nat.le_refl _) o)
theorem Box.other {w : World} {g g' j : Nat} {x y u : Value} (h : Box w g x y) (hne : g ≠ g') : Box (w.setCell ⟨g', j, none⟩ u) g x y := by
  have e : (w.setCell ⟨g', j, none⟩ u).heap[g]? = w.heap[g]? := heap_setCell_other w ⟨g', j, none⟩ g u hne
  exact ⟨⟨(World.cell?_of_block (a := ⟨g, 0, none⟩) e).trans h.1.1, (World.cell?_of_block (a := ⟨g, 1, none⟩) e).trans h.1.2⟩, (World.frozen?_of_block (a := ⟨g, 0, none⟩) e).trans h.2.1, (World.frozen?_of_block (a := ⟨g, 1, none⟩) e).trans h.2.2⟩
theorem Box.set0 {w : World} {g : Nat} {x y u : Value} (h : Box w g x y) : Box (w.setCell ⟨g, 0, none⟩ u) g u y :=
  ⟨⟨World.cell?_setCell_same _ _ _ h.1.1, (World.cell?_setCell_other _ _ _ _ (by simp)).trans h.1.2⟩, by rw [World.frozen?_setCell]; exact h.2.1, by rw [World.frozen?_setCell]; exact h.2.2⟩
theorem Box.set1 {w : World} {g : Nat} {x y u : Value} (h : Box w g x y) : Box (w.setCell ⟨g, 1, none⟩ u) g x u :=
  ⟨⟨(World.cell?_setCell_other _ _ _ _ (by simp)).trans h.1.1, World.cell?_setCell_same _ _ _ h.1.2⟩, by rw [World.frozen?_setCell]; exact h.2.1, by rw [World.frozen?_setCell]; exact h.2.2⟩
theorem DatAt.below {w w' : World} {v : Value} {l : List Int} (h : DatAt w w.heap.size v l) (hb : Below w.heap.size w w') : DatAt w' w'.heap.size v l := by
  obtain ⟨a, cap, e, hc, hd⟩ := h.same hb.block
  refine ⟨a, cap, e, hc, hd.imp_right ?_⟩
  rintro ⟨b, off, e2, hb', hcell⟩
  exact ⟨b, off, e2, by have := hb.size; omega, hcell⟩
theorem DatAt.set {w : World} {g n c R j : Nat} {u : Value} {l : List Int} (h : DatAt w w.heap.size (.slice (some ⟨g, 0, none⟩) n c) l) (hne : g ≠ R) : DatAt (w.setCell ⟨R, j, none⟩ u) (w.setCell ⟨R, j, none⟩ u).heap.size (.slice (some ⟨g, 0, none⟩) n c) l := by
  obtain ⟨a, cap, e, hc, hd⟩ := h
  refine ⟨a, cap, e, hc, hd.imp_right ?_⟩
  rintro ⟨b, off, e2, hb, hcell⟩
  have hgb : b = g := by
    rw [e2] at e
    simp only [Value.slice.injEq, Option.some.injEq, Addr.mk.injEq] at e
    exact e.1.1.symm
  refine ⟨b, off, e2, by simp; omega, fun i hi => ?_⟩
  exact (World.cell?_of_block (a := ⟨b, off + i, none⟩) (heap_setCell_other w ⟨R, j, none⟩ b u (by show b ≠ R; omega))).trans (hcell i hi)
/-- What is left behind the two rows. -/
def szL (n1 n2 : Nat) : Int := if (1048576 : Int) < n1 + n2 then -1 else 1048576 - n1 - n2
end Go.Proofs.Ytfcabmpklcmbgaa
