/- Marks written into passes, and found there again: the calls. -/
import Derived.Test.YtklakcnapdhcnaaDoorPasN
namespace Go.Proofs.YtklakcnapdhcnaaDoor.Pas
open Go.RowKit
set_option linter.unusedVariables false
/-- Of what was there only blocks from lo to hi changed. -/
def Chg (lo hi : Nat) (w w' : World) : Prop := Below lo w w' ∧ ∀ b, hi ≤ b → b < w.heap.size → w'.heap[b]? = w.heap[b]?
theorem Chg.refl (lo hi : Nat) (w : World) : Chg lo hi w w := ⟨Below.refl _ _, fun _ _ _ => rfl⟩
theorem Chg.grown {lo hi : Nat} {w w1 w2 : World} {g : Option Nat} (h : Chg lo hi w w1) (hg : w1.grownBy w2 g) (hl : lo ≤ w.heap.size) (hb : ∀ k, g = some k → lo ≤ k ∧ k < hi) : Chg lo hi w w2 := by
  obtain ⟨h1, h2⟩ := h
  obtain ⟨g1, g2, g3, g4, g5⟩ := hg
  refine ⟨⟨g1.trans h1.os, g2.trans h1.tape, g3.trans h1.output, Nat.le_trans h1.size g4, fun k hk => ?_⟩, fun b hb1 hb2 => ?_⟩
  · exact (g5 k (Nat.lt_of_lt_of_le hk (Nat.le_trans hl h1.size)) (fun e => by have := hb k e.symm; omega)).trans (h1.block k hk)
  · exact (g5 b (Nat.lt_of_lt_of_le hb2 h1.size) (fun e => by have := hb b e.symm; omega)).trans (h2 b hb1 hb2)
theorem Chg.set {lo hi : Nat} {w w1 : World} {g j : Nat} {u : Value} (h : Chg lo hi w w1) (h1 : lo ≤ g) (h2 : g < hi) : Chg lo hi w (w1.setCell ⟨g, j, none⟩ u) := by
  refine ⟨h.1.setCell (p := ⟨g, j, none⟩) h1 u, fun b hb hl => ?_⟩
  rw [heap_setCell_other w1 ⟨g, j, none⟩ b u (by show b ≠ g; omega)]
  exact h.2 b hb hl
end Go.Proofs.YtklakcnapdhcnaaDoor.Pas
