/- Marks written into spans, told by the one block that they change; the laws of the sets. -/
import Derived.Test.YtfcabmpklcmbgaaSetX
namespace Go.Proofs.Ytfcabmpklcmbgaa
open Go.RowKit
theorem grown_refl (w : World) (r : Option Nat) : w.grownBy w r := ⟨rfl, rfl, rfl, Nat.le_refl _, fun _ _ _ => rfl⟩
theorem grown_set {w w' : World} {g j : Nat} {u : Value} (h : w.grownBy w' (some g)) : w.grownBy (w'.setCell ⟨g, j, none⟩ u) (some g) :=
  ⟨h.os, h.tape, h.output, by simp; exact h.size, fun k hk hne => (heap_setCell_other w' ⟨g, j, none⟩ k u (fun e => hne (by rw [e]))).trans (h.block k hk hne)⟩
theorem row_grown {w w' : World} {B g : Nat} {v : Value} {L : List Sp} (h : SpRow w B v L) (hg : w.grownBy w' (some g)) (hne : ∀ k, v.ownBlock = some k → k ≠ g) : SpRow w' B v L :=
  World.ownsRow.kept h hg (.inr (fun e => by
    exact hne g e rfl))
theorem row_belowB {w w' : World} {B N : Nat} {v : Value} {L : List Sp} (h : SpRow w B v L) (hb : Below N w w') (hl : ∀ k, v.ownBlock = some k → k < N) : SpRow w' B v L :=
  ownsRow_at h (fun k hk => hb.block k (hl k hk))
theorem grown_below {w w' : World} {g B : Nat} (h : w.grownBy w' (some g)) (hB : B ≤ g) (hs : B ≤ w.heap.size) : Below B w w' :=
  (Below.refl B w).grown h hs (fun k hk => by injection hk with hk; omega)
end Go.Proofs.Ytfcabmpklcmbgaa
