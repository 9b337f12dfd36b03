/- Sets joined, met, taken away: what the merging needs. -/
import Derived.Test.YtfcabmpklcmbgaaSetM
import Derived.Deep.RegionWith
import Derived.Handy
namespace Go.Proofs.Ytfcabmpklcmbgaa
open Go.RowKit
theorem row_other {w : World} {B g j : Nat} {u v : Value} {L : List Sp} (h : SpRow w B v L) (hg : g < B) : SpRow (w.setCell ⟨g, j, none⟩ u) B v L :=
  World.ownsRow.kept h (set_grown (R := g)) (.inr (fun e => own_ge h hg e.symm))
theorem row_base {w : World} {B B' : Nat} {v : Value} {L : List Sp} (h : SpRow w B v L) (hb : B' ≤ B) : SpRow w B' v L := by
  refine ⟨h.1, ?_⟩
  rcases h.2 with h' | ⟨g, cap, cur, hv, hg, r⟩
  · exact .inl h'
  · exact .inr ⟨g, cap, cur, hv, by omega, r⟩
theorem mi_done {how : Nat} {A C M : List Sp} {i j k : Nat} {b : Int} (hA : right A = true) (hC : right C = true) (h : MI how A C M i j k b) (hk : k = 2 * (A.length + C.length)) : SetOf how A C M := by
  have hi := h.hi
  have hj := h.hj
  have hkk := h.hk
  have ei : i = 2 * A.length := by omega
  have ej : j = 2 * C.length := by omega
  refine .inl ⟨hA, hC, sets_gap h.st h.b1 (fun p a c => ?_)⟩
  rw [fS_between hA hC h p a (by rw [ei, edge_end]; omega) (by rw [ej, edge_end]; omega)]
  have o1 : odd i = false := by unfold odd; exact decide_eq_false (by omega)
  have o2 : odd j = false := by unfold odd; exact decide_eq_false (by omega)
  rw [o1, o2]
  unfold comb
  split
  · rfl
  · split <;> rfl
theorem edge_nonneg {L : List Sp} (hr : right L = true) (i : Nat) (hi : i ≤ 2 * L.length) : 0 ≤ edge L i := by
  by_cases e : i = 2 * L.length
  · rw [e, edge_end]; omega
  · exact (edge_bd hr i (by omega)).1
end Go.Proofs.Ytfcabmpklcmbgaa
