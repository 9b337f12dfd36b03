/- Tailors by the laws' own functions: their size, one handed over, two held against each other. -/
import Derived.Test.YtdgafmhjbgddkaaDoorWrdV
namespace Go.Proofs.YtdgafmhjbgddkaaDoor
namespace Wrd
open Go.RowKit
open Chr (bel1)
def tlV (t : Tl) : Value := .agg #[.int .i64 t.1, .int .i64 t.2.1, .bool t.2.2]
set_option maxRecDepth 100000 in
theorem toTl (t : Tl) (w : World) : Calls Tryd.prog 20 #[tlV t] w fun e w' => e = .returned (tlV t) ∧ Below w.heap.size w w' := by
  obtain ⟨x, y, c⟩ := t
  unfold tlV
  simp only
  go_enter Tryd.func20, Tryd.ntmps20
  go_wp2
  refine bodyPost_ret (by simp [results, Tryd.results20, go_sem]; try rfl) rfl ?_
  refine ⟨rfl, ?_⟩
  repeat' first
    | exact Below.refl _ _
    | (refine Below.setCell ?_ (by simp <;> omega) _)
    | (refine Below.alloc ?_ (by simp <;> omega) _)
set_option maxRecDepth 100000 in
theorem eqTl (t : Tl) (w : World) : Calls Tryd.prog 24 #[tlV t, tlV t] w fun e w' => e = .returned (.bool true) ∧ Below w.heap.size w w' := by
  obtain ⟨x, y, c⟩ := t
  unfold tlV
  simp only
  have hx : (x != x) = false := by simp
  have hy : (y != y) = false := by simp
  have hc : (c != c) = false := by simp
  go_enter Tryd.func24, Tryd.ntmps24
  go_wp2
  go_ret
  exact ⟨rfl, Chr.bel2 _ _ _⟩
set_option maxRecDepth 100000 in
theorem szTl (v : Value) (L : List Tl) (m : Nat) (w : World) (hv : TlAt w v L) (hl : L.length ≤ 9223372036854775807) (hm : m ≤ 1048576) :
    Calls Tryd.prog 5 #[v, .int .i64 (m : Int)] w fun e w' => ∃ r : Int, e = .returned (.int .i64 r) ∧ w' = w ∧ (r < 0 ∨ (0 ≤ r ∧ r ≤ (m : Int) ∧ L.length ≤ m)) := by
  obtain ⟨a, cap, rfl, _⟩ := hv
  by_cases h0 : (m : Int) - (L.length : Int) < 0
  · go_enter Tryd.func5, Tryd.ntmps5
    go_wp2
    go_ret
    exact ⟨-1, rfl, rfl, .inl (by omega)⟩
  · go_enter Tryd.func5, Tryd.ntmps5
    go_wp2
    go_ret
    exact ⟨_, rfl, rfl, .inr ⟨by omega, by omega, by omega⟩⟩
end Wrd
end Go.Proofs.YtdgafmhjbgddkaaDoor
