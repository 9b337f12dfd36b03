/- A block put into the table, or found there. -/
import Derived.Test.YtfcabmpklcmbgaaTabA
import Derived.Test.YtfcabmpklcmbgaaApp2
import Derived.Deep.Cut
namespace Go.Proofs.Ytfcabmpklcmbgaa
open Go.RowKit
theorem row_read {w : World} {B g c : Nat} {l : List Nat} (h : w.ownsRow B 2 1 (.slice (some ⟨g, 0, none⟩) l.length c) l.length (natCells l)) (k : Nat) (hk : k < l.length) : w.cell? ⟨g, k, none⟩ = some (.int .i64 ((l.getD k 0 : Nat) : Int)) :=
  (h.cellAt k (by omega)).trans (natCells_at l k hk)
theorem own_at {w : World} {B : Nat} {e : TypeId} {v : Value} {n : Nat} {xs : List Value} (h : w.ownsRow B e 1 v n xs) (hn : 0 < n) : ∃ g c, v = .slice (some ⟨g, 0, none⟩) n c := by
  rcases h.2 with ⟨_, h0⟩ | ⟨g, cap, cur, hv, _⟩
  · omega
  · exact ⟨g, cap, hv⟩
theorem one_new (w : World) (x : Value) (t : TypeId) : ∀ j u, [x][j]? = some u → (w.alloc (.cells #[x] t)).cell? ((⟨w.heap.size, 0, none⟩ : Addr).add j) = some u := by
  intro j u hj
  match j, hj with
  | 0, hj => simp at hj; subst hj; simp [Addr.add]
  | (j + 1), hj => simp at hj
end Go.Proofs.Ytfcabmpklcmbgaa
