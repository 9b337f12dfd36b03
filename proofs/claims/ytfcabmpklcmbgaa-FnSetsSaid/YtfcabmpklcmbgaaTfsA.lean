/- Is a trie right? The specification's answer. -/
import Derived.Test.YtfcabmpklcmbgaaUnlA
namespace Go.Proofs.Ytfcabmpklcmbgaa
open Go.RowKit
theorem box2 (w : World) (x y : Value) (t : TypeId) : (w.alloc (.cells #[x, y] t)).cell? ⟨w.heap.size, 0, none⟩ = some x ∧ (w.alloc (.cells #[x, y] t)).cell? ⟨w.heap.size, 1, none⟩ = some y := by
  constructor <;> simp
theorem DatAt.alloc {w : World} {v : Value} {l : List Int} (h : DatAt w w.heap.size v l) (o : Obj) : DatAt (w.alloc o) (w.alloc o).heap.size v l := by
  obtain ⟨a, cap, e, hc, hd⟩ := h
  refine ⟨a, cap, e, hc, hd.imp_right ?_⟩
  rintro ⟨b, off, e2, hb, hcell⟩
  exact ⟨b, off, e2, by simp; omega, fun i hi => cell_alloc (hcell i hi) o⟩
end Go.Proofs.Ytfcabmpklcmbgaa
