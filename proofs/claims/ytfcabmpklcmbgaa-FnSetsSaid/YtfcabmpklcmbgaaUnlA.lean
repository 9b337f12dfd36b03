/- Blocks of a row of numbers: are they unlike? Is a trie right? The program's answer. -/
import Derived.Test.YtfcabmpklcmbgaaPlaT
namespace Go.Proofs.Ytfcabmpklcmbgaa
open Go.RowKit
/-- A slice value that holds just the numbers l, below B. -/
def DatAt (w : World) (B : Nat) (v : Value) (l : List Int) : Prop :=
  ∃ a cap, v = .slice a l.length cap ∧ l.length ≤ cap ∧ (l = [] ∨ ∃ b off, a = some ⟨b, off, none⟩ ∧ b < B ∧ ∀ i, i < l.length → w.cell? ⟨b, off + i, none⟩ = some (.int .i64 (nth l i)))
theorem DatAt.ints {w : World} {B : Nat} {v : Value} {l : List Int} (h : DatAt w B v l) (hB : B ≤ w.heap.size) : IntsAt w v l := by
  obtain ⟨a, cap, rfl, _, h⟩ := h
  refine ⟨a, cap, rfl, h.imp_right ?_⟩
  rintro ⟨b, off, rfl, hb, hc⟩
  exact ⟨b, off, rfl, by omega, hc⟩
theorem DatAt.same {w w' : World} {B : Nat} {v : Value} {l : List Int} (h : DatAt w B v l) (hs : ∀ k, k < B → w'.heap[k]? = w.heap[k]?) : DatAt w' B v l := by
  obtain ⟨a, cap, rfl, hc, h⟩ := h
  refine ⟨a, cap, rfl, hc, h.imp_right ?_⟩
  rintro ⟨b, off, rfl, hb, hc⟩
  exact ⟨b, off, rfl, hb, fun i hi => (World.cell?_of_block (a := ⟨b, off + i, none⟩) (hs b hb)).trans (hc i hi)⟩
theorem DatAt.owned {w : World} {base : Nat} {v : Value} {l : List Int} {n : Nat} (h : w.ownsRow base 2 1 v n (l.map (Value.int .i64))) : DatAt w w.heap.size v l := by
  have hl : l.length = n := by simpa using h.1
  rcases h.2 with ⟨hv, hn⟩ | ⟨g, cap, cur, hv, hg, hh, hn, hm, hs, ht⟩
  · exact ⟨none, 0, by rw [hv, hl, hn], by omega, .inl (List.length_eq_zero_iff.1 (by omega))⟩
  · subst hv
    refine ⟨some ⟨g, 0, none⟩, cap, by rw [hl], by omega, .inr ⟨g, 0, rfl, (Array.getElem?_eq_some_iff.1 hh).1, fun i hi => ?_⟩⟩
    have hc := h.cellAt i (by omega)
    rw [Nat.zero_add, hc, List.getElem?_map]
    simp [nth, List.getD, hi]
theorem blk_cell {w : World} {B b off cap : Nat} {l : List Int} (hb : b < B) (hc : ∀ i, i < l.length → w.cell? ⟨b, off + i, none⟩ = some (.int .i64 (nth l i))) (c i : Nat) (hl : l.length = c * 64) (hi : i < c) : BlkAt w B (.slice (some ⟨b, off + i * 64, none⟩) 64 cap) (blk l i) := by
  refine ⟨blk_len l i c hl hi, b, off + i * 64, cap, rfl, hb, fun j hj => ?_⟩
  have := hc (i * 64 + j) (by omega)
  rw [← Nat.add_assoc] at this
  rw [this]
  unfold nth
  rw [blk_nth l i j hj]
theorem trie_no1 {ix dt : List Int} (h : ix.length ≠ 512) : trieFault ix dt = 1 := trieFault_no (fun hh => h hh.1)
theorem trie_no2 {ix dt : List Int} (h : dt.length % 64 ≠ 0) : trieFault ix dt = 1 := trieFault_no (fun hh => h hh.2.1)
theorem trie_no3 {ix dt : List Int} (h : 512 < dt.length / 64) : trieFault ix dt = 1 := trieFault_no (fun hh => by have := hh.2.2.1; omega)
theorem trie_no4 {ix dt : List Int} (h : ¬ Unlike dt (dt.length / 64)) : trieFault ix dt = 1 := trieFault_no (fun hh => h hh.2.2.2.1)
theorem trie_no5 {ix dt : List Int} (h : turns 0 ix ≠ some ((dt.length / 64 : Nat) : Int)) : trieFault ix dt = 1 := trieFault_no (fun hh => h hh.2.2.2.2)
end Go.Proofs.Ytfcabmpklcmbgaa
