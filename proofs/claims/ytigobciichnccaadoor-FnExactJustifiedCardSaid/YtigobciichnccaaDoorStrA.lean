/- Rows of texts: read, held against each other, written over by marks that are texts. -/
import Derived.Test.YtigobciichnccaaDoorMarksA
import Derived.Test.YtigobciichnccaaDoorNPts
import Derived.Laws.Concat
import Derived.Test.YtigobciichnccaaDoorStpC
namespace Go.Proofs.YtigobciichnccaaDoor
open Go.RowKit
def nthS (l : List ByteArray) (i : Nat) : ByteArray := l.getD i ⟨#[]⟩
/-- A slice value that holds just the texts l. -/
def StrsAt (w : World) (v : Value) (l : List ByteArray) : Prop :=
  ∃ a cap, v = .slice a l.length cap ∧ (l = [] ∨ ∃ b off, a = some ⟨b, off, none⟩ ∧ b < w.heap.size ∧ ∀ i, i < l.length → w.cell? ⟨b, off + i, none⟩ = some (.string (nthS l i)))
theorem StrsAt.below {w w' : World} {v : Value} {l : List ByteArray} (h : StrsAt w v l) (hb : Below w.heap.size w w') : StrsAt w' v l := by
  obtain ⟨a, cap, rfl, h⟩ := h
  refine ⟨a, cap, rfl, ?_⟩
  rcases h with h | ⟨b, off, rfl, hbs, hc⟩
  · exact .inl h
  · exact .inr ⟨b, off, rfl, Nat.lt_of_lt_of_le hbs hb.size, fun i hi => (hb.cell (p := ⟨b, off + i, none⟩) hbs).trans (hc i hi)⟩
theorem StrsAt.owned {w : World} {base : Nat} {v : Value} {l : List ByteArray} {n : Nat} (h : w.ownsRow base 9 1 v n (l.map Value.string)) : StrsAt w v l := by
  have hl : l.length = n := by simpa using h.1
  rcases h.2 with ⟨hv, hn⟩ | ⟨g, cap, cur, hv, hg, hh, hn, hm, hs, ht⟩
  · exact ⟨none, 0, by rw [hv, hl, hn], .inl (List.length_eq_zero_iff.1 (by omega))⟩
  · subst hv
    refine ⟨some ⟨g, 0, none⟩, cap, by rw [hl], .inr ⟨g, 0, rfl, (Array.getElem?_eq_some_iff.1 hh).1, fun i hi => ?_⟩⟩
    have hc := h.cellAt i (by omega)
    rw [Nat.zero_add, hc, List.getElem?_map]
    simp [nthS, List.getD, hi]
theorem info9 : (Tryd.prog.info? 9).map (fun i => (i.zero, i.size, i.bytes)) = some (some (.string ⟨#[]⟩), 1, 16) := by kernel_rfl
/-- The digits of a number ahead of others. -/
def dgs : Nat → Nat → List Int → List Int
  | 0, _, o => o
  | f + 1, k, o => if k = 0 then o else dgs f (k / 10) ((48 + ((k % 10 : Nat) : Int)) :: o)
theorem dgs_step (f k : Nat) (o : List Int) (h : k ≠ 0) : dgs (f + 1) k o = dgs f (k / 10) ((48 + ((k % 10 : Nat) : Int)) :: o) := if_neg h
theorem dgs_zero (f : Nat) (o : List Int) : dgs f 0 o = o := by cases f <;> rfl
/-- The text that marks place k. -/
def mtx (k : Nat) : ByteArray := strOfNums ([109] ++ dgs k k [])
theorem str_plus (A B : List Int) : strOfNums A ++ strOfNums B = strOfNums (A ++ B) := by
  unfold strOfNums
  apply ByteArray.ext
  simp [ByteArray.data_append]
theorem str_add (A B : List Int) (h : A.length + B.length ≤ 100000000) (W : World) : (Op.stringOp .add (strOfNums A) (strOfNums B)).run Tryd.prog W = .ok (.string (strOfNums (A ++ B))) W := by
  rw [run_string_add_sum W _ _ (by rw [strOfNums_size, strOfNums_size]; omega), str_plus]
theorem al1 (w : World) (a : Obj) : Below w.heap.size w (w.alloc a) := (Below.refl _ _).alloc (Nat.le_refl _) _
end Go.Proofs.YtigobciichnccaaDoor
