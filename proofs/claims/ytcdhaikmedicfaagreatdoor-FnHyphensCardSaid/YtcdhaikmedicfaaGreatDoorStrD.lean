/- Rows of texts that came in: their size, and a copy of them. -/
import Derived.Test.YtcdhaikmedicfaaGreatDoorSA
namespace Go.Proofs.YtcdhaikmedicfaaGreatDoor
open Go.RowKit
theorem strs_rd {w : World} {v : Value} {L : List ByteArray} (h : StrsAt w v L) (hl : 0 < L.length) : ∃ b off cap, v = .slice (some ⟨b, off, none⟩) L.length cap ∧ b < w.heap.size ∧ ∀ i, i < L.length → w.cell? ⟨b, off + i, none⟩ = some (.string (nthS L i)) := by
  obtain ⟨a, cap, rfl, h⟩ := h
  rcases h with h | ⟨b, off, rfl, hbs, hc⟩
  · rw [h] at hl; simp at hl
  · exact ⟨b, off, cap, rfl, hbs, hc⟩
theorem mem_of_nthS {L : List ByteArray} {x : ByteArray} (h : x ∈ L) : ∃ k, k < L.length ∧ nthS L k = x := by
  obtain ⟨k, hk, e⟩ := List.getElem_of_mem h
  exact ⟨k, hk, by simp [nthS, List.getD, hk, e]⟩
def fillX (l : List ByteArray) (k : Nat) : List ByteArray := l.take k ++ List.replicate (l.length - k) ⟨#[]⟩
theorem fillX_zero (l : List ByteArray) : fillX l 0 = List.replicate l.length ⟨#[]⟩ := by simp [fillX]
theorem fillX_all (l : List ByteArray) : fillX l l.length = l := by simp [fillX]
theorem fillX_set (l : List ByteArray) (k : Nat) (h : k < l.length) (f : ByteArray → Value) : ((fillX l k).map f).set k (f (nthS l k)) = (fillX l (k + 1)).map f := by
  rw [← List.map_set]
  congr 1
  unfold fillX
  have hk : (l.take k).length = k := by simp; omega
  have e1 : l.length - k = (l.length - (k + 1)) + 1 := by omega
  rw [e1, List.replicate_succ, List.set_append_right _ _ (by omega), hk, Nat.sub_self, List.set_cons_zero, List.take_succ_eq_append_getElem h]
  have e2 : nthS l k = l[k] := by simp [nthS, List.getD, h]
  rw [e2, List.append_assoc]
  rfl
theorem fillX_length (l : List ByteArray) (k : Nat) (h : k ≤ l.length) : (fillX l k).length = l.length := by simp [fillX]; omega
theorem madeX {w1 : World} {B : Nat} {v : Value} {l : List ByteArray} (h : w1.ownsRow B 9 1 v l.length (madeCells #[Value.string ⟨#[]⟩] l.length).toList) : w1.ownsRow B 9 1 v l.length ((fillX l 0).map Value.string) := by
  have e : (madeCells #[Value.string ⟨#[]⟩] l.length).toList = (fillX l 0).map Value.string := by
    rw [fillX_zero, List.map_replicate]
    exact toList_madeCells_one _ _
  rw [← e]; exact h
end Go.Proofs.YtcdhaikmedicfaaGreatDoor
