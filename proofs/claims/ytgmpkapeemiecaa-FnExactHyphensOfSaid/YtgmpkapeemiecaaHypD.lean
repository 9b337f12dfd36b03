/- Dots ahead, behind and within: what the program asks of letters is what the patterns' rule says (pure). -/
import Derived.Test.YtgmpkapeemiecaaHypW
namespace Go.Proofs.Ytgmpkapeemiecaa
namespace Hyp
open Go.RowKit
set_option linter.unusedVariables false
theorem idx_ge (l : List UInt8) (c : UInt8) : 0 ≤ Lib.indexByte l c ↔ c ∈ l := by
  induction l with
  | nil => simp [Lib.indexByte]
  | cons b l ih =>
    have hg := Lib.indexByte_ge l c
    unfold Lib.indexByte
    by_cases h : b = c
    · simp [h]
    · have h' : (b == c) = false := by simpa using h
      rw [h']
      simp only [Bool.false_eq_true, if_false, List.mem_cons]
      by_cases e : Lib.indexByte l c = -1
      · have e' : (Lib.indexByte l c == -1) = true := by simpa using e
        rw [e']
        simp only [if_true]
        constructor
        · intro hh; omega
        · rintro (hh | hh)
          · exact absurd hh.symm h
          · have := ih.2 hh; omega
      · have e' : (Lib.indexByte l c == -1) = false := by simpa using e
        rw [e']
        simp only [Bool.false_eq_true, if_false]
        constructor
        · intro _; exact .inr (ih.1 (by omega))
        · intro _; omega
theorem ext_list (x : ByteArray) (a b : Nat) : (x.extract a b).data.toList = (x.data.toList.take b).drop a := by
  rw [ByteArray.data_extract, Array.toList_extract, List.extract_eq_take_drop, List.drop_take]
def tp (l : List UInt8) : List UInt8 := if l.take 1 = [46] then l.drop 1 else l
def ts (l : List UInt8) : List UInt8 := if l.drop (l.length - 1) = [46] then l.take (l.length - 1) else l
theorem sz_list (x : ByteArray) : x.size = x.data.toList.length := by rw [Array.length_toList, ByteArray.size_data]
theorem trP_list (x : ByteArray) : (trP x).data.toList = tp x.data.toList := by
  have e : (x.extract 0 1).toList = x.data.toList.take 1 := by rw [ByteArray.toList_eq, ext_list, List.drop_zero]
  have e2 : (x.extract 1 x.size).data.toList = x.data.toList.drop 1 := by rw [ext_list, sz_list, List.take_length]
  have hs := sz_list x
  have hp : hdP x = (decide (0 < x.size) && ((x.extract 0 1).toList == [46])) := rfl
  rw [e] at hp
  unfold trP tp
  by_cases h : x.data.toList.take 1 = [46]
  · have h0 : 0 < x.size := by
      rw [hs]
      cases hl : x.data.toList with
      | nil => rw [hl] at h; cases h
      | cons a l => exact Nat.succ_pos _
    have : hdP x = true := by rw [hp, h, decide_eq_true h0]; rfl
    rw [if_pos h, if_pos this, e2]
  · have : ¬ hdP x = true := by
      rw [hp]
      intro hh
      rw [Bool.and_eq_true, beq_iff_eq] at hh
      exact h hh.2
    rw [if_neg h, if_neg this]
theorem trS_list (x : ByteArray) : (trS x).data.toList = ts x.data.toList := by
  have e : (x.extract (x.size - 1) x.size).toList = x.data.toList.drop (x.data.toList.length - 1) := by
    rw [ByteArray.toList_eq, ext_list, sz_list, List.take_length]
  have e2 : (x.extract 0 (x.size - 1)).data.toList = x.data.toList.take (x.data.toList.length - 1) := by rw [ext_list, sz_list, List.drop_zero]
  have hs := sz_list x
  have hp : hdS x = (decide (0 < x.size) && ((x.extract (x.size - 1) x.size).toList == [46])) := rfl
  rw [e] at hp
  unfold trS ts
  by_cases h : x.data.toList.drop (x.data.toList.length - 1) = [46]
  · have h0 : 0 < x.size := by
      rw [hs]
      cases hl : x.data.toList with
      | nil => rw [hl] at h; cases h
      | cons a l => exact Nat.succ_pos _
    have : hdS x = true := by rw [hp, h, decide_eq_true h0]; rfl
    rw [if_pos h, if_pos this, e2]
  · have : ¬ hdS x = true := by
      rw [hp]
      intro hh
      rw [Bool.and_eq_true, beq_iff_eq] at hh
      exact h hh.2
    rw [if_neg h, if_neg this]
theorem trim_mem (a z : UInt8) (k : List UInt8) : 46 ∈ ts (tp (a :: (k ++ [z]))) ↔ 46 ∈ k := by
  have h1 : ts (k ++ [z]) = if z = 46 then k else k ++ [z] := by
    unfold ts
    simp
  have h2 : ts (a :: (k ++ [z])) = if z = 46 then a :: k else a :: (k ++ [z]) := by
    have := h1
    unfold ts
    have e : (a :: (k ++ [z])).length - 1 = (a :: k).length := by simp
    rw [e, ← List.cons_append]
    simp
  unfold tp
  by_cases ha : a = 46
  · rw [if_pos (by simp [ha])]
    simp only [List.drop_succ_cons, List.drop_zero]
    rw [h1]
    split
    · exact Iff.rfl
    · rename_i hz
      simp [Ne.symm hz]
  · rw [if_neg (by simp [ha]), h2]
    split
    · simp [Ne.symm ha]
    · rename_i hz
      simp [Ne.symm hz, Ne.symm ha]
theorem trim_one (a : UInt8) : ¬ 46 ∈ ts (tp [a]) := by
  unfold tp
  by_cases ha : a = 46
  · rw [if_pos (by simp [ha])]
    simp [ts]
  · rw [if_neg (by simp [ha])]
    unfold ts
    simp [ha, Ne.symm ha]
def by8 (c : Int) : UInt8 := UInt8.ofNat c.toNat
theorem by8_dot {c : Int} (h : ltr c) : by8 c = 46 ↔ c = 46 := by
  unfold ltr at h
  constructor
  · intro e
    have := congrArg UInt8.toNat e
    unfold by8 at this
    rw [UInt8.toNat_ofNat_of_lt' (by show c.toNat < 256; omega)] at this
    simp at this
    omega
  · intro e
    subst e
    rfl
theorem inner_mem (a z : Int) (k : List Int) : inner (a :: (k ++ [z])) = true ↔ 46 ∈ k := by
  rw [inner_iff]
  constructor
  · rintro ⟨i, h1, h2, h3⟩
    obtain ⟨j, rfl⟩ : ∃ j, i = j + 1 := ⟨i - 1, by omega⟩
    simp at h2
    rw [List.getD_cons_succ, List.getD_eq_getElem?_getD, List.getElem?_append_left (by omega), List.getElem?_eq_getElem (by omega)] at h3
    exact (show k[j] = 46 from h3) ▸ List.getElem_mem _
  · intro h
    obtain ⟨j, hj, e⟩ := List.getElem_of_mem h
    refine ⟨j + 1, by omega, by simp; omega, ?_⟩
    rw [List.getD_cons_succ, List.getD_eq_getElem?_getD, List.getElem?_append_left hj, List.getElem?_eq_getElem hj]
    exact e
theorem dots_inner {L : List Int} (h : ∀ x ∈ L, ltr x) : dots (trS (trP (strOfNums L))) = inner L := by
  rw [Bool.eq_iff_iff]
  unfold dots
  rw [decide_eq_true_iff, idx_ge, trS_list, trP_list]
  have e : (strOfNums L).data.toList = L.map by8 := rfl
  rw [e]
  cases L with
  | nil => simp [tp, ts, inner]
  | cons a m =>
    rcases List.eq_nil_or_concat m with rfl | ⟨k, z, rfl⟩
    · have h2 : inner [a] = false := inner_no (fun i h1 h2 => by simp at h2)
      rw [h2]
      have := trim_one (by8 a)
      simpa using this
    · rw [List.concat_eq_append] at *
      rw [inner_mem, List.map_cons, List.map_append, List.map_cons, List.map_nil, trim_mem, List.mem_map]
      constructor
      · rintro ⟨c, hc, e⟩
        have := (by8_dot (h c (by simp [hc]))).1 e
        exact this ▸ hc
      · intro hc
        exact ⟨46, hc, rfl⟩
theorem lrt_ok {s : St} {i : Nat} (h : Ok s i) : (s.b && lrt (strOfNums s.L)) = okP s := by
  unfold lrt okP
  rw [strOfNums_size, dots_inner h.lt, Bool.and_assoc]
end Hyp
end Go.Proofs.Ytgmpkapeemiecaa
