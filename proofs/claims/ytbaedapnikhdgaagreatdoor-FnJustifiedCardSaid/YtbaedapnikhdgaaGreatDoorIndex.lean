/- The program's rows rise: the row of a number is found by halving. No Go in sight. -/
import Derived.Test.YtbaedapnikhdgaaGreatDoorPlain
namespace Go.Proofs.YtbaedapnikhdgaaGreatDoor
def F (m : Nat) : Int := (tab.getD m Z4).1
def L (m : Nat) : Int := (tab.getD m Z4).2.1
def C (m : Nat) : Int := (tab.getD m Z4).2.2.1
def S (m : Nat) : Int := (tab.getD m Z4).2.2.2
theorem tab_length : tab.length = 49 := by decide
theorem rise0 : ((List.range 49).all fun i => decide (F i ≤ L i) && ((List.range 49).all fun j => decide (j ≤ i) || decide (L i < F j))) = true := by decide +kernel
theorem rise (i j : Nat) (hi : i < 49) (hj : j < 49) (h : i < j) : L i < F j := by
  have := List.all_eq_true.1 rise0 i (by simpa using hi)
  simp only [Bool.and_eq_true] at this
  have := List.all_eq_true.1 this.2 j (by simpa using hj)
  simp only [Bool.or_eq_true, decide_eq_true_eq] at this
  omega
theorem rise1 (i : Nat) (hi : i < 49) : F i ≤ L i := by
  have := List.all_eq_true.1 rise0 i (by simpa using hi)
  simp only [Bool.and_eq_true, decide_eq_true_eq] at this
  exact this.1
theorem bd0 : ((List.range 49).all fun i => decide (0 ≤ F i) && decide (F i ≤ 65535) && decide (0 ≤ L i) && decide (L i ≤ 65535) && decide (0 ≤ C i) && decide (C i ≤ 255) && decide (0 ≤ S i) && decide (S i ≤ 255)) = true := by decide +kernel
theorem bd (i : Nat) (hi : i < 49) : 0 ≤ F i ∧ F i ≤ 65535 ∧ 0 ≤ L i ∧ L i ≤ 65535 ∧ 0 ≤ C i ∧ C i ≤ 255 ∧ 0 ≤ S i ∧ S i ≤ 255 := by
  have := List.all_eq_true.1 bd0 i (by simpa using hi)
  simp only [Bool.and_eq_true, decide_eq_true_eq] at this
  omega
def upTo (p : Int) (r : Int × Int × Int × Int) : Bool := decide (p ≤ r.2.1)
def idx (p : Int) : Nat := tab.findIdx (upTo p)
theorem idx_le (p : Int) : idx p ≤ 49 := by
  have := List.findIdx_le_length (xs := tab) (p := upTo p)
  rw [tab_length] at this; exact this
theorem get_tab (m : Nat) (h : m < tab.length) : tab[m] = tab.getD m Z4 := by simp [List.getD, h]
theorem lt_idx (p : Int) (m : Nat) (h : m < idx p) : L m < p := by
  have := List.not_of_lt_findIdx (xs := tab) (p := upTo p) h
  have hm : m < tab.length := by rw [tab_length]; have := idx_le p; omega
  rw [get_tab m hm] at this
  simp only [upTo, decide_eq_false_iff_not] at this
  unfold L; omega
theorem at_idx (p : Int) (h : idx p < 49) : p ≤ L (idx p) := by
  have hl : idx p < tab.length := by rw [tab_length]; exact h
  have := List.findIdx_getElem (xs := tab) (p := upTo p) (w := hl)
  simp only [upTo, decide_eq_true_eq] at this
  have e := get_tab (idx p) hl
  unfold L
  rw [← e]
  exact this
theorem ge_idx (p : Int) (m : Nat) (hm : m < 49) (h : idx p ≤ m) : p ≤ L m := by
  have h0 := at_idx p (by omega)
  by_cases e : idx p = m
  · rw [← e]; exact h0
  · have := rise (idx p) m (by omega) hm (by omega)
    have := rise1 m hm
    omega
theorem in_iff (p : Int) (m : Nat) : inRow p (tab.getD m Z4) = true ↔ F m ≤ p ∧ p ≤ L m := by
  unfold inRow F L; simp
theorem row_none (p : Int) (h : idx p = 49 ∨ p < F (idx p)) : rowOf p = Z4 := by
  unfold rowOf find
  have : tab.find? (inRow p) = none := by
    rw [List.find?_eq_none]
    intro r hr
    obtain ⟨m, hm, rfl⟩ := List.getElem_of_mem hr
    have hm' : m < 49 := by rw [tab_length] at hm; exact hm
    rw [get_tab m hm, in_iff]
    intro ⟨a, b⟩
    by_cases hlt : m < idx p
    · have := lt_idx p m hlt; omega
    · rcases h with h | h
      · omega
      · by_cases e : idx p = m
        · rw [e] at h; omega
        · have h1 := rise (idx p) m (by omega) hm' (by omega)
          have h2 := at_idx p (by omega)
          omega
  rw [this]; rfl
theorem row_some (p : Int) (h : idx p < 49) (hf : F (idx p) ≤ p) : rowOf p = (F (idx p), L (idx p), C (idx p), S (idx p)) := by
  unfold rowOf find
  have hl : idx p < tab.length := by rw [tab_length]; exact h
  have : tab.find? (inRow p) = some (tab.getD (idx p) Z4) := by
    rw [List.find?_eq_some_iff_getElem]
    refine ⟨(in_iff p _).2 ⟨hf, at_idx p h⟩, idx p, hl, get_tab _ hl, ?_⟩
    intro j hj
    have hjl : j < tab.length := by omega
    rw [get_tab j hjl]
    have := lt_idx p j hj
    cases hh : inRow p (tab.getD j Z4)
    · rfl
    · have := (in_iff p j).1 hh; omega
  rw [this]; rfl
theorem find_nil (l : List (Int × Int × Int × Int)) (p : Int) (h : ∀ i, i < l.length → ¬ ((l.getD i Z4).1 ≤ p ∧ p ≤ (l.getD i Z4).2.1)) : find l p = Z4 := by
  unfold find
  have : l.find? (inRow p) = none := by
    rw [List.find?_eq_none]
    intro r hr
    obtain ⟨m, hm, rfl⟩ := List.getElem_of_mem hr
    have := h m hm
    have e : l.getD m Z4 = l[m] := by simp [List.getD, hm]
    rw [e] at this
    simpa [inRow] using this
  rw [this]; rfl
theorem find_at (l : List (Int × Int × Int × Int)) (p : Int) (k : Nat) (hk : k < l.length) (h : ∀ i, i < k → ¬ ((l.getD i Z4).1 ≤ p ∧ p ≤ (l.getD i Z4).2.1)) (h1 : (l.getD k Z4).1 ≤ p) (h2 : p ≤ (l.getD k Z4).2.1) : find l p = l.getD k Z4 := by
  unfold find
  have e : l.getD k Z4 = l[k] := by simp [List.getD, hk]
  have : l.find? (inRow p) = some (l.getD k Z4) := by
    rw [List.find?_eq_some_iff_getElem]
    refine ⟨by unfold inRow; simp only [Bool.and_eq_true, decide_eq_true_eq]; exact ⟨h1, h2⟩, k, hk, e.symm, ?_⟩
    intro j hj
    have hjl : j < l.length := by omega
    have := h j hj
    have ej : l.getD j Z4 = l[j] := by simp [List.getD, hjl]
    rw [ej] at this
    cases hh : inRow p l[j]
    · rfl
    · unfold inRow at hh; simp only [Bool.and_eq_true, decide_eq_true_eq] at hh; exact absurd hh this
  rw [this]; rfl
end Go.Proofs.YtbaedapnikhdgaaGreatDoor
