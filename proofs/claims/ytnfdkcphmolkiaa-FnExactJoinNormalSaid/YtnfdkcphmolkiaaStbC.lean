/- Rows whose chunks are in order; stretches in order merged, of any length. -/
import Derived.Test.YtnfdkcphmolkiaaSymC
namespace Go.Proofs.Ytnfdkcphmolkiaa
open Go.RowKit
theorem merges_all : ∀ n, Merges n
  | 0 => fun _ _ _ _ _ _ _ _ _ _ _ X Y _ h1 h2 _ _ _ _ _ _ _ _ _ => by omega
  | n + 1 => fun w0 w g cap a m b N A B P X Y Q hn hX0 hY0 hX hY ha hm hb hN hbd S => by
    by_cases h1 : X.length = 1
    · obtain ⟨x, rfl⟩ : ∃ x, X = [x] := List.length_eq_one_iff.1 h1
      refine symOne w0 w g cap a m b N A B P Y Q x hY ha (by simpa using hm) (by simp at hm; omega) (by simp at hm; omega) hbd ?_
      simpa using S
    · by_cases h2 : Y.length = 1
      · obtain ⟨y, rfl⟩ : ∃ y, Y = [y] := List.length_eq_one_iff.1 h2
        refine symLast w0 w g cap a m b N A B P X Q y hX (by omega) ha hm (by simpa using hb) (by simp at hb; omega) hbd ?_
        simpa using S
      · exact sym_step n (merges_all n) w0 w g cap a m b N A B P X Y Q hn (by omega) (by omega) hX hY ha hm hb hN hbd S
/-- Each chunk of k is in order. -/
def Ch (k : Nat) (L : List Int) : Prop := ∀ i, Srt clsLt ((L.drop (i * k)).take k)
theorem ch_nil (k : Nat) : Ch k [] := fun i => by simp [Srt]
theorem ch_one {k : Nat} {Z : List Int} (h : Srt clsLt Z) (hl : Z.length ≤ k) : Ch k Z := fun i => by
  by_cases hi : i = 0
  · subst hi
    rw [Nat.zero_mul, List.drop_zero, List.take_of_length_le hl]
    exact h
  · have : 1 * k ≤ i * k := Nat.mul_le_mul_right k (by omega)
    rw [List.drop_eq_nil_iff.2 (by omega)]
    simp [Srt]
theorem ch_app {k q : Nat} {A B : List Int} (hA : Ch k A) (hB : Ch k B) (hl : A.length = q * k) : Ch k (A ++ B) := fun i => by
  by_cases hi : i < q
  · have : (i + 1) * k ≤ q * k := Nat.mul_le_mul_right k (by omega)
    rw [Nat.add_mul, Nat.one_mul] at this
    rw [List.drop_append_of_le_length (by omega), List.take_append_of_le_length (by rw [List.length_drop]; omega)]
    exact hA i
  · obtain ⟨j, rfl⟩ : ∃ j, i = q + j := ⟨i - q, by omega⟩
    have e : (A ++ B).drop ((q + j) * k) = B.drop (j * k) := by
      rw [Nat.add_mul, ← hl, List.drop_append]
      simp
    rw [e]
    exact hB j
theorem ch_drop {k : Nat} {L : List Int} (h : Ch k L) (j : Nat) : Ch k (L.drop (j * k)) := fun i => by
  rw [List.drop_drop, ← Nat.add_mul]
  exact h (j + i)
theorem ch_take {k : Nat} {L : List Int} (h : Ch k L) : Srt clsLt (L.take k) := by
  have := h 0
  rwa [Nat.zero_mul, List.drop_zero] at this
theorem ch_all {k : Nat} {L : List Int} (h : Ch k L) (hl : L.length ≤ k) : Srt clsLt L := by
  have := ch_take h
  rwa [List.take_of_length_le hl] at this
/-- Some chunks of twice the length done, those behind still of the single one. -/
structure Half (k a : Nat) (X Pd R : List Int) : Prop where
  dn : Ch (2 * k) Pd
  td : Ch k R
  le : Pd.length = a
  mu : ∃ q, a = q * (2 * k)
  st : StEq clsLt (Pd ++ R) X
theorem Half.start {k : Nat} {X L : List Int} (h : Ch k L) (hs : StEq clsLt L X) : Half k 0 X [] L := ⟨ch_nil _, h, rfl, ⟨0, by simp⟩, by simpa using hs⟩
theorem Half.two {k a : Nat} {X Pd R : List Int} (h : Half k a X Pd R) (hl : 2 * k ≤ R.length) : R = R.take k ++ (R.drop k).take k ++ R.drop (2 * k) ∧ (R.take k).length = k ∧ ((R.drop k).take k).length = k ∧ Srt clsLt (R.take k) ∧ Srt clsLt ((R.drop k).take k) := by
  have e1 : (R.drop k).drop k = R.drop (2 * k) := by rw [List.drop_drop]; congr 1; omega
  refine ⟨?_, by rw [List.length_take]; omega, by rw [List.length_take, List.length_drop]; omega, ch_take h.td, ?_⟩
  · rw [List.append_assoc, ← e1, List.take_append_drop, List.take_append_drop]
  · have := h.td 1
    rwa [Nat.one_mul] at this
theorem Half.next {k a : Nat} {X Pd R Z : List Int} (h : Half k a X Pd R) (hl : 2 * k ≤ R.length) (hs : Srt clsLt Z) (he : StEq clsLt Z (R.take k ++ (R.drop k).take k)) : Half k (a + 2 * k) X (Pd ++ Z) (R.drop (2 * k)) := by
  obtain ⟨e1, l1, l2, _, _⟩ := h.two hl
  have lZ := StEq.length cls_weak he
  rw [List.length_append, l1, l2] at lZ
  obtain ⟨q, hq⟩ := h.mu
  refine ⟨ch_app h.dn (ch_one hs (by omega)) (by rw [h.le]; exact hq), ch_drop h.td 2, by rw [List.length_append, h.le]; omega, ⟨q + 1, by rw [Nat.add_mul, ← hq]; omega⟩, ?_⟩
  refine StEq.trans ?_ h.st
  have : StEq clsLt (Pd ++ (Z ++ R.drop (2 * k))) (Pd ++ ((R.take k ++ (R.drop k).take k) ++ R.drop (2 * k))) := (StEq.refl Pd).app (he.app (StEq.refl _))
  rw [← e1, ← List.append_assoc] at this
  exact this
theorem Half.last {k a : Nat} {X Pd R Z : List Int} (h : Half k a X Pd R) (hl : R.length < 2 * k) (hs : Srt clsLt Z) (he : StEq clsLt Z R) : Ch (2 * k) (Pd ++ Z) ∧ StEq clsLt (Pd ++ Z) X := by
  have lZ := StEq.length cls_weak he
  obtain ⟨q, hq⟩ := h.mu
  exact ⟨ch_app h.dn (ch_one hs (by omega)) (by rw [h.le]; exact hq), ((StEq.refl Pd).app he).trans h.st⟩
end Go.Proofs.Ytnfdkcphmolkiaa
