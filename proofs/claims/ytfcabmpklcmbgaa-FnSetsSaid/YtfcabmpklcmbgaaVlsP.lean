/- Values of points by spans, and rows told by a function: no Go in sight. -/
import Derived.Test.YtfcabmpklcmbgaaSetP
namespace Go.Proofs.Ytfcabmpklcmbgaa
/-- What the first k spans tell of a point, the last one that has it first; else other. -/
def pvU (L : List Sp) (o : Int) : Nat → Int → Int
  | 0, _ => o
  | k + 1, p => if (gx L k).1 ≤ p ∧ p ≤ (gx L k).2.1 then (gx L k).2.2 else pvU L o k p
def pv (L : List Sp) (o : Int) (p : Int) : Int := pvU L o L.length p
theorem pvU_in {L : List Sp} {o : Int} {k : Nat} {p : Int} (h : (gx L k).1 ≤ p ∧ p ≤ (gx L k).2.1) : pvU L o (k + 1) p = (gx L k).2.2 := if_pos h
theorem pvU_out {L : List Sp} {o : Int} {k : Nat} {p : Int} (h : ¬ ((gx L k).1 ≤ p ∧ p ≤ (gx L k).2.1)) : pvU L o (k + 1) p = pvU L o k p := if_neg h
/-- The row of n numbers that a function tells. -/
def tabF (n : Nat) (F : Nat → Int) : List Int := (List.range n).map F
theorem tabF_len (n : Nat) (F : Nat → Int) : (tabF n F).length = n := by simp [tabF]
theorem tabF_at (n : Nat) (F : Nat → Int) (i : Nat) (h : i < n) : (tabF n F).getD i 0 = F i := by simp [tabF, List.getD, h]
theorem tabF_ext {n : Nat} {F G : Nat → Int} (h : ∀ i, i < n → F i = G i) : tabF n F = tabF n G := by
  unfold tabF
  apply List.map_congr_left
  intro i hi
  exact h i (List.mem_range.1 hi)
def upd (F : Nat → Int) (p : Nat) (x : Int) : Nat → Int := fun i => if i = p then x else F i
theorem tabF_set (n : Nat) (F : Nat → Int) (p : Nat) (x : Int) (f : Int → Value) (_ : p < n) : ((tabF n F).map f).set p (f x) = (tabF n (upd F p x)).map f := by
  rw [← List.map_set]
  congr 1
  apply List.ext_getElem
  · simp [tabF]
  · intro i h1 h2
    rw [List.getElem_set]
    simp only [tabF, List.getElem_map, List.getElem_range, upd]
    by_cases e : i = p
    · simp [e]
    · simp [e, Ne.symm e]
theorem tabF_replicate (n : Nat) (x : Int) : tabF n (fun _ => x) = List.replicate n x := by
  unfold tabF
  apply List.ext_getElem
  · simp
  · intro i h1 h2; simp
/-- The row while the k-th span is laid: up to p it is. -/
def laying (L : List Sp) (o : Int) (k : Nat) (p : Int) : Nat → Int := fun q => if (gx L k).1 ≤ (q : Int) ∧ (q : Int) < p then (gx L k).2.2 else pvU L o k q
theorem laying_start (L : List Sp) (o : Int) (k n : Nat) : tabF n (laying L o k (gx L k).1) = tabF n (fun q => pvU L o k q) :=
  tabF_ext fun i _ => if_neg (by omega)
theorem laying_step (L : List Sp) (o : Int) (k n : Nat) (p : Nat) (h1 : (gx L k).1 ≤ (p : Int)) : tabF n (upd (laying L o k p) p (gx L k).2.2) = tabF n (laying L o k ((p : Int) + 1)) := by
  refine tabF_ext fun i _ => ?_
  unfold upd laying
  by_cases e : i = p
  · rw [if_pos e, if_pos (by omega)]
  · rw [if_neg e]
    by_cases h : (gx L k).1 ≤ (i : Int) ∧ (i : Int) < p
    · rw [if_pos h, if_pos (by omega)]
    · rw [if_neg h, if_neg (by omega)]
theorem laying_end (L : List Sp) (o : Int) (k n : Nat) : tabF n (laying L o k ((gx L k).2.1 + 1)) = tabF n (fun q => pvU L o (k + 1) q) := by
  refine tabF_ext fun i _ => ?_
  unfold laying
  by_cases h : (gx L k).1 ≤ (i : Int) ∧ (i : Int) ≤ (gx L k).2.1
  · rw [if_pos (by omega), pvU_in h]
  · rw [if_neg (by omega), pvU_out h]
/-- Spans with the value 1. -/
def ones (L : List Sp) : List Sp := L.map fun r => (r.1, r.2.1, 1)
theorem ones_len (L : List Sp) : (ones L).length = L.length := by simp [ones]
theorem ones_gx (L : List Sp) (i : Nat) (h : i < L.length) : gx (ones L) i = ((gx L i).1, (gx L i).2.1, 1) := by
  simp [gx, ones, List.getD, h]
theorem ones_okFrom : ∀ (L : List Sp) (e : Int), okFrom e (ones L) = okFrom e L
  | [], _ => rfl
  | r :: t, e => by
    have := ones_okFrom t r.2.1
    show (_ && okFrom r.2.1 (ones t)) = _
    rw [this]
    rfl
theorem ones_right (L : List Sp) : right (ones L) = right L := by
  unfold right
  rw [ones_len, ones_okFrom]
theorem pvU_ones (L : List Sp) (p : Int) : ∀ k, k ≤ L.length → pvU (ones L) 0 k p = bI (has (L.take k) p)
  | 0, _ => by simp [pvU, bI, has]
  | k + 1, hk => by
    have ih := pvU_ones L p k (by omega)
    have ht : L.take (k + 1) = L.take k ++ [gx L k] := by
      rw [List.take_succ_eq_append_getElem (by omega)]
      have : gx L k = L[k] := by simp [gx, List.getD, show k < L.length by omega]
      rw [this]
    rw [ht]
    unfold pvU
    rw [ones_gx L k (by omega), ih]
    unfold has
    rw [List.any_append]
    by_cases h : (gx L k).1 ≤ p ∧ p ≤ (gx L k).2.1
    · rw [if_pos h]
      simp [bI, h.1, h.2]
    · rw [if_neg h]
      have : (decide ((gx L k).1 ≤ p) && decide (p ≤ (gx L k).2.1)) = false := by
        rw [Bool.eq_false_iff]; simpa using h
      simp [this]
theorem pv_ones (L : List Sp) (p : Int) : pv (ones L) 0 p = bI (has L p) := by
  unfold pv
  rw [ones_len, pvU_ones L p _ (Nat.le_refl _), List.take_length]
theorem pvU_sub (L : List Sp) (o : Int) (p : Int) (k : Nat) : pvU L o k p = o ∨ ∃ i, i < k ∧ pvU L o k p = (gx L i).2.2 := by
  induction k with
  | zero => exact .inl rfl
  | succ k ih =>
    by_cases h : (gx L k).1 ≤ p ∧ p ≤ (gx L k).2.1
    · exact .inr ⟨k, by omega, pvU_in h⟩
    · rw [pvU_out h]
      rcases ih with ih | ⟨i, hi, ih⟩
      · exact .inl ih
      · exact .inr ⟨i, by omega, ih⟩
/-- Stretches of a row, one number after the other: the last span goes on, or a new one begins. -/
theorem runs_same {f : Int → Int} {t : List Sp} {x y v : Int} {p : Nat} (h : RunsR f ((x, y, v) :: t) p) (hv : f p = v) : RunsR f ((x, (p : Int), v) :: t) ((p + 1 : Nat) : Int) := by
  have := runs_on h (p : Int) (Int.le_refl _) (fun q a b => by rw [show q = (p : Int) by omega]; exact hv)
  rwa [show ((p + 1 : Nat) : Int) = (p : Int) + 1 by omega]
theorem runs_other {f : Int → Int} {t : List Sp} {p : Nat} {v : Int} (h : RunsR f t p) (hv : f p = v) (hn : headNe t v) : RunsR f (((p : Int), (p : Int), v) :: t) ((p + 1 : Nat) : Int) := by
  have := runs_new h (Int.le_refl _) (fun q a b => by rw [show q = (p : Int) by omega]; exact hv) hn
  rwa [show ((p + 1 : Nat) : Int) = (p : Int) + 1 by omega]
theorem runs_ext {f g : Int → Int} : ∀ {l : List Sp} {b : Int}, RunsR f l b → (∀ p, 0 ≤ p → p < b → f p = g p) → RunsR g l b
  | [], _, h, _ => h
  | (x, y, v) :: t, b, h, he => by
    obtain ⟨h1, h2, h3, h4, h5⟩ := h
    have hx := (runs_nonneg f t x h4).1
    exact ⟨h1, h2, fun p a c => by rw [← he p (by omega) (by omega)]; exact h3 p a c, runs_ext h4 (fun p a c => he p a (by omega)), h5⟩
end Go.Proofs.Ytfcabmpklcmbgaa
