/- The classes of points of directions, as numbers: the program's and the specification's are one. -/
import Derived.Test.YtheakbjddonknaaDoorScrK
namespace Go.Proofs.YtheakbjddonknaaDoor.Bs
open Go.RowKit Chr
/-- The specification's class. -/
def clS (p : Int) : Int :=
  if p = 10 ∨ p = 13 then 6 else if cat p = 2 ∨ p = 9 then 7 else if 7938 ≤ p ∧ p ≤ 7946 then 11 + p - 7938 else if p = 7947 then 1
  else if cat p = 8 ∧ scr p = 5 then 3 else if cat p = 8 then 2 else if p = 43 ∨ p = 45 then 4 else if p = 44 ∨ p = 46 ∨ p = 58 ∨ p = 47 then 5
  else if cat p = 3 then 9 else if cat p = 1 ∨ cat p = 11 then 10 else if scr p = 5 then 1 else if 0 < scr p then 0 else 8
/-- The program's class, by category and script. -/
def clC (p : Int) : Int :=
  if cat p = 8 then (if scr p = 5 then 3 else 4) else if cat p = 2 then 8 else if cat p = 3 then 9 else if cat p = 1 ∨ cat p = 11 then 19 else if scr p = 0 then 20 else if scr p = 5 then 2 else 1
/-- The program's class. -/
def clI (p : Int) : Int :=
  if p = 43 ∨ p = 45 then 5 else if p = 44 ∨ p = 46 ∨ p = 58 ∨ p = 47 then 6 else if p = 10 ∨ p = 13 then 7 else if p = 9 then 8 else if p = 7947 then 2
  else if 7938 ≤ p ∧ p ≤ 7946 then 10 + p - 7938 else clC p
/-- The specification's number of a class in the program's way. -/
def mp (c : Int) : Int :=
  if c = 0 then 1 else if c = 1 then 2 else if c = 2 then 4 else if c = 3 then 3 else if c = 4 then 5 else if c = 5 then 6 else if c = 6 then 7 else if c = 7 then 8 else if c = 8 then 20 else if c = 9 then 9 else if c = 10 then 19 else c - 1
theorem scr_nonneg (p : Int) : 0 ≤ scr p := by
  rw [← scr_i]
  have hbd := row_bd (twin p)
  have htw := twin_bd p
  have hS : rowS (twin p) = (rowOf (twin p)).2.2.2 := rfl
  unfold scrI
  split <;> omega
set_option maxRecDepth 100000 in
theorem few_cats : (cat 43 ≠ 2 ∧ cat 43 ≠ 8) ∧ (cat 45 ≠ 2 ∧ cat 45 ≠ 8) ∧ (cat 44 ≠ 2 ∧ cat 44 ≠ 8) ∧ (cat 46 ≠ 2 ∧ cat 46 ≠ 8) ∧ (cat 58 ≠ 2 ∧ cat 58 ≠ 8) ∧ (cat 47 ≠ 2 ∧ cat 47 ≠ 8) ∧ cat 7947 ≠ 2 := by decide +kernel
set_option maxRecDepth 100000 in
theorem fmt_cats : ∀ k : Fin 9, cat (7938 + (k.val : Int)) ≠ 2 := by decide +kernel
theorem fmt_cat (p : Int) (h1 : 7938 ≤ p) (h2 : p ≤ 7946) : cat p ≠ 2 := by
  have := fmt_cats ⟨(p - 7938).toNat, by omega⟩
  simp only at this
  rw [show (7938 : Int) + (((p - 7938).toNat : Nat) : Int) = p by omega] at this
  exact this
theorem cl_eq (p : Int) : clI p = mp (clS p) := by
  have hs := scr_nonneg p
  obtain ⟨⟨a1, a2⟩, ⟨b1, b2⟩, ⟨c1, c2⟩, ⟨d1, d2⟩, ⟨e1, e2⟩, ⟨f1, f2⟩, g1⟩ := few_cats
  by_cases h43 : p = 43
  · subst h43; simp [clI, clS, mp, a1, a2]
  by_cases h45 : p = 45
  · subst h45; simp [clI, clS, mp, b1, b2]
  by_cases h44 : p = 44
  · subst h44; simp [clI, clS, mp, c1, c2]
  by_cases h46 : p = 46
  · subst h46; simp [clI, clS, mp, d1, d2]
  by_cases h58 : p = 58
  · subst h58; simp [clI, clS, mp, e1, e2]
  by_cases h47 : p = 47
  · subst h47; simp [clI, clS, mp, f1, f2]
  by_cases h10 : p = 10 ∨ p = 13
  · have e : clI p = 7 := by unfold clI; rw [if_neg (by omega), if_neg (by omega), if_pos h10]
    have e2 : clS p = 6 := by unfold clS; rw [if_pos h10]
    rw [e, e2]; rfl
  by_cases h9 : p = 9
  · have e : clI p = 8 := by unfold clI; rw [if_neg (by omega), if_neg (by omega), if_neg (by omega), if_pos h9]
    have e2 : clS p = 7 := by unfold clS; rw [if_neg (by omega), if_pos (.inr h9)]
    rw [e, e2]; rfl
  by_cases hB : p = 7947
  · subst hB; simp [clI, clS, mp, g1]
  by_cases hf : 7938 ≤ p ∧ p ≤ 7946
  · have hc := fmt_cat p hf.1 hf.2
    have e : clI p = 10 + p - 7938 := by unfold clI; rw [if_neg (by omega), if_neg (by omega), if_neg (by omega), if_neg (by omega), if_neg (by omega), if_pos hf]
    have e2 : clS p = 11 + p - 7938 := by unfold clS; rw [if_neg (by omega), if_neg (by omega), if_pos hf]
    rw [e, e2]
    unfold mp
    repeat rw [if_neg (by omega)]
    omega
  have e : clI p = clC p := by unfold clI; rw [if_neg (by omega), if_neg (by omega), if_neg (by omega), if_neg (by omega), if_neg (by omega), if_neg (by omega)]
  rw [e]
  unfold clC clS mp
  generalize cat p = c at *
  generalize scr p = s at *
  by_cases q8 : c = 8
  · subst q8
    by_cases q5 : s = 5 <;> simp [q5, h10, h9, hB, hf]
  by_cases q2 : c = 2
  · subst q2; simp [h10]
  by_cases q3 : c = 3
  · subst q3; simp [h10, h9, hB, hf, h43, h45, h44, h46, h58, h47]
  by_cases q1 : c = 1 ∨ c = 11
  · rcases q1 with rfl | rfl <;> simp [h10, h9, hB, hf, h43, h45, h44, h46, h58, h47]
  by_cases q0 : s = 0
  · subst q0; simp [q8, q2, q3, q1, h10, h9, hB, hf, h43, h45, h44, h46, h58, h47]
  by_cases q5 : s = 5
  · subst q5; simp [q8, q2, q3, q1, h10, h9, hB, hf, h43, h45, h44, h46, h58, h47]
  · have q6 : 0 < s := by omega
    simp [q8, q2, q3, q1, q0, q5, q6, h10, h9, hB, hf, h43, h45, h44, h46, h58, h47]
end Go.Proofs.YtheakbjddonknaaDoor.Bs
