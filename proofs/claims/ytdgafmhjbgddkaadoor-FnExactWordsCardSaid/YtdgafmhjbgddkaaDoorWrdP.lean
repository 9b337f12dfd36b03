/- Words, without the program: the classes that the program asks for, the class that the specification tells, and that both are one. -/
import Derived.Test.YtdgafmhjbgddkaaDoorScrK
namespace Go.Proofs.YtdgafmhjbgddkaaDoor
namespace Wrd
open Chr (cat ctl mrk)
def hcs (p : Int) : Bool := cat p == 4 || cat p == 5 || cat p == 6
/-- A letter, as the program tells it. -/
def ltr (p : Int) : Bool := hcs p || (cat p == 7 && !(scr p == 8) && !(scr p == 9))
def dgt (p : Int) : Bool := cat p == 8
def lod (p : Int) : Bool := ltr p || dgt p
/-- A point that may belong to the one ahead. -/
def mbl (p : Int) : Bool := mrk p || (cat p == 11 && !(p == 7954) && !(p == 173))
/-- The middle one joins both beside it. -/
def joi (a m b : Int) : Bool :=
  if m = 39 ∨ m = 58 then ltr a && ltr b else if m = 44 then dgt a && dgt b else if m = 46 then (ltr a && ltr b) || (dgt a && dgt b) else false
/-- The class of a point, as the specification tells it. -/
def wcl (p : Int) : Int :=
  if cat p = 8 then 2 else if scr p = 8 ∧ cat p = 7 then 5 else if ¬ scr p = 9 ∧ (cat p = 4 ∨ cat p = 5 ∨ cat p = 6 ∨ cat p = 7) then 1 else if p = 95 then 3 else 0
def isJ (p : Int) : Bool := p == 39 || p == 46 || p == 58
def isP (p : Int) : Bool := p == 46 || p == 44
def blg (p a : Int) : Bool := mbl p && (!ctl a && !(cat a == 2))
theorem spc_eight : (spc.all fun r => decide (r.2.2.2 = 8 → r.2.2.1 = 7)) = true := by decide +kernel
theorem spc_nine : (spc.all fun r => decide (r.2.2.2 = 9 → r.2.2.1 = 7)) = true := by decide +kernel
theorem of_rows {n : Int} (hn : 6 ≤ n) (hs : (spc.all fun r => decide (r.2.2.2 = n → r.2.2.1 = 7)) = true) {p : Int} (h : scr p = n) : cat p = 7 := by
  unfold Chr.cat
  unfold scr known at h
  unfold known
  split at h
  · split at h
    · simp only at h; omega
    · simp only at h; omega
  · rename_i h1
    rw [if_neg h1]
    split at h
    · split at h
      · simp only at h; omega
      · split at h <;> (simp only at h; omega)
    · rename_i h2
      rw [if_neg h2]
      rcases find_row spc p with e | ⟨r, hr, _, _, e⟩
      · rw [e] at h; simp [Z4] at h; omega
      · rw [e] at h ⊢
        exact of_decide_eq_true (List.all_eq_true.1 hs r hr) h
theorem part_cat {p : Int} (h : scr p = 8) : cat p = 7 := of_rows (by omega) spc_eight h
theorem nine_cat {p : Int} (h : scr p = 9) : cat p = 7 := of_rows (by omega) spc_nine h
theorem low_cat : cat 95 = 9 ∨ cat 95 = 10 := by decide +kernel
theorem wcl_ltr (p : Int) : (wcl p == 1) = ltr p := by
  have h8 := @part_cat p
  have h9 := @nine_cat p
  unfold wcl ltr hcs
  generalize cat p = c at *
  generalize scr p = s at *
  by_cases e8 : s = 8
  · have := h8 e8; subst this; subst e8; simp
  · by_cases e9 : s = 9
    · have := h9 e9; subst this; subst e9
      simp
      split <;> simp
    · by_cases c4 : c = 4
      · subst c4; simp [e8, e9]
      · by_cases c5 : c = 5
        · subst c5; simp [e8, e9]
        · by_cases c6 : c = 6
          · subst c6; simp [e8, e9]
          · by_cases c7 : c = 7
            · subst c7; simp [e8, e9]
            · by_cases c8 : c = 8
              · subst c8; simp
              · simp [c4, c5, c6, c7, c8, e8]
                split <;> simp [c4, c5, c6, c7]
theorem wcl_dgt (p : Int) : (wcl p == 2) = dgt p := by
  unfold wcl dgt
  by_cases c8 : cat p = 8
  · simp [c8]
  · simp only [c8, if_false]
    split
    · simp [c8]
    · split
      · simp [c8]
      · split <;> simp [c8]
theorem wcl_run (p : Int) : (wcl p == 5) = (scr p == 8) := by
  have h8 := @part_cat p
  unfold wcl
  by_cases e8 : scr p = 8
  · simp [e8, h8 e8]
  · simp [e8]
    split
    · simp [e8]
    · split
      · simp [e8]
      · split <;> simp [e8]
theorem wcl_low (p : Int) : (wcl p == 3) = (p == 95) := by
  unfold wcl
  by_cases e : p = 95
  · subst e
    have h8 := @part_cat 95
    rcases low_cat with h | h
    · rw [h] at h8 ⊢
      have : ¬ scr 95 = 8 := fun h' => by have := h8 h'; omega
      simp [this]
    · rw [h] at h8 ⊢
      have : ¬ scr 95 = 8 := fun h' => by have := h8 h'; omega
      simp [this]
  · simp [e]
    split
    · simp [e]
    · split
      · simp [e]
      · split <;> simp [e]
/-- A joint between two letters, a point between two digits. -/
theorem joi_eq (a m b : Int) : joi a m b = ((isJ m && (wcl a == 1) && (wcl b == 1)) || (isP m && (wcl a == 2) && (wcl b == 2))) := by
  rw [wcl_ltr, wcl_ltr, wcl_dgt, wcl_dgt]
  unfold joi isJ isP
  by_cases h1 : m = 39
  · subst h1; simp
  · by_cases h2 : m = 58
    · subst h2; simp
    · by_cases h3 : m = 44
      · subst h3; simp
      · by_cases h4 : m = 46
        · subst h4; simp
        · simp [h1, h2, h3, h4]
end Wrd
end Go.Proofs.YtdgafmhjbgddkaaDoor
