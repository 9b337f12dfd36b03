/- Collators that are right, in plain numbers. -/
import Derived.Test.YtgcpdpkkobkamaaColE
import Derived.Test.YtgcpdpkkobkamaaIsnL
import Derived.Test.YtgcpdpkkobkamaaEqvL
namespace Go.Proofs.Ytgcpdpkkobkamaa.Col
open Go.RowKit
set_option linter.unusedVariables false
def lsB (a b : ByteArray) : Bool := Op.bytesLess a.toList b.toList
/-- D of a text. -/
def dd (t : ByteArray) : List Int := nrmL 1 (pts t)
/-- A text that an entry may have: the specification's way. -/
def okT (t : ByteArray) : Bool := decide (1 ≤ (dd t).length ∧ (dd t).length ≤ 3) && decide (strOfNums (textL (dd t)) = t)
/-- The program's. -/
def okTI (t : ByteArray) : Bool := decide (t.size ≤ 12) && (isN 1 t && decide (1 ≤ (pts t).length ∧ (pts t).length ≤ 3))
theorem okT_eq (t : ByteArray) : okTI t = okT t := by
  have hf : isF 1 = true := by decide
  have hn : nrmT 1 t = textL (dd t) := rfl
  by_cases h : strOfNums (textL (dd t)) = t
  · have hp : pts t = dd t := by
      have e := pts_text (dd t) (nrm1_pt t)
      rw [h] at e
      exact e
    by_cases hl : 1 ≤ (dd t).length ∧ (dd t).length ≤ 3
    · have hs : t.size ≤ 12 := by
        have := textL_le (dd t)
        rw [← h, strOfNums_size]
        omega
      have hi : isN 1 t = true := by
        unfold isN
        rw [hf, hn, decide_eq_true h, decide_eq_true (show t.size ≤ 65536 by omega)]
        rfl
      unfold okTI okT
      rw [hp, hi, decide_eq_true hs, decide_eq_true hl, decide_eq_true h]
      rfl
    · unfold okTI okT
      rw [hp, decide_eq_false hl]
      simp
  · have hi : isN 1 t = false := by
      unfold isN
      rw [hn, decide_eq_false h]
      simp
    unfold okTI okT
    rw [hi, decide_eq_false h]
    simp
def okN (x : Int) : Bool := decide (0 ≤ x ∧ x ≤ 1000000000000)
def okEl (r : Sp) : Bool := okN r.1 && (okN r.2.1 && okN r.2.2)
/-- The first k elements are right. -/
def okEk (L : List Sp) : Nat → Bool
  | 0 => true
  | k + 1 => okEk L k && okEl (gx L k)
theorem okEk_no {L : List Sp} {k n : Nat} (hk : k < n) (h : okEl (gx L k) = false) : okEk L n = false := by
  induction n with
  | zero => omega
  | succ n ih =>
    unfold okEk
    by_cases e : k = n
    · subst e; rw [h]; simp
    · rw [ih (by omega)]; simp
/-- An entry is right. -/
def ok1 (E : List En) (i : Nat) : Bool := okT (ge E i).1 && ((i == 0 || lsB (ge E (i - 1)).1 (ge E i).1) && (decide ((ge E i).2.length ≤ 20) && okEk (ge E i).2 (ge E i).2.length))
def okk (E : List En) : Nat → Bool
  | 0 => true
  | k + 1 => okk E k && ok1 E k
theorem okk_no {E : List En} {k n : Nat} (hk : k < n) (h : ok1 E k = false) : okk E n = false := by
  induction n with
  | zero => omega
  | succ n ih =>
    unfold okk
    by_cases e : k = n
    · subst e; rw [h]; simp
    · rw [ih (by omega)]; simp
/-- What CollatorFault tells. -/
def flt (s : Int) (E : List En) : Int := if 1 ≤ s ∧ s ≤ 4 ∧ E.length ≤ 200 ∧ okk E E.length = true then 0 else 1
theorem flt_out {s : Int} {E : List En} (h : ¬ (1 ≤ s ∧ s ≤ 4 ∧ E.length ≤ 200)) : flt s E = 1 := if_neg (fun e => h ⟨e.1, e.2.1, e.2.2.1⟩)
theorem flt_bad {s : Int} {E : List En} {k : Nat} (hk : k < E.length) (h : ok1 E k = false) : flt s E = 1 := if_neg (fun e => by rw [okk_no hk h] at e; exact absurd e.2.2.2 (by simp))
theorem flt_ok {s : Int} {E : List En} (h1 : 1 ≤ s ∧ s ≤ 4) (h2 : E.length ≤ 200) (h : okk E E.length = true) : flt s E = 0 := if_pos ⟨h1.1, h1.2, h2, h⟩
end Go.Proofs.Ytgcpdpkkobkamaa.Col
