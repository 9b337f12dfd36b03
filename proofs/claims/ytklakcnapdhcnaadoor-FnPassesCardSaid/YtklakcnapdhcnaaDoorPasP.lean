/- Passes that are right, in plain numbers. -/
import Derived.Test.YtklakcnapdhcnaaDoorPasA
import Derived.Test.YtklakcnapdhcnaaDoorWelP
namespace Go.Proofs.YtklakcnapdhcnaaDoor.Pas
open Go.RowKit
set_option linter.unusedVariables false
/-- A text that a rule may have. -/
def okT (t : ByteArray) : Bool := vB t && decide ((pts t).length ≤ 20)
theorem okT_small {t : ByteArray} (h : vB t = true) (h2 : (pts t).length ≤ 20) : t.size ≤ 80 := by
  have e := wel_of h
  have := textL_le (pts t)
  have e2 : t.size = (textL (pts t)).length := by rw [← strOfNums_size, e]
  omega
/-- A text that is too long is none. -/
theorem okT_big {t : ByteArray} (h : 80 < t.size) : okT t = false := by
  unfold okT
  by_cases hv : vB t = true
  · by_cases hl : (pts t).length ≤ 20
    · have := okT_small hv hl; omega
    · rw [decide_eq_false hl]; simp
  · simp [hv]
/-- The specification's way. -/
theorem okT_spec (t : ByteArray) (least : Nat) : (decide (least ≤ (pts t).length) && (decide ((pts t).length ≤ 20) && decide (strOfNums (textL (pts t)) = t))) = (okT t && decide (least ≤ (pts t).length)) := by
  have e : decide (strOfNums (textL (pts t)) = t) = vB t := by
    rw [Bool.eq_iff_iff, decide_eq_true_iff]
    exact wel_iff t
  unfold okT
  rw [e]
  cases vB t <;> cases decide ((pts t).length ≤ 20) <;> cases decide (least ≤ (pts t).length) <;> rfl
theorem pts_empty {t : ByteArray} : 1 ≤ (pts t).length ↔ ¬ t.size = 0 := by
  constructor
  · intro h e
    have := pts_le t
    omega
  · intro h
    have hp : pts t = (steps t t.size).1 := rfl
    obtain ⟨n, hn⟩ : ∃ n, t.size = n + 1 := ⟨t.size - 1, by omega⟩
    have h1 : steps t 1 = ([] ++ [(dP t 0 : Int)], 0 + dN t 0) := pts_step (s := t) (n := 0) (pos := 0) (L := []) rfl (by omega)
    have hm : ∀ m, 1 ≤ (steps t (m + 1)).1.length := by
      intro m
      induction m with
      | zero => rw [h1]; simp
      | succ m ih =>
        by_cases hp : (steps t (m + 1)).2 < t.size
        · have := pts_step (s := t) (n := m + 1) (pos := (steps t (m + 1)).2) (L := (steps t (m + 1)).1) rfl hp
          rw [this]; simp
        · have e : steps t (m + 1 + 1) = steps t (m + 1) := by
            show (if _ then _ else _) = _
            rw [if_neg hp]
          rw [e]; exact ih
    rw [hp, hn]
    exact hm n
/-- A rule that is right. -/
def okG (r : Ru) : Bool := decide (0 ≤ r.2.2.2.2 ∧ r.2.2.2.2 ≤ ((pts r.2.2.2.1).length : Int))
def okR (r : Ru) : Bool := okT r.1 && (okT r.2.1 && (okT r.2.2.1 && (okT r.2.2.2.1 && (decide (¬ r.2.1.size = 0) && okG r))))
/-- The first k rules are right. -/
def okk (L : List Ru) : Nat → Bool
  | 0 => true
  | k + 1 => okk L k && okR (gr L k)
theorem okk_no {L : List Ru} {k n : Nat} (hk : k < n) (h : okR (gr L k) = false) : okk L n = false := by
  induction n with
  | zero => omega
  | succ n ih =>
    unfold okk
    by_cases e : k = n
    · subst e; rw [h]; simp
    · rw [ih (by omega)]; simp
theorem okk_next {L : List Ru} {k : Nat} (h : okk L k = true) (h2 : okR (gr L k) = true) : okk L (k + 1) = true := by
  unfold okk
  rw [h, h2]
  rfl
/-- How many rules the first k passes have. -/
def cnt (P : List Pa) : Nat → Nat
  | 0 => 0
  | k + 1 => cnt P k + (gp P k).1.length
/-- The k-th pass is right, behind those ahead of it. -/
def okP (P : List Pa) (k : Nat) : Bool := decide (0 ≤ (gp P k).2 ∧ (gp P k).2 ≤ 4) && (decide (cnt P (k + 1) ≤ 100) && okk (gp P k).1 (gp P k).1.length)
def okq (P : List Pa) : Nat → Bool
  | 0 => true
  | k + 1 => okq P k && okP P k
theorem okq_no {P : List Pa} {k n : Nat} (hk : k < n) (h : okP P k = false) : okq P n = false := by
  induction n with
  | zero => omega
  | succ n ih =>
    unfold okq
    by_cases e : k = n
    · subst e; rw [h]; simp
    · rw [ih (by omega)]; simp
theorem okq_next {P : List Pa} {k : Nat} (h : okq P k = true) (h2 : okP P k = true) : okq P (k + 1) = true := by
  unfold okq
  rw [h, h2]
  rfl
theorem okq_at {P : List Pa} {k n : Nat} (h : okq P n = true) (hk : k < n) : okP P k = true := by
  cases e : okP P k with
  | true => rfl
  | false => rw [okq_no hk e] at h; exact h
theorem okk_at {L : List Ru} {k n : Nat} (h : okk L n = true) (hk : k < n) : okR (gr L k) = true := by
  cases e : okR (gr L k) with
  | true => rfl
  | false => rw [okk_no hk e] at h; exact h
/-- Passes that are right. -/
def right (P : List Pa) : Bool := decide (P.length ≤ 10) && okq P P.length
/-- What PassesFault tells. -/
def flt (P : List Pa) : Int := if right P = true then 0 else 1
theorem flt_many {P : List Pa} (h : 10 < P.length) : flt P = 1 := by
  unfold flt right
  rw [decide_eq_false (by omega)]
  rfl
theorem flt_bad {P : List Pa} {k : Nat} (hk : k < P.length) (h : okP P k = false) : flt P = 1 := by
  unfold flt right
  rw [okq_no hk h]
  simp
theorem flt_ok {P : List Pa} (h1 : P.length ≤ 10) (h : okq P P.length = true) : flt P = 0 := by
  unfold flt right
  rw [h, decide_eq_true h1]
  rfl
end Go.Proofs.YtklakcnapdhcnaaDoor.Pas
