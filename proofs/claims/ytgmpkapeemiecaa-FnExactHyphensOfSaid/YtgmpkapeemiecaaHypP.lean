/- Patterns of hyphens, in plain numbers: their letters, their digits, whether they are right. -/
import Derived.Test.YtgmpkapeemiecaaDec
namespace Go.Proofs.Ytgmpkapeemiecaa
namespace Hyp
open Go.RowKit
set_option linter.unusedVariables false
structure St where
  L : List Int
  D : List Int
  d : Int
  b : Bool
def stp (s : St) (c : Int) : Option St :=
  if 49 ≤ c ∧ c ≤ 57 ∧ s.d = 0 then some ⟨s.L, s.D, c - 48, true⟩
  else if (97 ≤ c ∧ c ≤ 122) ∨ c = 46 then some ⟨s.L ++ [c], s.D ++ [s.d], 0, s.b⟩
  else none
def pr (t : ByteArray) : Nat → Option St
  | 0 => some ⟨[], [], 0, false⟩
  | i + 1 => (pr t i).bind fun s => stp s (bt t i : Int)
theorem pr_zero (t : ByteArray) : pr t 0 = some ⟨[], [], 0, false⟩ := rfl
theorem pr_next {t : ByteArray} {i : Nat} {s : St} (h : pr t i = some s) : pr t (i + 1) = stp s (bt t i : Int) := by
  rw [pr, h]
  rfl
theorem pr_none {t : ByteArray} {i : Nat} (h : pr t i = none) : ∀ k, pr t (i + k) = none
  | 0 => h
  | k + 1 => by
    rw [← Nat.add_assoc, pr, pr_none h k]
    rfl
def ltr (c : Int) : Prop := (97 ≤ c ∧ c ≤ 122) ∨ c = 46
structure Ok (s : St) (i : Nat) : Prop where
  len : s.D.length = s.L.length
  d0 : 0 ≤ s.d
  d9 : s.d ≤ 9
  dg : ∀ x ∈ s.D, 0 ≤ x ∧ x ≤ 9
  lt : ∀ x ∈ s.L, ltr x
  ge : i ≤ 2 * s.L.length + (if s.d = 0 then 0 else 1)
  le : s.L.length ≤ i
theorem pr_ok {t : ByteArray} : ∀ {i : Nat} {s : St}, pr t i = some s → Ok s i
  | 0, s, h => by
    rw [pr_zero] at h
    obtain rfl := Option.some.inj h
    exact ⟨rfl, by decide, by decide, (fun x hx => by cases hx), (fun x hx => by cases hx), by simp, by simp⟩
  | i + 1, s, h => by
    cases e : pr t i with
    | none => rw [pr_none e 1] at h; cases h
    | some s0 =>
      have o := pr_ok e
      rw [pr_next e] at h
      unfold stp at h
      have ge := o.ge
      split at h
      · rename_i c
        obtain rfl := Option.some.inj h
        rw [if_pos c.2.2] at ge
        refine ⟨o.len, by show 0 ≤ (bt t i : Int) - 48; omega, by show (bt t i : Int) - 48 ≤ 9; omega, o.dg, o.lt, ?_, by have := o.le; show s0.L.length ≤ i + 1; omega⟩
        show i + 1 ≤ 2 * s0.L.length + (if (bt t i : Int) - 48 = 0 then 0 else 1)
        rw [if_neg (by omega)]
        omega
      · split at h
        · rename_i c
          obtain rfl := Option.some.inj h
          refine ⟨by simp [o.len], by show (0 : Int) ≤ 0; omega, by show (0 : Int) ≤ 9; omega, ?_, ?_, ?_, by have := o.le; simp; omega⟩
          · intro x hx
            rcases List.mem_append.1 hx with hx | hx
            · exact o.dg x hx
            · rw [List.mem_singleton] at hx; subst hx; exact ⟨o.d0, o.d9⟩
          · intro x hx
            rcases List.mem_append.1 hx with hx | hx
            · exact o.lt x hx
            · rw [List.mem_singleton] at hx; subst hx; exact c
          · show i + 1 ≤ 2 * (s0.L ++ [(bt t i : Int)]).length + (if (0 : Int) = 0 then 0 else 1)
            rw [if_pos rfl, List.length_append, List.length_singleton]
            have : (if s0.d = 0 then 0 else 1) ≤ 1 := by split <;> omega
            omega
        · cases h
/-- A dot within. -/
def inner (L : List Int) : Bool := (List.range L.length).any fun i => decide (1 ≤ i) && (decide (i + 1 < L.length) && L.getD i 0 == 46)
theorem inner_iff (L : List Int) : inner L = true ↔ ∃ i, 1 ≤ i ∧ i + 1 < L.length ∧ L.getD i 0 = 46 := by
  unfold inner
  rw [List.any_eq_true]
  constructor
  · rintro ⟨i, hi, h⟩
    simp only [Bool.and_eq_true, decide_eq_true_eq, beq_iff_eq] at h
    exact ⟨i, h.1, h.2.1, h.2.2⟩
  · rintro ⟨i, h1, h2, h3⟩
    refine ⟨i, List.mem_range.2 (by omega), ?_⟩
    simp only [Bool.and_eq_true, decide_eq_true_eq, beq_iff_eq]
    exact ⟨h1, h2, h3⟩
theorem inner_no {L : List Int} (h : ∀ i, 1 ≤ i → i + 1 < L.length → L.getD i 0 ≠ 46) : inner L = false := by
  rw [Bool.eq_false_iff]
  intro e
  obtain ⟨i, h1, h2, h3⟩ := (inner_iff L).1 e
  exact h i h1 h2 h3
def okP (s : St) : Bool := s.b && (decide (1 ≤ s.L.length) && (decide (s.L.length ≤ 20) && !inner s.L))
def pat (t : ByteArray) : Option St := (pr t t.size).bind fun s => if okP s = true then some s else none
def right (t : ByteArray) : Bool := (pat t).isSome
theorem right_none {t : ByteArray} {i : Nat} (hi : i ≤ t.size) (h : pr t i = none) : right t = false := by
  have := pr_none h (t.size - i)
  rw [show i + (t.size - i) = t.size by omega] at this
  unfold right pat
  rw [this]
  rfl
theorem right_some {t : ByteArray} {s : St} (h : pr t t.size = some s) : right t = okP s := by
  unfold right pat
  rw [h]
  show (if okP s = true then some s else none).isSome = okP s
  cases okP s <;> rfl
theorem pat_some {t : ByteArray} {s : St} (h : pr t t.size = some s) (hr : right t = true) : pat t = some s := by
  rw [right_some h] at hr
  unfold pat
  rw [h]
  show (if okP s = true then some s else none) = some s
  rw [if_pos hr]
theorem pat_pr {t : ByteArray} {s : St} (h : pat t = some s) : pr t t.size = some s ∧ okP s = true := by
  unfold pat at h
  cases e : pr t t.size with
  | none => rw [e] at h; cases h
  | some s0 =>
    rw [e] at h
    change (if okP s0 = true then some s0 else none) = some s at h
    split at h
    · rename_i c
      obtain rfl := Option.some.inj h
      exact ⟨rfl, c⟩
    · cases h
/-- A pattern that is too long is none. -/
theorem right_long {t : ByteArray} (h : 41 < t.size) : right t = false := by
  cases e : pr t t.size with
  | none => exact right_none (Nat.le_refl _) e
  | some s =>
    rw [right_some e]
    have o := (pr_ok e).ge
    have : (if s.d = 0 then 0 else 1) ≤ 1 := by split <;> omega
    unfold okP
    rw [decide_eq_false (show ¬ s.L.length ≤ 20 by omega)]
    simp
end Hyp
end Go.Proofs.Ytgmpkapeemiecaa
