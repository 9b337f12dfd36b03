/- What a point looks like: pure. -/
import Derived.Test.YtjdginjohajmaaaGreatDoorCallsK
import Derived.Test.YtjdginjohajmaaaGreatDoorMA
import Derived.Test.YtjdginjohajmaaaGreatDoorCasP
namespace Go.Proofs.YtjdginjohajmaaaGreatDoor.Ske
open Go.RowKit
set_option linter.unusedVariables false
def dg (p : Int) : Int := if catI p = 8 then p % 16 % 10 else -1
/-- What a point is turned to by itself. -/
def lk (p : Int) : Int :=
  if 512 ≤ twin p ∧ twin p ≤ 517 then 65 + twin p - 512
  else if 544 ≤ twin p ∧ twin p ≤ 549 then 97 + twin p - 544
  else if twin p = 609 then 102
  else if p = 1280 ∨ dg p = 0 then 111
  else if (p = 73 ∨ p = 1281) ∨ dg p = 1 then 108
  else if 1 < dg p then 48 + dg p
  else if catI p = 2 then 32
  else p
def prt (p : Int) : List Int := if wideZ p = [] then [p] else wideZ p
/-- What a point shows. -/
def see (p : Int) : List Int := if catI p = 1 ∨ catI p = 11 then [] else if catI p = 10 then (prt p).map lk else [lk p]
theorem dg_bd (p : Int) : -1 ≤ dg p ∧ dg p ≤ 9 := by unfold dg; split <;> omega
theorem dg_not {p : Int} (h : catI p ≠ 8) : dg p = -1 := by unfold dg; rw [if_neg h]
theorem dg_is {p : Int} (h : catI p = 8) : dg p = p % 16 % 10 ∧ 0 ≤ dg p := by unfold dg; rw [if_pos h]; omega
theorem lk_bd (p : Int) (h : 0 ≤ p ∧ p ≤ 1114111) : 0 ≤ lk p ∧ lk p ≤ 1114111 := by
  have := dg_bd p
  unfold lk
  repeat' split
  all_goals omega
theorem prt_bd (p : Int) (h : 0 ≤ p ∧ p ≤ 1114111) : ∀ x ∈ prt p, 0 ≤ x ∧ x ≤ 1114111 := by
  intro x hx
  unfold prt wideZ at hx
  repeat' split at hx
  all_goals (simp at hx <;> omega)
theorem prt_len (p : Int) : (prt p).length ≤ 2 := by
  unfold prt wideZ
  repeat' split
  all_goals simp
theorem see_bd (p : Int) (h : 0 ≤ p ∧ p ≤ 1114111) : ∀ x ∈ see p, 0 ≤ x ∧ x ≤ 1114111 := by
  intro x hx
  unfold see at hx
  repeat' split at hx
  · simp at hx
  · obtain ⟨y, hy, rfl⟩ := List.mem_map.1 hx
    exact lk_bd y (prt_bd p h y hy)
  · simp at hx
    rw [hx]
    exact lk_bd p h
theorem see_len (p : Int) : (see p).length ≤ 2 := by
  unfold see
  repeat' split
  · simp
  · rw [List.length_map]; exact prt_len p
  · simp
/-- Points with parts that are neither spaces nor digits. -/
theorem wide_kind (p : Int) (h : wideZ p ≠ []) : catI p = 10 ∨ catI p = 2 ∨ catI p = 8 := by
  have hall : ((List.range 52).all fun n => wideZ (9984 + n) == [] || (catI (9984 + n) == 10 || catI (9984 + n) == 8)) = true := by decide +kernel
  have h2 : catI 8064 = 2 ∧ catI 160 = 2 := by decide +kernel
  by_cases c : 9984 ≤ p ∧ p ≤ 10035
  · have e : p = 9984 + ((p - 9984).toNat : Int) := by omega
    have := List.all_eq_true.1 hall (p - 9984).toNat (List.mem_range.2 (by omega))
    rw [← e] at this
    simp at this
    rcases this with h3 | h3 | h3
    · exact absurd h3 h
    · exact .inl h3
    · exact .inr (.inr h3)
  · unfold wideZ at h
    rw [if_neg (by omega), if_neg (by omega)] at h
    by_cases c2 : p = 8064 ∨ p = 160
    · rcases c2 with rfl | rfl
      · exact .inr (.inl h2.1)
      · exact .inr (.inl h2.2)
    · rw [if_neg c2, if_neg (by omega), if_neg (by omega), if_neg (by omega), if_neg (by omega)] at h
      exact absurd rfl h
theorem see_none {p : Int} (h : catI p = 1 ∨ catI p = 11) : see p = [] := by unfold see; rw [if_pos h]
theorem see_one {p : Int} (h : ¬ (catI p = 1 ∨ catI p = 11)) (h2 : wideZ p = [] ∨ catI p ≠ 10) : see p = [lk p] := by
  unfold see
  rw [if_neg h]
  split
  · rcases h2 with h2 | h2
    · unfold prt; rw [if_pos h2]; rfl
    · contradiction
  · rfl
theorem see_wide {p : Int} (h : catI p = 10) : see p = (prt p).map lk := by unfold see; rw [if_neg (by omega), if_pos h]
/-- Parts have no parts, and show something. -/
theorem wide_parts (p : Int) : ∀ x ∈ wideZ p, wideZ x = [] ∧ see x = [lk x] ∧ 0 ≤ x ∧ x ≤ 1114111 := by
  have hall : ((List.range 91).all fun n => decide (32 ≤ n → wideZ (32 + n) = [] ∧ see (32 + n) = [lk (32 + n)])) = true := by decide +kernel
  have g : ∀ x : Int, 64 ≤ x ∧ x ≤ 122 ∨ x = 32 ∨ 48 ≤ x ∧ x ≤ 57 → wideZ x = [] ∧ see x = [lk x] ∧ 0 ≤ x ∧ x ≤ 1114111 := by
    have hall2 : ((List.range 123).all fun n => decide (32 ≤ n → wideZ (n : Int) = [] ∧ see (n : Int) = [lk (n : Int)])) = true := by decide +kernel
    intro x hx
    have e : x = (x.toNat : Int) := by omega
    have := of_decide_eq_true (List.all_eq_true.1 hall2 x.toNat (List.mem_range.2 (by omega))) (by omega)
    rw [← e] at this
    exact ⟨this.1, this.2, by omega, by omega⟩
  clear hall
  intro x hx
  apply g
  unfold wideZ at hx
  repeat' split at hx
  all_goals (simp at hx <;> omega)
end Go.Proofs.YtjdginjohajmaaaGreatDoor.Ske
