/- The sound of a row of points (pure). -/
import Derived.Test.YtamigjljgepfiaaGreatDoorMA
namespace Go.Proofs.YtamigjljgepfiaaGreatDoor
namespace Snd
set_option linter.unusedVariables false
/-- What each letter sounds like. -/
def dgL : List Int := [48, 49, 50, 51, 48, 49, 50, 48, 48, 50, 50, 52, 53, 53, 48, 49, 50, 54, 50, 51, 48, 49, 48, 50, 48, 50]
def dg (p : Int) : Int := dgL.getD (p - 97).toNat 0
/-- One point: what is told so far, and the sound of the letter ahead. -/
def stp (st : List Int × Int) (p : Int) : List Int × Int :=
  if 97 ≤ p ∧ p ≤ 122 then (if st.1.length = 0 then [p] else if dg p ≠ 48 ∧ dg p ≠ st.2 ∧ st.1.length ≤ 4 then st.1 ++ [dg p] else st.1, dg p) else st
def rk (a : Int) (Y : List Int) (k : Nat) : List Int × Int := (Y.take k).foldl stp ([], a)
theorem rk_zero (a : Int) (Y : List Int) : rk a Y 0 = ([], a) := rfl
theorem rk_succ (a : Int) (Y : List Int) (k : Nat) (h : k < Y.length) : rk a Y (k + 1) = stp (rk a Y k) (Y.getD k 0) := by
  unfold rk
  rw [List.take_add_one, List.foldl_append]
  simp [List.getElem?_eq_getElem h, List.getD_eq_getElem?_getD]
theorem rk_all (a : Int) (Y : List Int) : rk a Y Y.length = Y.foldl stp ([], a) := by unfold rk; rw [List.take_length]
theorem dg_bd (p : Int) : 0 ≤ dg p ∧ dg p < 256 := by
  have h : ∀ x ∈ dgL, 0 ≤ x ∧ x < 256 := by decide
  unfold dg
  rw [List.getD_eq_getElem?_getD]
  cases e : dgL[(p - 97).toNat]? with
  | none => simp
  | some x => exact h x (List.mem_of_getElem? e)
def Ok (st : List Int × Int) : Prop := st.1.length ≤ 5 ∧ ∀ x ∈ st.1, 0 ≤ x ∧ x < 256
theorem stp_ok (st : List Int × Int) (p : Int) (h : Ok st) : Ok (stp st p) := by
  unfold stp
  split
  · rename_i hp
    split
    · refine ⟨by simp, fun x hx => ?_⟩
      simp at hx
      omega
    · split
      · rename_i h2
        refine ⟨by simp; omega, fun x hx => ?_⟩
        simp at hx
        rcases hx with hx | hx
        · exact h.2 x hx
        · rw [hx]; exact dg_bd p
      · exact h
  · exact h
theorem rk_ok (a : Int) (Y : List Int) (k : Nat) : Ok (rk a Y k) := by
  unfold rk
  generalize Y.take k = L
  have : ∀ (L : List Int) (st : List Int × Int), Ok st → Ok (L.foldl stp st) := by
    intro L
    induction L with
    | nil => intro st h; exact h
    | cons p L ih => intro st h; exact ih _ (stp_ok st p h)
  exact this L _ ⟨by simp, by simp⟩
/-- The sound ahead of the first letter is never asked for. -/
theorem run_any (a b : Int) (Y : List Int) : (Y.foldl stp ([], a)).1 = (Y.foldl stp ([], b)).1 := by
  induction Y generalizing a b with
  | nil => rfl
  | cons p Y ih =>
    rw [List.foldl_cons, List.foldl_cons]
    by_cases hp : 97 ≤ p ∧ p ≤ 122
    · have e : stp ([], a) p = stp ([], b) p := by simp [stp, hp]
      rw [e]
    · have e : ∀ a, stp ([], a) p = ([], a) := fun a => by simp only [stp, if_neg hp]
      rw [e, e]
      exact ih a b
def sndO (Y : List Int) : List Int := if (Y.foldl stp ([], 48)).1.length = 0 then [] else (Y.foldl stp ([], 48)).1 ++ List.replicate (5 - (Y.foldl stp ([], 48)).1.length) 48
end Snd
end Go.Proofs.YtamigjljgepfiaaGreatDoor
