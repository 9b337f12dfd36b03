/- Several texts in one. -/
import Derived.Test.YtecbbifepbgmlaaDoorCasP
/- Folding and upper case of a point, in plain numbers: the program's way and the specification's. No Go in sight. -/
namespace Go.Proofs.YtecbbifepbgmlaaDoor
namespace Cas
/-- What the specification folds a point to. -/
def fo1 (p : Int) : List Int := if 0 < bl p ∧ p = bl p + 96 then [bl p + 50, bl p + 50] else if 0 < bl p ∧ p % 256 = 97 then [bl p + 50] else [lowS p]
/-- What the program folds it to. -/
def fi1 (p : Int) : List Int := if tw p = 608 then [562 + p - tw p, 562 + p - tw p] else if tw p = 609 then [562 + p - tw p] else [lowS p]
def uo1 (p : Int) : List Int := if 0 < bl p ∧ p = bl p + 96 then [bl p + 18, bl p + 18] else [upS p]
def ui1 (p : Int) : List Int := if tw p = 608 then [530 + p - tw p, 530 + p - tw p] else [upS p]
theorem tw_bl (p : Int) : (512 ≤ p ∧ p < 1280 ∧ tw p = 512 + p % 256 ∧ bl p = p - p % 256) ∨ ((p < 512 ∨ 1280 ≤ p) ∧ tw p = p ∧ bl p = 0) := by
  unfold tw bl
  by_cases h1 : 512 ≤ p ∧ p < 1280
  · left
    refine ⟨h1.1, h1.2, ?_, ?_⟩
    · split <;> omega
    · rw [if_neg (by omega)]; omega
  · right
    refine ⟨by omega, by rw [if_neg (by omega)], by rw [if_pos (by omega)]⟩
theorem fo_eq (p : Int) : fi1 p = fo1 p := by
  unfold fi1 fo1
  rcases tw_bl p with ⟨h1, h2, e1, e2⟩ | ⟨h1, e1, e2⟩
  · rw [e1, e2]
    by_cases c1 : p % 256 = 96
    · rw [if_pos (by omega), if_pos (by omega), show 562 + p - (512 + p % 256) = p - p % 256 + 50 by omega]
    · by_cases c2 : p % 256 = 97
      · rw [if_neg (by omega), if_pos (by omega), if_neg (by omega), if_pos (by omega), show 562 + p - (512 + p % 256) = p - p % 256 + 50 by omega]
      · rw [if_neg (by omega), if_neg (by omega), if_neg (by omega), if_neg (by omega)]
  · rw [e1, e2, if_neg (by omega), if_neg (by omega), if_neg (by omega), if_neg (by omega)]
theorem uo_eq (p : Int) : ui1 p = uo1 p := by
  unfold ui1 uo1
  rcases tw_bl p with ⟨h1, h2, e1, e2⟩ | ⟨h1, e1, e2⟩
  · rw [e1, e2]
    by_cases c1 : p % 256 = 96
    · rw [if_pos (by omega), if_pos (by omega), show 530 + p - (512 + p % 256) = p - p % 256 + 18 by omega]
    · rw [if_neg (by omega), if_neg (by omega)]
  · rw [e1, e2, if_neg (by omega), if_neg (by omega)]
theorem flat_eq {f g : Int → List Int} (L : List Int) (h : ∀ p ∈ L, f p = g p) : L.flatMap f = L.flatMap g := by
  induction L with
  | nil => rfl
  | cons a t ih => rw [List.flatMap_cons, List.flatMap_cons, h a (by simp), ih (fun p hp => h p (by simp [hp]))]
theorem flat_take {f : Int → List Int} (L : List Int) (k : Nat) (h : k < L.length) : (L.take (k + 1)).flatMap f = (L.take k).flatMap f ++ f (L.getD k 0) := by
  rw [List.take_add_one, List.flatMap_append]
  simp [List.getD_eq_getElem?_getD, h]
theorem flat_len {f : Int → List Int} (L : List Int) (hf : ∀ p, (f p).length ≤ 2) : (L.flatMap f).length ≤ 2 * L.length := by
  induction L with
  | nil => simp
  | cons a t ih => have := hf a; rw [List.flatMap_cons, List.length_append, List.length_cons]; omega
theorem flat_take_len {f : Int → List Int} (L : List Int) (k : Nat) (hf : ∀ p, (f p).length ≤ 2) : ((L.take k).flatMap f).length ≤ 2 * L.length := by
  have h1 := flat_len (L.take k) hf
  have h2 : (L.take k).length ≤ L.length := by simp; omega
  omega
theorem fi_len (p : Int) : (fi1 p).length ≤ 2 := by unfold fi1; (repeat' split) <;> simp
theorem fo_len (p : Int) : (fo1 p).length ≤ 2 := by unfold fo1; (repeat' split) <;> simp
theorem ui_len (p : Int) : (ui1 p).length ≤ 2 := by unfold ui1; split <;> simp
theorem uo_len (p : Int) : (uo1 p).length ≤ 2 := by unfold uo1; split <;> simp
end Cas
end Go.Proofs.YtecbbifepbgmlaaDoor
