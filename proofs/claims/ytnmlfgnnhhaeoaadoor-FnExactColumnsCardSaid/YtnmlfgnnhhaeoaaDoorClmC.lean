/- Columns: the cells of a row, in plain texts. -/
import Derived.Test.YtnmlfgnnhhaeoaaDoorND
import Derived.Test.YtnmlfgnnhhaeoaaDoorStrA
namespace Go.Proofs.YtnmlfgnnhhaeoaaDoor
namespace Clm
open Go.RowKit
set_option linter.unusedVariables false
/-- The cells of a row up to a place, and where the next one begins. -/
def cts (x : ByteArray) : Nat → List ByteArray × Nat
  | 0 => ([], 0)
  | i + 1 => if bt x i = 9 then ((cts x i).1 ++ [x.extract (cts x i).2 i], i + 1) else cts x i
theorem cts_yes {x : ByteArray} {i : Nat} (h : bt x i = 9) : cts x (i + 1) = ((cts x i).1 ++ [x.extract (cts x i).2 i], i + 1) := if_pos h
theorem cts_no {x : ByteArray} {i : Nat} (h : ¬ bt x i = 9) : cts x (i + 1) = cts x i := if_neg h
theorem cts_le (x : ByteArray) : ∀ i, (cts x i).2 ≤ i ∧ (cts x i).1.length ≤ (cts x i).2
  | 0 => ⟨Nat.le_refl _, Nat.le_refl _⟩
  | i + 1 => by
    have ih := cts_le x i
    by_cases h : bt x i = 9
    · rw [cts_yes h]
      simp
      omega
    · rw [cts_no h]
      omega
/-- No cell ends between two places: what was told at the first one holds at the second one. -/
theorem cts_skip {x : ByteArray} {a : Nat} : ∀ d, (∀ j, a ≤ j → j < a + d → ¬ bt x j = 9) → cts x (a + d) = cts x a
  | 0, _ => rfl
  | d + 1, h => by
    rw [← Nat.add_assoc, cts_no (h (a + d) (by omega) (by omega))]
    exact cts_skip d (fun j h1 h2 => h j h1 (by omega))
def cel (x : ByteArray) : List ByteArray := (cts x x.size).1
def lst (x : ByteArray) : ByteArray := x.extract (cts x x.size).2 x.size
theorem cts_size (x : ByteArray) : ∀ i, i ≤ x.size → ∀ c ∈ (cts x i).1, c.size ≤ x.size
  | 0, _, c, h => by cases h
  | i + 1, hi, c, h => by
    have ih := cts_size x i (by omega)
    by_cases e : bt x i = 9
    · rw [cts_yes e] at h
      rcases List.mem_append.1 h with h | h
      · exact ih c h
      · rw [List.mem_singleton] at h
        subst h
        rw [ByteArray.size_extract]
        omega
    · rw [cts_no e] at h
      exact ih c h
theorem cel_size (x : ByteArray) (k : Nat) (hk : k < (cel x).length) : (nthS (cel x) k).size ≤ x.size := by
  refine cts_size x x.size (Nat.le_refl _) _ ?_
  unfold nthS
  rw [List.getD_eq_getElem?_getD, List.getElem?_eq_getElem hk]
  exact List.getElem_mem hk
theorem cel_len (x : ByteArray) : (cel x).length ≤ x.size := by
  have := cts_le x x.size
  unfold cel
  omega
theorem lst_size (x : ByteArray) : (lst x).size ≤ x.size := by
  unfold lst
  rw [ByteArray.size_extract]
  omega
end Clm
end Go.Proofs.YtnmlfgnnhhaeoaaDoor
