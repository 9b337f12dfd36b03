/- Numbers written by runs: no Go in sight. -/
import Derived.Test.YtjncfkcpjjnmdaaDoorGA
import Derived.Lib.ItoaNum
import Derived.Lib.ItoaLen
import Derived.Lib.ItoaMem
namespace Go.Proofs.YtjncfkcpjjnmdaaDoor
open Go.RowKit
/-- The digits of a number, as numbers. -/
def digZ (u : Nat) : List Int := (Lib.decDigits u).map fun b => (b.toNat : Int)
def itoaZ (n : Int) : List Int := (Lib.itoa n).map fun b => (b.toNat : Int)
theorem digZ_small {u : Nat} (h : u < 10) : digZ u = [48 + (u : Int)] := by
  unfold digZ
  rw [Lib.decDigits_one h]
  simp
  omega
theorem digZ_big {u : Nat} (h : ¬ u < 10) : digZ u = digZ (u / 10) ++ [48 + ((u % 10 : Nat) : Int)] := by
  unfold digZ
  rw [Lib.decDigits, dif_neg h, List.map_append]
  congr 1
  simp
  omega
theorem itoaZ_pos {n : Int} (h : 0 ≤ n) : itoaZ n = digZ n.toNat := by
  unfold itoaZ digZ Lib.itoa
  rw [if_neg (by omega)]
theorem itoaZ_neg {n : Int} (h : n < 0) : itoaZ n = 45 :: digZ n.natAbs := by
  unfold itoaZ digZ Lib.itoa
  rw [if_pos h, List.map_cons]
  rfl
theorem itoaZ_len (n : Int) (h0 : -9223372036854775808 ≤ n) (h1 : n ≤ 9223372036854775807) : (itoaZ n).length ≤ 21 := by
  have := Lib.itoa_length_le n h0 h1
  unfold itoaZ
  rwa [List.length_map]
/-- The end of the run that begins at i. -/
def pkEnd (L : List Int) (i : Nat) : Nat → Nat → Nat
  | 0, k => k
  | f + 1, k => if k < L.length ∧ nth L k = nth L i then pkEnd L i f (k + 1) else k
def pkEndL (L : List Int) (i : Nat) : Nat := pkEnd L i L.length (i + 1)
/-- A run from i to k. -/
def RunTo (L : List Int) (i k : Nat) : Prop := i < k ∧ k ≤ L.length ∧ (∀ j, i ≤ j → j < k → nth L j = nth L i) ∧ (k = L.length ∨ nth L k ≠ nth L i)
theorem pkEnd_of {L : List Int} {i k : Nat} (h : RunTo L i k) : ∀ (f m : Nat), i < m → m ≤ k → k - m ≤ f → pkEnd L i f m = k
  | 0, m, _, h2, h3 => by
    show m = k
    omega
  | f + 1, m, h1, h2, h3 => by
    show (if _ then _ else _) = _
    by_cases e : m = k
    · subst e
      rw [if_neg]
      rintro ⟨a, b⟩
      rcases h.2.2.2 with c | c
      · omega
      · exact c b
    · rw [if_pos ⟨by have := h.2.1; omega, h.2.2.1 m (by omega) (by omega)⟩]
      exact pkEnd_of h f (m + 1) (by omega) (by omega) (by omega)
theorem pkEndL_of {L : List Int} {i k : Nat} (h : RunTo L i k) : pkEndL L i = k := by
  have h1 := h.1
  have h2 := h.2.1
  exact pkEnd_of h _ _ (by omega) (by omega) (by omega)
def pkPiece (L : List Int) (i k : Nat) : List Int := (if 0 < i then [44] else []) ++ itoaZ (nth L i) ++ (if 1 < k - i then 120 :: itoaZ ((k - i : Nat) : Int) else [])
def pkF (L : List Int) : Nat → Nat → List Int
  | 0, _ => []
  | f + 1, i => if i < L.length then pkPiece L i (pkEndL L i) ++ pkF L f (pkEndL L i) else []
theorem pkEnd_ge (L : List Int) (i : Nat) : ∀ (f m : Nat), m ≤ pkEnd L i f m
  | 0, m => Nat.le_refl _
  | f + 1, m => by
    show m ≤ (if _ then _ else _)
    split
    · have := pkEnd_ge L i f (m + 1)
      omega
    · exact Nat.le_refl _
theorem pkF_eq (L : List Int) : ∀ (f g i : Nat), L.length - i ≤ f → L.length - i ≤ g → pkF L f i = pkF L g i
  | 0, 0, _, _, _ => rfl
  | 0, g + 1, i, h, _ => by
    show [] = (if _ then _ else _)
    rw [if_neg (by omega)]
  | f + 1, 0, i, _, h => by
    show (if _ then _ else _) = []
    rw [if_neg (by omega)]
  | f + 1, g + 1, i, h1, h2 => by
    show (if _ then _ else _) = (if _ then _ else _)
    by_cases hi : i < L.length
    · rw [if_pos hi, if_pos hi]
      have := pkEnd_ge L i L.length (i + 1)
      have e : i + 1 ≤ pkEndL L i := this
      rw [pkF_eq L f g (pkEndL L i) (by omega) (by omega)]
    · rw [if_neg hi, if_neg hi]
/-- What is still to be written from i on. -/
def pkRest (L : List Int) (i : Nat) : List Int := pkF L (L.length - i) i
def pkRuns (L : List Int) : List Int := pkRest L 0
theorem pkRest_end {L : List Int} {i : Nat} (h : L.length ≤ i) : pkRest L i = [] := by
  unfold pkRest
  rw [show L.length - i = 0 by omega]
  rfl
theorem pkRest_step {L : List Int} {i k : Nat} (h : RunTo L i k) : pkRest L i = pkPiece L i k ++ pkRest L k := by
  have h1 := h.1
  have h2 := h.2.1
  unfold pkRest
  obtain ⟨m, hm⟩ : ∃ m, L.length - i = m + 1 := ⟨L.length - i - 1, by omega⟩
  rw [hm]
  show (if _ then _ else _) = _
  rw [if_pos (by omega), pkEndL_of h, pkF_eq L m (L.length - k) k (by omega) (Nat.le_refl _)]
theorem pkPiece_len (L : List Int) (i k : Nat) (h : k ≤ 1048576) (hb : -9223372036854775808 ≤ nth L i ∧ nth L i ≤ 9223372036854775807) : (pkPiece L i k).length ≤ 44 := by
  have h1 := itoaZ_len (nth L i) hb.1 hb.2
  have h2 := itoaZ_len ((k - i : Nat) : Int) (by omega) (by omega)
  unfold pkPiece
  rw [List.length_append, List.length_append]
  have a : (if 0 < i then [44] else [] : List Int).length ≤ 1 := by split <;> simp
  have b : (if 1 < k - i then 120 :: itoaZ ((k - i : Nat) : Int) else []).length ≤ 22 := by split <;> simp; omega
  omega
end Go.Proofs.YtjncfkcpjjnmdaaDoor
