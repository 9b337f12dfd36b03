/- The digits of a text, by the tree: what the rounds do. -/
import Derived.Test.YtgmpkapeemiecaaHypH
namespace Go.Proofs.Ytgmpkapeemiecaa
namespace Hyp
open Go.RowKit
set_option linter.unusedVariables false
set_option linter.unusedSimpArgs false
/-- The path of n letters from a place on. -/
def pth (t : ByteArray) (a : Nat) : Nat → List Nat
  | 0 => []
  | n + 1 => pth t a n ++ [kd (bt t (a + n) : Int)]
def rr (D : List Nat → Option (List Int)) (t : ByteArray) (a : Nat) (R : List Int) : Nat → List Int
  | 0 => R
  | n + 1 => match D (pth t a (n + 1)) with
    | some L => rsk (rr D t a R n) a L L.length
    | none => rr D t a R n
def aa (D : List Nat → Option (List Int)) (t : ByteArray) : Nat → List Int
  | 0 => List.replicate (t.size + 1) 0
  | a + 1 => rr D t a (aa D t a) (t.size - a)
theorem rr_len (D : List Nat → Option (List Int)) (t : ByteArray) (a : Nat) (R : List Int) (n : Nat) : (rr D t a R n).length = R.length := by
  induction n with
  | zero => rfl
  | succ n ih =>
    rw [rr]
    split
    · rw [rsk_len, ih]
    · exact ih
theorem aa_len (D : List Nat → Option (List Int)) (t : ByteArray) (a : Nat) : (aa D t a).length = t.size + 1 := by
  induction a with
  | zero => simp [aa]
  | succ a ih => rw [aa, rr_len, ih]
theorem pth_len (t : ByteArray) (a n : Nat) : (pth t a n).length = n := by
  induction n with
  | zero => rfl
  | succ n ih => simp [pth, ih]
theorem up_all {B : Nat} {w : World} {A : Mp} (h : Tr B w A) (t : ByteArray) (a n : Nat) (h0 : A (pth t a n) = none) : ∀ k, A (pth t a (n + k)) = none
  | 0 => h0
  | k + 1 => by
    by_cases c : A (pth t a (n + (k + 1))) = none
    · exact c
    · exact absurd (up_all h t a n h0 k) (h.up _ _ c)
theorem rr_stop {B : Nat} {w : World} {A : Mp} (h : Tr B w A) (t : ByteArray) (a n : Nat) (R : List Int) (h0 : A (pth t a (n + 1)) = none) : ∀ k, rr (dgA A) t a R (n + k) = rr (dgA A) t a R n
  | 0 => rfl
  | k + 1 => by
    have := up_all h t a (n + 1) h0 k
    rw [show n + 1 + k = n + k + 1 by omega] at this
    have e : dgA A (pth t a (n + k + 1)) = none := by unfold dgA; rw [this]; rfl
    rw [← Nat.add_assoc, rr, e]
    exact rr_stop h t a n R h0 k
theorem cut_byte (t : ByteArray) (a i : Nat) (h : a + i < t.size) : ((t.extract a t.size).data.toList.getD i 0).toNat = bt t (a + i) := by
  have h2 : i < (t.extract a t.size).data.toList.length := by
    rw [Array.length_toList]
    show i < (t.extract a t.size).size
    rw [ByteArray.size_extract]
    omega
  have e : ∀ (s : ByteArray) (j : Nat) (hj : j < s.size), s.get! j = s.data.toList.getD j 0 := fun s j hj => by
    obtain ⟨⟨l⟩⟩ := s
    show (⟨l⟩ : Array UInt8)[j]! = l.getD j 0
    have hj2 : j < l.length := hj
    simp [List.getD_eq_getElem?_getD, hj2]
  unfold bt
  rw [e t (a + i) h]
  congr 1
  rw [ByteArray.data_extract]
  have h3 : a + i < t.data.size := h
  simp [List.getD_eq_getElem?_getD, List.getElem?_take, List.getElem?_drop, show i < t.size - a by omega, Array.getElem?_eq_getElem h3]
end Hyp
end Go.Proofs.Ytgmpkapeemiecaa
