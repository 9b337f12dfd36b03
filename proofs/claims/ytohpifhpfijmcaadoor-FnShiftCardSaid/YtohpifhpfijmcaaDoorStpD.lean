/- Steps read back. No walk. -/
import Derived.Test.YtohpifhpfijmcaaDoorStpM
namespace Go.Proofs.YtohpifhpfijmcaaDoor
open Go.RowKit
/-- How many bytes from a place on have 128 more: at most 4. -/
def kk (s : ByteArray) (i : Nat) : Nat :=
  if s.size ≤ i ∨ bt s i < 128 then 0 else if s.size ≤ i + 1 ∨ bt s (i + 1) < 128 then 1 else if s.size ≤ i + 2 ∨ bt s (i + 2) < 128 then 2 else if s.size ≤ i + 3 ∨ bt s (i + 3) < 128 then 3 else 4
/-- The first k bytes from a place on have 128 more. -/
def Goon (s : ByteArray) (i k : Nat) : Prop := ∀ j, j < k → i + j < s.size ∧ 128 ≤ bt s (i + j)
theorem Goon.succ {s : ByteArray} {i k : Nat} (h : Goon s i k) (h1 : i + k < s.size) (h2 : 128 ≤ bt s (i + k)) : Goon s i (k + 1) := by
  intro j hj
  by_cases e : j = k
  · subst e; exact ⟨h1, h2⟩
  · exact h j (by omega)
theorem kk_eq {s : ByteArray} {i k : Nat} (h : Goon s i k) (hk : k ≤ 4) (he : k = 4 ∨ s.size ≤ i + k ∨ bt s (i + k) < 128) : kk s i = k := by
  unfold kk
  have h0 := h 0
  have h1 := h 1
  have h2 := h 2
  have h3 := h 3
  rw [Nat.add_zero] at h0
  obtain rfl | rfl | rfl | rfl | rfl : k = 0 ∨ k = 1 ∨ k = 2 ∨ k = 3 ∨ k = 4 := by omega
  · rw [Nat.add_zero] at he
    rw [if_pos (by omega)]
  · rw [if_neg (by omega), if_pos (by omega)]
  · rw [if_neg (by omega), if_neg (by omega), if_pos (by omega)]
  · rw [if_neg (by omega), if_neg (by omega), if_neg (by omega), if_pos (by omega)]
  · rw [if_neg (by omega), if_neg (by omega), if_neg (by omega), if_neg (by omega)]
/-- The number of the first k bytes. -/
def acc7 (s : ByteArray) (i : Nat) : Nat → Nat
  | 0 => 0
  | k + 1 => acc7 s i k + bt s (i + k) % 128 * 128 ^ k
theorem acc7_bd (s : ByteArray) (i k : Nat) : acc7 s i k < 128 ^ k := by
  induction k with
  | zero => simp [acc7]
  | succ k ih =>
    have h : bt s (i + k) % 128 ≤ 127 := by omega
    have h2 : bt s (i + k) % 128 * 128 ^ k ≤ 127 * 128 ^ k := Nat.mul_le_mul_right _ h
    show acc7 s i k + bt s (i + k) % 128 * 128 ^ k < 128 ^ (k + 1)
    rw [Nat.pow_succ]
    omega
def bad7 (s : ByteArray) (i : Nat) : Bool := decide (kk s i = 4 ∨ s.size ≤ i + kk s i ∨ (0 < kk s i ∧ bt s (i + kk s i) = 0))
def num7 (s : ByteArray) (i : Nat) : Nat := acc7 s i (kk s i + 1)
def zag (n : Int) : Int := if n % 2 = 0 then n / 2 else -((n + 1) / 2)
/-- The points so far, where the next step begins to count, and at which byte. -/
structure DS where
  l : List Int
  f : Int
  i : Nat
def dnext (s : ByteArray) (x : DS) : Option DS :=
  if x.i < s.size ∧ bad7 s x.i = false ∧ isPt (x.f + zag (num7 s x.i)) = true then some ⟨x.l ++ [x.f + zag (num7 s x.i)], mid (x.f + zag (num7 s x.i)), x.i + kk s x.i + 1⟩ else none
def dst (s : ByteArray) (n : Nat) : DS := iter (dnext s) n ⟨[], 64, 0⟩
def dfin (s : ByteArray) : DS := dst s s.size
theorem dst_succ {s : ByteArray} {n : Nat} (h1 : (dst s n).i < s.size) (h2 : bad7 s (dst s n).i = false) (h3 : isPt ((dst s n).f + zag (num7 s (dst s n).i)) = true) :
    dst s (n + 1) = ⟨(dst s n).l ++ [(dst s n).f + zag (num7 s (dst s n).i)], mid ((dst s n).f + zag (num7 s (dst s n).i)), (dst s n).i + kk s (dst s n).i + 1⟩ := by
  apply iter_some
  show dnext s (dst s n) = _
  unfold dnext
  rw [if_pos ⟨h1, h2, h3⟩]
theorem dst_stop {s : ByteArray} {n : Nat} (hn : n ≤ s.size) (h : ¬ ((dst s n).i < s.size ∧ bad7 s (dst s n).i = false ∧ isPt ((dst s n).f + zag (num7 s (dst s n).i)) = true)) : dfin s = dst s n := by
  apply iter_fin (hn := hn)
  show dnext s (dst s n) = _
  unfold dnext
  rw [if_neg h]
/-- The whole answer: code, place, bytes. -/
def dans (s : ByteArray) : Int × Int × List Int :=
  if (dfin s).i < s.size then (if bad7 s (dfin s).i = true then (3, (dfin s).i, []) else (5, (dfin s).i, []))
  else if 65536 < (textL (dfin s).l).length then (2, 0, []) else (0, 0, textL (dfin s).l)
/-- An answer of chapter 4 as a value. -/
def legV (x : Int × Int × List Int) : Value := .agg #[.int .i64 x.1, .int .i64 x.2.1, .string (strOfNums x.2.2)]
def stepsD (s : ByteArray) : Int × Int × List Int := if 65536 < s.size then (2, 0, []) else dans s
theorem zag_bd (n : Nat) : -((n : Int) + 1) ≤ zag n ∧ zag n ≤ n := by unfold zag; split <;> omega
end Go.Proofs.YtohpifhpfijmcaaDoor
