/- Which texts are words of script 8, in plain numbers: the program's way and the specification's. -/
import Derived.Test.YtjcgchmncgihbaaDoorScrK
import Derived.Test.YtjcgchmncgihbaaDoorWelQ
import Derived.Test.YtjcgchmncgihbaaDoorStrB
namespace Go.Proofs.YtjcgchmncgihbaaDoor
namespace Wd
/-- All points of a row are of script 8. -/
def allP (L : List Int) : Bool := L.all fun p => scr p == 8
/-- The specification's words. -/
def wrd (x : ByteArray) : Bool := decide (1 ≤ (pts x).length ∧ (pts x).length ≤ 60) && (decide (strOfNums (textL (pts x)) = x) && allP (pts x))
theorem enc3 {p : Int} (h0 : 2048 ≤ p) (h1 : p ≤ 2095) : (Lib.encodeRuneZ p).length = 3 := by
  rw [Lib.encodeRuneZ_three (by omega)]; rfl
theorem steps_sub (s : ByteArray) (k j : Nat) : ∀ x ∈ (steps s k).1, x ∈ (steps s (k + j)).1 := by
  intro x hx
  induction j with
  | zero => exact hx
  | succ j ih =>
    show x ∈ (if (steps s (k + j)).2 < s.size then _ else steps s (k + j)).1
    split
    · simp [ih]
    · exact ih
theorem steps_in (s : ByteArray) (k : Nat) : ∀ x ∈ (steps s k).1, x ∈ pts s := by
  intro x hx
  have h1 := steps_sub s k s.size x hx
  have h2 : s.size ≤ (steps s (k + s.size)).2 := by rcases steps_go s (k + s.size) with h | h <;> omega
  rwa [steps_pts s _ h2] at h1
theorem at_in (s : ByteArray) (k : Nat) (h : (steps s k).2 < s.size) : (dP s (steps s k).2 : Int) ∈ pts s := by
  refine steps_in s (k + 1) _ ?_
  rw [steps_next s k h]
  simp
theorem allP_at {L : List Int} (h : allP L = true) {p : Int} (hp : p ∈ L) : 2048 ≤ p ∧ p ≤ 2095 := by
  have := List.all_eq_true.1 h p hp
  exact part_in (by simpa using this)
theorem parts_ok {s : ByteArray} (h : allP (pts s) = true) : ∀ n, okTo s n := by
  intro n k hk hs
  cases e : okA s (steps s k).2 with
  | true => rfl
  | false =>
    have h1 := okA_yes e
    have h2 := allP_at h (at_in s k hs)
    omega
theorem parts_valid {s : ByteArray} (h : allP (pts s) = true) : vB s = true := valid_end (parts_ok h s.size) (by rcases steps_go s s.size with h | h <;> exact h)
theorem text3 (L : List Int) (h : ∀ p ∈ L, 2048 ≤ p ∧ p ≤ 2095) : (textL L).length = 3 * L.length := by
  induction L with
  | nil => rfl
  | cons a t ih =>
    have h1 := enc3 (h a (by simp)).1 (h a (by simp)).2
    have h2 := ih (fun p hp => h p (by simp [hp]))
    unfold textL at h2 ⊢
    rw [List.flatMap_cons, List.length_append, h1, h2, List.length_cons]
    omega
theorem parts_text {s : ByteArray} (h : allP (pts s) = true) : strOfNums (textL (pts s)) = s := wel_of (parts_valid h)
theorem parts_size {s : ByteArray} (h : allP (pts s) = true) : s.size = 3 * (pts s).length := by
  have h1 := parts_text h
  have h2 : (strOfNums (textL (pts s))).size = s.size := by rw [h1]
  rw [strOfNums_size, text3 _ (fun p hp => allP_at h hp)] at h2
  exact h2.symm
/-- The program's way is the same. -/
theorem wrd_eq (x : ByteArray) : wrd x = (decide (0 < x.size ∧ x.size ≤ 180) && allP (pts x)) := by
  unfold wrd
  cases h : allP (pts x) with
  | false => simp
  | true =>
    have h1 := parts_text h
    have h2 := parts_size h
    rw [Bool.and_true, Bool.and_true, decide_eq_true h1, Bool.and_true]
    exact decide_eq_decide.2 ⟨fun h => by omega, fun h => by omega⟩
/-- A text stands ahead of another one. -/
def lsB (a b : ByteArray) : Bool := Op.bytesLess a.toList b.toList
theorem geq_run (a b : ByteArray) (W : World) : (binOp .geq 9 (.string a) (.string b)).run Tryd.prog W = .ok (.bool (!lsB a b)) W := by
  simp [go_sem, lsB]
def wfl (l : List ByteArray) (k : Nat) : Bool := wrd (nthS l k) && (k == 0 || lsB (nthS l (k - 1)) (nthS l k))
def wfk (l : List ByteArray) : Nat → Bool
  | 0 => true
  | k + 1 => wfk l k && wfl l k
theorem wfk_no {l : List ByteArray} {k : Nat} (h : wfl l k = false) (j : Nat) : wfk l (k + 1 + j) = false := by
  induction j with
  | zero => show (wfk l k && wfl l k) = false; rw [h, Bool.and_false]
  | succ j ih => show (wfk l (k + 1 + j) && wfl l (k + 1 + j)) = false; rw [ih, Bool.false_and]
theorem wfk_end {l : List ByteArray} {k n : Nat} (h : wfl l k = false) (hk : k < n) : wfk l n = false := by
  have := wfk_no h (n - (k + 1))
  rwa [show k + 1 + (n - (k + 1)) = n by omega] at this
/-- The code: 0 where the words are right. -/
def wfc (l : List ByteArray) : Int := if 1000 < l.length then 1 else if wfk l l.length = true then 0 else 1
end Wd
end Go.Proofs.YtjcgchmncgihbaaDoor
