/- Steps: points as numbers of seven binary digits a byte, and back. No walk. -/
import Derived.Test.YtohpifhpfijmcaaDoorEncPt
namespace Go.Proofs.YtohpifhpfijmcaaDoor
open Go.RowKit
/-- A machine that goes on till it can't. -/
def iter {α : Type} (f : α → Option α) : Nat → α → α
  | 0, x => x
  | n + 1, x => match f (iter f n x) with
    | some y => y
    | none => iter f n x
theorem iter_some {α : Type} {f : α → Option α} {n : Nat} {x y : α} (h : f (iter f n x) = some y) : iter f (n + 1) x = y := by
  show (match f (iter f n x) with | some y => y | none => iter f n x) = y
  rw [h]
theorem iter_none {α : Type} {f : α → Option α} {n : Nat} {x : α} (h : f (iter f n x) = none) (m : Nat) : iter f (n + m) x = iter f n x := by
  induction m with
  | zero => rfl
  | succ m ih =>
    show (match f (iter f (n + m) x) with | some y => y | none => iter f (n + m) x) = _
    rw [ih, h]
theorem iter_fin {α : Type} {f : α → Option α} {n N : Nat} {x : α} (h : f (iter f n x) = none) (hn : n ≤ N) : iter f N x = iter f n x := by
  obtain ⟨m, rfl⟩ : ∃ m, N = n + m := ⟨N - n, by omega⟩
  exact iter_none h m
def mid (p : Int) : Int := p / 128 * 128 + 64
def zig (d : Int) : Int := if d < 0 then -2 * d - 1 else 2 * d
/-- A number in pieces of seven binary digits, the lowest first. -/
def vl (n : Nat) : List Int := if n < 128 then [(n : Int)] else ((128 + n % 128 : Nat) : Int) :: vl (n / 128)
theorem vl_last {n : Nat} (h : n < 128) : vl n = [(n : Int)] := by rw [vl, if_pos h]
theorem vl_more {n : Nat} (h : ¬ n < 128) : vl n = ((128 + n % 128 : Nat) : Int) :: vl (n / 128) := by rw [vl, if_neg h]
theorem vl_len (n : Nat) (h : n < 268435456) : 1 ≤ (vl n).length ∧ (vl n).length ≤ 4 := by
  by_cases h1 : n < 128
  · rw [vl_last h1]; simp
  by_cases h2 : n / 128 < 128
  · rw [vl_more h1, vl_last h2]; simp
  by_cases h3 : n / 128 / 128 < 128
  · rw [vl_more h1, vl_more h2, vl_last h3]; simp
  rw [vl_more h1, vl_more h2, vl_more h3, vl_last (by omega)]; simp
theorem vl_byte (n : Nat) : ∀ x ∈ vl n, 0 ≤ x ∧ x < 256 := by
  induction n using Nat.strongRecOn with
  | _ n ih =>
    by_cases h1 : n < 128
    · rw [vl_last h1]; intro x hx; simp at hx; omega
    · rw [vl_more h1]
      intro x hx
      rcases List.mem_cons.1 hx with rfl | hx
      · omega
      · exact ih (n / 128) (by omega) x hx
/-- One point more: its step behind the bytes. -/
def stp (x : List Int × Int) (p : Int) : List Int × Int := (x.1 ++ vl (zig (p - x.2)).toNat, mid p)
def encSt (l : List Int) : List Int × Int := l.foldl stp ([], 64)
theorem encSt_snoc (l : List Int) (p : Int) : encSt (l ++ [p]) = stp (encSt l) p := by unfold encSt; rw [List.foldl_append]; rfl
theorem encSt_take (l : List Int) (k : Nat) (h : k < l.length) : encSt (l.take (k + 1)) = stp (encSt (l.take k)) (nth l k) := by
  have e : nth l k = l[k] := by simp [nth, List.getD, h]
  rw [List.take_succ_eq_append_getElem h, e, encSt_snoc]
theorem mid_bd {p : Int} (h : isPt p = true) : 64 ≤ mid p ∧ mid p ≤ 1114112 := by
  have := (isPt_iff p).1 h
  unfold mid; omega
theorem zig_bd {p f : Int} (h : isPt p = true) (h1 : 64 ≤ f) (h2 : f ≤ 1114112) : 0 ≤ zig (p - f) ∧ zig (p - f) < 268435456 := by
  have := (isPt_iff p).1 h
  unfold zig; split <;> omega
theorem encSt_bd' (l : List Int) (hl : ∀ x ∈ l, isPt x = true) (x : List Int × Int) (h1 : 64 ≤ x.2) (h2 : x.2 ≤ 1114112) :
    64 ≤ (l.foldl stp x).2 ∧ (l.foldl stp x).2 ≤ 1114112 ∧ (l.foldl stp x).1.length ≤ x.1.length + 4 * l.length := by
  induction l generalizing x with
  | nil => exact ⟨h1, h2, by simp⟩
  | cons p t ih =>
    have hp := hl p (by simp)
    have hm := mid_bd hp
    have hz := zig_bd hp h1 h2
    have hv := (vl_len (zig (p - x.2)).toNat (by omega)).2
    have := ih (fun y hy => hl y (by simp [hy])) (stp x p) hm.1 hm.2
    refine ⟨this.1, this.2.1, ?_⟩
    have t2 := this.2.2
    have e : (stp x p).1.length = x.1.length + (vl (zig (p - x.2)).toNat).length := by simp [stp]
    rw [List.foldl_cons, List.length_cons]
    omega
theorem encSt_bd (l : List Int) (hl : ∀ x ∈ l, isPt x = true) : 64 ≤ (encSt l).2 ∧ (encSt l).2 ≤ 1114112 ∧ (encSt l).1.length ≤ 4 * l.length := by
  have := encSt_bd' l hl ([], 64) (by simp) (by simp)
  simpa [encSt] using this
end Go.Proofs.YtohpifhpfijmcaaDoor
