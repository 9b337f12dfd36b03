/- Shift: points as bytes in states. No walk. -/
import Derived.Test.YtohpifhpfijmcaaDoorStpF
namespace Go.Proofs.YtohpifhpfijmcaaDoor
open Go.RowKit
/-- The state in which a point is written, coming from a state; -1: none. -/
def stF (st p : Int) : Int := if p = 27 then -1 else if p < 32 then st else if p ≤ 126 then 0 else if 512 ≤ p ∧ p < 1280 ∧ p % 256 < 96 then p / 256 - 1 else if 24576 ≤ p ∧ p ≤ 26623 then 4 else -1
def letter (st : Int) : Int := if st = 0 then 65 else if st = 1 then 66 else if st = 2 then 67 else if st = 3 then 68 else 87
def layS (st nx : Int) : List Int := if st = nx then [] else [27, letter nx]
def layP (st p : Int) : List Int := if p < 32 ∨ st = 0 then [p] else if st = 4 then [33 + (p - 24576) / 94, 33 + (p - 24576) % 94] else [32 + p % 256]
def behind (nx p : Int) : Int := if p = 10 then 0 else nx
/-- The whole answer, from what has been written and the state, at the k-th point. -/
def shGo (out : List Int) (st : Int) (k : Nat) : List Int → Int × Int × List Int
  | [] => legA (out ++ layS st 0)
  | p :: t => if stF st p = -1 then (5, k, []) else shGo (out ++ layS st (stF st p) ++ layP (stF st p) p) (behind (stF st p) p) (k + 1) t
def shAns (l : List Int) : Int × Int × List Int := shGo [] 0 0 l
theorem stF_bd {st p : Int} (h0 : 0 ≤ st) (h4 : st ≤ 4) (_hp : 0 ≤ p) (h : stF st p ≠ -1) : 0 ≤ stF st p ∧ stF st p ≤ 4 := by
  unfold stF at *
  split at h
  · omega
  split at h
  · rename_i a b; rw [if_neg a, if_pos b]; omega
  split at h
  · rename_i a b c; rw [if_neg a, if_neg b, if_pos c]; omega
  split at h
  · rename_i a b c d; rw [if_neg a, if_neg b, if_neg c, if_pos d]; omega
  split at h
  · rename_i a b c d e; rw [if_neg a, if_neg b, if_neg c, if_neg d, if_pos e]; omega
  · omega
theorem behind_bd {nx p : Int} (h0 : 0 ≤ nx) (h4 : nx ≤ 4) : 0 ≤ behind nx p ∧ behind nx p ≤ 4 := by unfold behind; split <;> omega
theorem layS_len (st nx : Int) : (layS st nx).length ≤ 2 := by unfold layS; split <;> simp
theorem layP_len (st p : Int) : (layP st p).length ≤ 2 := by unfold layP; split <;> (try split) <;> simp
theorem steps_pre (s : ByteArray) (n m : Nat) : ∃ R, (steps s (n + m)).1 = (steps s n).1 ++ R := by
  induction m with
  | zero => exact ⟨[], by simp⟩
  | succ m ih =>
    obtain ⟨R, hR⟩ := ih
    rw [← Nat.add_assoc]
    show ∃ R, (if (steps s (n + m)).2 < s.size then _ else steps s (n + m)).1 = _
    split
    · exact ⟨R ++ [(dP s (steps s (n + m)).2 : Int)], by show _ ++ _ = _; rw [hR, List.append_assoc]⟩
    · exact ⟨R, hR⟩
theorem pts_pre (s : ByteArray) (n : Nat) : ∃ R, pts s = (steps s n).1 ++ R := by
  by_cases h : n ≤ s.size
  · obtain ⟨R, hR⟩ := steps_pre s n (s.size - n)
    rw [show n + (s.size - n) = s.size by omega] at hR
    exact ⟨R, hR⟩
  · have hs : s.size ≤ (steps s s.size).2 := by rcases steps_go s s.size with h | h <;> exact h
    have e := steps_stop s s.size (n - s.size) hs
    rw [show s.size + (n - s.size) = n by omega] at e
    exact ⟨[], by rw [e, List.append_nil]; rfl⟩
/-- What is left to be read begins with the point that is read next. -/
theorem pts_left {s : ByteArray} {n pos : Nat} {L R : List Int} (h : steps s n = (L, pos)) (hp : pos < s.size) (hR : pts s = L ++ R) : ∃ R', R = (dP s pos : Int) :: R' := by
  have h1 := pts_step h hp
  obtain ⟨R', hR'⟩ := pts_pre s (n + 1)
  rw [h1] at hR'
  have hR'' : pts s = L ++ [(dP s pos : Int)] ++ R' := hR'
  rw [hR, List.append_assoc] at hR''
  exact ⟨R', List.append_cancel_left hR''⟩
theorem pts_none {s : ByteArray} {n pos : Nat} {L R : List Int} (h : steps s n = (L, pos)) (hp : ¬ pos < s.size) (hR : pts s = L ++ R) : R = [] := by
  have e := steps_pts s n (by rw [h]; show s.size ≤ pos; omega)
  rw [h] at e
  have e' : L = pts s := e
  rw [← e'] at hR
  have := congrArg List.length hR
  rw [List.length_append] at this
  exact List.length_eq_zero_iff.1 (by omega)
theorem shGo_one {out : List Int} {st : Int} {k : Nat} {p : Int} {t : List Int} (h : stF st p ≠ -1) : shGo out st k (p :: t) = shGo (out ++ layS st (stF st p) ++ layP (stF st p) p) (behind (stF st p) p) (k + 1) t := by
  show (if stF st p = -1 then _ else _) = _
  rw [if_neg h]
theorem shGo_not {out : List Int} {st : Int} {k : Nat} {p : Int} {t : List Int} (h : stF st p = -1) : shGo out st k (p :: t) = (5, (k : Int), []) := by
  show (if stF st p = -1 then _ else _) = _
  rw [if_pos h]
end Go.Proofs.YtohpifhpfijmcaaDoor
