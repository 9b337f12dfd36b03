/- Shift read back. No walk. -/
import Derived.Test.YtohpifhpfijmcaaDoorShfL
namespace Go.Proofs.YtohpifhpfijmcaaDoor
open Go.RowKit
def nameOf (b : Int) : Int := if b = 65 then 0 else if b = 66 then 1 else if b = 67 then 2 else if b = 68 then 3 else if b = 87 then 4 else -1
theorem nameOf_bd (b : Int) : -1 ≤ nameOf b ∧ nameOf b ≤ 4 := by
  unfold nameOf
  repeat' split
  all_goals omega
theorem name_letter {b k : Int} (h0 : 0 ≤ k) (h4 : k ≤ 4) : b = letter k ↔ nameOf b = k := by
  obtain rfl | rfl | rfl | rfl | rfl : k = 0 ∨ k = 1 ∨ k = 2 ∨ k = 3 ∨ k = 4 := by omega
  all_goals
    unfold nameOf letter
    constructor
    · intro h
      simp at h
      subst h
      rfl
    · intro h
      simp
      repeat' split at h
      all_goals omega
/-- The piece at a place: its point (-1: it leads to a state), the state behind it, how many bytes (0: none). -/
def pc (s : ByteArray) (i : Nat) (st : Int) : Int × Int × Nat :=
  if bt s i = 27 then (if i + 1 < s.size ∧ nameOf (bt s (i + 1)) ≠ -1 then (-1, nameOf (bt s (i + 1)), 2) else (0, 0, 0))
  else if bt s i < 32 then ((bt s i : Int), if bt s i = 10 then 0 else st, 1)
  else if st = 0 then (if bt s i ≤ 126 then ((bt s i : Int), 0, 1) else (0, 0, 0))
  else if st ≤ 3 then (if bt s i ≤ 127 then (256 + 256 * st + (bt s i : Int) - 32, st, 1) else (0, 0, 0))
  else if i + 1 < s.size ∧ 33 ≤ bt s i ∧ bt s i ≤ 126 ∧ 33 ≤ bt s (i + 1) ∧ bt s (i + 1) ≤ 126 ∧ 94 * ((bt s i : Int) - 33) + ((bt s (i + 1) : Int) - 33) < 2048 then (24576 + 94 * ((bt s i : Int) - 33) + ((bt s (i + 1) : Int) - 33), 4, 2)
  else (0, 0, 0)
theorem pc_bd {s : ByteArray} {i : Nat} {st : Int} (h0 : 0 ≤ st) (h4 : st ≤ 4) (hi : i < s.size) : 0 ≤ (pc s i st).2.1 ∧ (pc s i st).2.1 ≤ 4 ∧ i + (pc s i st).2.2 ≤ s.size ∧ -1 ≤ (pc s i st).1 ∧ (pc s i st).1 ≤ 26623 := by
  have hb := bt_lt s i
  have hn := nameOf_bd (bt s (i + 1))
  unfold pc
  repeat' split
  all_goals simp only []
  all_goals omega
structure HS where
  l : List Int
  st : Int
  i : Nat
def hnext (s : ByteArray) (x : HS) : Option HS :=
  if x.i < s.size ∧ (pc s x.i x.st).2.2 ≠ 0 then some ⟨if 0 ≤ (pc s x.i x.st).1 then x.l ++ [(pc s x.i x.st).1] else x.l, (pc s x.i x.st).2.1, x.i + (pc s x.i x.st).2.2⟩ else none
def hst (s : ByteArray) (n : Nat) : HS := iter (hnext s) n ⟨[], 0, 0⟩
def hfin (s : ByteArray) : HS := hst s s.size
def hans (s : ByteArray) : Int × Int × List Int :=
  if (hfin s).i < s.size then (3, (hfin s).i, []) else if (hfin s).st ≠ 0 then (6, s.size, []) else legA (textL (hfin s).l)
theorem hst_succ {s : ByteArray} {n i : Nat} {l : List Int} {st p st' : Int} {m : Nat} (h : hst s n = ⟨l, st, i⟩) (hi : i < s.size) (hp : pc s i st = (p, st', m)) (hm : m ≠ 0) :
    hst s (n + 1) = ⟨if 0 ≤ p then l ++ [p] else l, st', i + m⟩ := by
  apply iter_some
  show hnext s (hst s n) = _
  rw [h]
  unfold hnext
  simp only []
  rw [hp, if_pos ⟨hi, hm⟩]
theorem hst_stop {s : ByteArray} {n : Nat} (hn : n ≤ s.size) (h : ¬ ((hst s n).i < s.size ∧ (pc s (hst s n).i (hst s n).st).2.2 ≠ 0)) : hfin s = hst s n := by
  apply iter_fin (hn := hn)
  show hnext s (hst s n) = _
  unfold hnext
  rw [if_neg h]
theorem hst_bd (s : ByteArray) (n : Nat) : 0 ≤ (hst s n).st ∧ (hst s n).st ≤ 4 ∧ (hst s n).i ≤ s.size ∧ (hst s n).l.length ≤ (hst s n).i := by
  induction n with
  | zero => exact ⟨by show (0 : Int) ≤ 0; omega, by show (0 : Int) ≤ 4; omega, Nat.zero_le _, Nat.zero_le _⟩
  | succ n ih =>
    by_cases h : (hst s n).i < s.size ∧ (pc s (hst s n).i (hst s n).st).2.2 ≠ 0
    · obtain ⟨⟨l, st, i⟩, hx⟩ : ∃ x, hst s n = x := ⟨_, rfl⟩
      rw [hx] at ih h
      obtain ⟨⟨q, st', m⟩, hpc⟩ : ∃ y, pc s i st = y := ⟨_, rfl⟩
      have hb := pc_bd (s := s) (i := i) (st := st) ih.1 ih.2.1 h.1
      have hm := h.2
      simp only [] at hm ih
      rw [hpc] at hb hm
      have h1 := ih.2.2.2
      rw [hst_succ hx h.1 hpc hm]
      refine ⟨hb.1, hb.2.1, hb.2.2.1, ?_⟩
      have hm' : m ≠ 0 := hm
      by_cases hq : 0 ≤ q
      · simp only [if_pos hq, List.length_append, List.length_singleton]; omega
      · simp only [if_neg hq]; omega
    · have e : hst s (n + 1) = hst s n := by
        have hn : hnext s (hst s n) = none := by unfold hnext; rw [if_neg h]
        exact iter_none (f := hnext s) (n := n) (x := ⟨[], 0, 0⟩) hn 1
      rw [e]; exact ih
/-- The whole answer where it stops. -/
theorem hans_bad {s : ByteArray} {n i : Nat} {l : List Int} {st : Int} (h : hst s n = ⟨l, st, i⟩) (hn : n ≤ s.size) (hi : i < s.size) (hp : (pc s i st).2.2 = 0) : hans s = (3, (i : Int), []) := by
  have e := hst_stop (s := s) (n := n) hn (by rw [h]; intro c; exact c.2 hp)
  unfold hans
  rw [e, h, if_pos (show i < s.size from hi)]
theorem hans_state {s : ByteArray} {n i : Nat} {l : List Int} {st : Int} (h : hst s n = ⟨l, st, i⟩) (hn : n ≤ s.size) (hi : ¬ i < s.size) (hp : st ≠ 0) : hans s = (6, (s.size : Int), []) := by
  have e := hst_stop (s := s) (n := n) hn (by rw [h]; intro c; exact hi c.1)
  unfold hans
  rw [e, h, if_neg (show ¬ i < s.size from hi), if_pos (show st ≠ 0 from hp)]
theorem hans_text {s : ByteArray} {n i : Nat} {l : List Int} (h : hst s n = ⟨l, 0, i⟩) (hn : n ≤ s.size) (hi : ¬ i < s.size) : hans s = legA (textL l) := by
  have e := hst_stop (s := s) (n := n) hn (by rw [h]; intro c; exact hi c.1)
  unfold hans
  rw [e, h, if_neg (show ¬ i < s.size from hi), if_neg (show ¬ (0 : Int) ≠ 0 by omega)]
def shiftD (s : ByteArray) : Int × Int × List Int := if 65536 < s.size then (2, 0, []) else hans s
end Go.Proofs.YtohpifhpfijmcaaDoor
