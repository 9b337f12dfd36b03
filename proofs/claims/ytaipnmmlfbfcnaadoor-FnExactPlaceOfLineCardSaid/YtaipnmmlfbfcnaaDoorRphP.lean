/- The place of a line, pure: the place behind the n-th end of a line. -/
import Derived.Test.YtaipnmmlfbfcnaaDoorRpgP
import Derived.Lib.Bytealg
namespace Go.Proofs.YtaipnmmlfbfcnaaDoor.Rop
open Go.RowKit
set_option linter.unusedVariables false
def isE (b : UInt8) : Bool := b.toNat == 10
theorem ends_eq (s : ByteArray) : ends s = s.data.toList.countP isE := rfl
def pB : Nat → List UInt8 → Nat
  | 0, _ => 0
  | _ + 1, [] => 0
  | n + 1, b :: l => 1 + (if isE b then pB n l else pB (n + 1) l)
theorem pB_zero (l : List UInt8) : pB 0 l = 0 := by unfold pB; rfl
theorem pB_cons (n : Nat) (b : UInt8) (l : List UInt8) : pB (n + 1) (b :: l) = 1 + (if isE b then pB n l else pB (n + 1) l) := by
  rw [pB]
theorem pB_far : ∀ (a b : List UInt8) (n : Nat), a.countP isE < n → pB n (a ++ b) = a.length + pB (n - a.countP isE) b
  | [], b, n, h => by simp
  | x :: a, b, 0, h => absurd h (Nat.not_lt_zero _)
  | x :: a, b, n + 1, h => by
    rw [List.cons_append, pB_cons, List.length_cons]
    by_cases c : isE x = true
    · rw [List.countP_cons_of_pos c] at h ⊢
      rw [if_pos c, pB_far a b n (by omega), Nat.add_sub_add_right]
      omega
    · rw [List.countP_cons_of_neg c] at h ⊢
      rw [if_neg c, pB_far a b (n + 1) h]
      omega
theorem pB_near : ∀ (a b : List UInt8) (n : Nat), n ≤ a.countP isE → pB n (a ++ b) = pB n a
  | a, b, 0, h => by rw [pB_zero, pB_zero]
  | [], b, n + 1, h => by simp at h
  | x :: a, b, n + 1, h => by
    rw [List.cons_append, pB_cons, pB_cons]
    by_cases c : isE x = true
    · rw [List.countP_cons_of_pos c] at h
      rw [if_pos c, if_pos c, pB_near a b n (by omega)]
    · rw [List.countP_cons_of_neg c] at h
      rw [if_neg c, if_neg c, pB_near a b (n + 1) h]
theorem pB_le : ∀ (l : List UInt8) (n : Nat), pB n l ≤ l.length
  | l, 0 => by rw [pB_zero]; omega
  | [], n + 1 => by unfold pB; simp
  | b :: l, n + 1 => by
    rw [pB_cons, List.length_cons]
    have h1 := pB_le l n
    have h2 := pB_le l (n + 1)
    split <;> omega
theorem idx_hit {b : UInt8} (l : List UInt8) (c : isE b = true) : Lib.indexByte (b :: l) 10 = 0 := by
  have e : (b == (10 : UInt8)) = true := by
    rw [beq_iff_eq]
    unfold isE at c
    rw [beq_iff_eq] at c
    exact UInt8.toNat_inj.1 (by rw [c]; rfl)
  unfold Lib.indexByte
  rw [if_pos e]
theorem idx_miss {b : UInt8} {l : List UInt8} {j : Nat} (c : ¬ isE b = true) (h : Lib.indexByte l 10 = (j : Int)) : Lib.indexByte (b :: l) 10 = ((j + 1 : Nat) : Int) := by
  have e : ¬ (b == (10 : UInt8)) = true := by
    intro e
    rw [beq_iff_eq] at e
    apply c
    unfold isE
    rw [e]
    rfl
  unfold Lib.indexByte
  rw [if_neg e, h]
  have e2 : ((j : Int) == -1) = false := by rw [beq_eq_false_iff_ne]; omega
  rw [e2]
  simp
theorem pB_next : ∀ (l : List UInt8) (k : Nat), k < l.countP isE → ∃ j : Nat, Lib.indexByte (l.drop (pB k l)) 10 = (j : Int) ∧ pB (k + 1) l = pB k l + j + 1
  | [], k, h => by simp at h
  | b :: l, 0, h => by
    rw [pB_zero, List.drop_zero, pB_cons]
    by_cases c : isE b = true
    · exact ⟨0, idx_hit l c, by rw [if_pos c, pB_zero]⟩
    · rw [List.countP_cons_of_neg c] at h
      obtain ⟨j, h1, h2⟩ := pB_next l 0 h
      rw [pB_zero, List.drop_zero] at h1
      rw [pB_zero] at h2
      exact ⟨j + 1, idx_miss c h1, by rw [if_neg c, h2]; omega⟩
  | b :: l, k + 1, h => by
    rw [pB_cons, pB_cons]
    by_cases c : isE b = true
    · rw [List.countP_cons_of_pos c] at h
      obtain ⟨j, h1, h2⟩ := pB_next l k (by omega)
      rw [if_pos c, if_pos c, Nat.add_comm 1 (pB k l), List.drop_succ_cons]
      exact ⟨j, h1, by rw [h2]; omega⟩
    · rw [List.countP_cons_of_neg c] at h
      obtain ⟨j, h1, h2⟩ := pB_next l (k + 1) h
      rw [if_neg c, if_neg c, Nat.add_comm 1 (pB (k + 1) l), List.drop_succ_cons]
      exact ⟨j, h1, by rw [h2]; omega⟩
/-- The place behind the n-th end of a line of a text. -/
def plB (n : Nat) (s : ByteArray) : Nat := pB n s.data.toList
theorem plB_le (n : Nat) (s : ByteArray) : plB n s ≤ s.size := pB_le _ _
theorem plB_next {s : ByteArray} {k : Nat} (h : k < ends s) : ∃ j : Nat, Lib.indexByte (s.extract (plB k s) s.size).data.toList 10 = (j : Int) ∧ plB (k + 1) s = plB k s + j + 1 := by
  obtain ⟨j, h1, h2⟩ := pB_next s.data.toList k h
  refine ⟨j, ?_, h2⟩
  have e : s.data.toList.take s.size = s.data.toList := List.take_of_length_le (Nat.le_of_eq Array.length_toList)
  rw [ext_list, e]
  exact h1
theorem plB_in {P s R : ByteArray} {n : Nat} (h1 : ends P < n) (h2 : n - ends P ≤ ends s) : plB n (P ++ (s ++ R)) = P.size + plB (n - ends P) s := by
  unfold plB
  rw [ByteArray.data_append, Array.toList_append, ByteArray.data_append, Array.toList_append, pB_far _ _ _ h1]
  have e : P.data.toList.length = P.size := Array.length_toList
  have e2 := pB_near s.data.toList R.data.toList (n - ends P) h2
  have e3 : P.data.toList.countP isE = ends P := rfl
  rw [e, e3, e2]
/-- What PlaceOfLine answers of a text that is there (b). -/
def plcAns (b : Bool) (C : ByteArray) (x : Int) : Int := if b = true ∧ 0 ≤ x ∧ x ≤ (ends C : Int) then (plB x.toNat C : Int) else -1
theorem plcAns_no {b : Bool} {C : ByteArray} {x : Int} (h : ¬ (b = true ∧ 0 ≤ x ∧ x ≤ (ends C : Int))) : plcAns b C x = -1 := if_neg h
theorem plcAns_yes {C : ByteArray} {k : Nat} (h : k ≤ ends C) : plcAns true C (k : Int) = (plB k C : Int) := by
  unfold plcAns
  rw [if_pos ⟨rfl, by omega, by omega⟩, Int.toNat_natCast]
end Go.Proofs.YtaipnmmlfbfcnaaDoor.Rop
