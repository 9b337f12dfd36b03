/- Rows of texts: two that are alike, marks written and found again. -/
import Derived.Test.YtigobciichnccaaDoorStrA
import Derived.Deep.Cut
namespace Go.Proofs.YtigobciichnccaaDoor
open Go.RowKit
theorem owned_ltS {w : World} {base g : Nat} {e : TypeId} {n cap m : Nat} {xs : List Value} (h : w.ownsRow base e 1 (.slice (some ⟨g, 0, none⟩) n cap) m xs) : g < w.heap.size := (h.lt g rfl).2
theorem str_ne (a : ByteArray) (W : World) : (binOp .neq 9 (.string a) (.string a)).run Tryd.prog W = .ok (.bool false) W := by
  simp [go_sem]
/-- The marks of the places c, c + 1, .. in the first k places of l. -/
def mrkS (l : List ByteArray) (c k : Nat) : List ByteArray := (List.range k).map (fun i => mtx (c + i)) ++ l.drop k
theorem mrkS_zero (l : List ByteArray) (c : Nat) : mrkS l c 0 = l := by simp [mrkS]
theorem mrkS_length (l : List ByteArray) (c k : Nat) (h : k ≤ l.length) : (mrkS l c k).length = l.length := by simp [mrkS]; omega
theorem mrkS_set (l : List ByteArray) (c k : Nat) (h : k < l.length) (f : ByteArray → Value) : ((mrkS l c k).map f).set k (f (mtx (c + k))) = (mrkS l c (k + 1)).map f := by
  rw [← List.map_set]
  congr 1
  unfold mrkS
  have hk : ((List.range k).map (fun i => mtx (c + i))).length = k := by simp
  rw [List.set_append_right _ _ (by omega), hk, Nat.sub_self, List.drop_eq_getElem_cons h, List.set_cons_zero, List.range_succ, List.map_append, List.append_assoc]
  rfl
def seqS (c n : Nat) : List ByteArray := (List.range n).map (fun i => mtx (c + i))
theorem mrkS_all (l : List ByteArray) (c : Nat) : mrkS l c l.length = seqS c l.length := by simp [mrkS, seqS]
theorem seqS_length (c n : Nat) : (seqS c n).length = n := by simp [seqS]
theorem nth_seqS (c n k : Nat) (h : k < n) : nthS (seqS c n) k = mtx (c + k) := by simp [nthS, seqS, List.getD, h]
theorem owned_seqS {w : World} {base : Nat} {v : Value} {n c : Nat} (h : w.ownsRow base 9 1 v n ((seqS c n).map Value.string)) : StrsAt w v (seqS c n) := StrsAt.owned h
end Go.Proofs.YtigobciichnccaaDoor
