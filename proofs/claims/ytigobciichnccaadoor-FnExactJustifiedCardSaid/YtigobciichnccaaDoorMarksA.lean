/- Marks written into a slice that the call owns, and found there again. -/
import Derived.Test.YtigobciichnccaaDoorIntA
namespace Go.Proofs.YtigobciichnccaaDoor
open Go.RowKit
/-- c, c + 1, .. in the first k places of l. -/
def markL (l : List Int) (c : Int) (k : Nat) : List Int := (List.range k).map (fun i : Nat => c + (i : Int)) ++ l.drop k
theorem markL_zero (l : List Int) (c : Int) : markL l c 0 = l := by simp [markL]
theorem markL_length (l : List Int) (c : Int) (k : Nat) (h : k ≤ l.length) : (markL l c k).length = l.length := by simp [markL]; omega
theorem markL_set (l : List Int) (c : Int) (k : Nat) (h : k < l.length) (f : Int → Value) : ((markL l c k).map f).set k (f (c + k)) = (markL l c (k + 1)).map f := by
  rw [← List.map_set]
  congr 1
  unfold markL
  have hk : ((List.range k).map (fun i : Nat => c + (i : Int))).length = k := by simp
  rw [List.set_append_right _ _ (by omega), hk, Nat.sub_self, List.drop_eq_getElem_cons h, List.set_cons_zero, List.range_succ, List.map_append, List.append_assoc]
  rfl
theorem markL_all (l : List Int) (c : Int) : markL l c l.length = (List.range l.length).map (fun i : Nat => c + (i : Int)) := by simp [markL]
def seqL (c : Int) (n : Nat) : List Int := (List.range n).map (fun i : Nat => c + (i : Int))
theorem seqL_length (c : Int) (n : Nat) : (seqL c n).length = n := by simp [seqL]
theorem nth_seqL (c : Int) (n k : Nat) (h : k < n) : nth (seqL c n) k = c + k := by simp [nth, seqL, List.getD, h]
theorem owned_slice {w : World} {base : Nat} {e : TypeId} {v : Value} {n : Nat} {xs : List Value} (h : w.ownsRow base e 1 v n xs) (hn : 0 < n) : ∃ g cap, v = .slice (some ⟨g, 0, none⟩) n cap ∧ base ≤ g := by
  rcases h.2 with ⟨_, h0⟩ | ⟨g, cap, cur, hv, hg, _⟩
  · omega
  · exact ⟨g, cap, hv, hg⟩
theorem owned_nil {w : World} {base : Nat} {e : TypeId} {v : Value} {n : Nat} {xs : List Value} (h : w.ownsRow base e 1 v n xs) : ∃ a cap, v = .slice a n cap := by
  rcases h.2 with ⟨hv, h0⟩ | ⟨g, cap, cur, hv, hg, _⟩
  · subst h0; exact ⟨_, _, hv⟩
  · exact ⟨_, _, hv⟩
end Go.Proofs.YtigobciichnccaaDoor
