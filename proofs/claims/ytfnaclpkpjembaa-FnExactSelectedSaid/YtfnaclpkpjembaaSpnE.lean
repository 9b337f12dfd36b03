/- Spans that are alike; marks written into spans that the call owns, and found there again. -/
import Derived.Test.YtfnaclpkpjembaaSpnB
namespace Go.Proofs.Ytfnaclpkpjembaa
open Go.RowKit
theorem drew_below (w : World) : Below w.heap.size w w.drew := ⟨rfl, rfl, rfl, Nat.le_refl _, fun _ _ => rfl⟩
def fl (L : List Sp) : List Int := L.flatMap fun r => [r.1, r.2.1, r.2.2]
theorem cells_fl (L : List Sp) : cells L = (fl L).map (Value.int .i64) := by
  unfold cells fl
  rw [List.map_flatMap]
  rfl
theorem fl_len (L : List Sp) : (fl L).length = L.length * 3 := by
  have := cells_len L
  rw [cells_fl, List.length_map] at this
  exact this
/-- 1, 2, .. in the first k places of l. -/
def mkL (l : List Int) (k : Nat) : List Int := (List.range k).map (fun i : Nat => 1 + (i : Int)) ++ l.drop k
def sqL (n : Nat) : List Int := (List.range n).map (fun i : Nat => 1 + (i : Int))
theorem mkL_zero (l : List Int) : mkL l 0 = l := by simp [mkL]
theorem mkL_len (l : List Int) (k : Nat) (h : k ≤ l.length) : (mkL l k).length = l.length := by simp [mkL]; omega
theorem mkL_set (l : List Int) (k : Nat) (h : k < l.length) (f : Int → Value) : ((mkL l k).map f).set k (f (1 + (k : Int))) = (mkL l (k + 1)).map f := by
  rw [← List.map_set]
  congr 1
  unfold mkL
  have hk : ((List.range k).map (fun i : Nat => 1 + (i : Int))).length = k := by simp
  rw [List.set_append_right _ _ (by omega), hk, Nat.sub_self, List.drop_eq_getElem_cons h, List.set_cons_zero, List.range_succ, List.map_append, List.append_assoc]
  rfl
theorem mkL_all (l : List Int) : mkL l l.length = sqL l.length := by simp [mkL, sqL]
theorem sq_at (n k : Nat) (h : k < n) : ((sqL n).map (Value.int .i64))[k]? = some (.int .i64 (1 + (k : Int))) := by
  simp [sqL, h]
end Go.Proofs.Ytfnaclpkpjembaa
