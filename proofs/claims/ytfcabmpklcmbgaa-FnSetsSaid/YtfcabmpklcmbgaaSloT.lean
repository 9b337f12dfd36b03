/- The slot of a block. -/
import Derived.Test.YtfcabmpklcmbgaaSamA
namespace Go.Proofs.Ytfcabmpklcmbgaa
open Go.RowKit
def stepS (s x : Int) : Int := IntKind.u64.wrap (bits BinOp.xor IntKind.u64 s (IntKind.u64.wrap x) * 11400714819323198485)
def sumS (l : List Int) (k : Nat) : Int := (l.take k).foldl stepS 0
theorem sumS_succ (l : List Int) (k : Nat) (h : k < l.length) : sumS l (k + 1) = stepS (sumS l k) (nth l k) := by
  unfold sumS
  rw [List.take_succ_eq_append_getElem h, List.foldl_append]
  have e : nth l k = l[k] := by simp [nth, List.getD, h]
  rw [e]
  rfl
theorem stepS_bd (s x : Int) : 0 ≤ stepS s x ∧ stepS s x < 18446744073709551616 := by
  unfold stepS
  generalize bits BinOp.xor IntKind.u64 s (IntKind.u64.wrap x) * 11400714819323198485 = y
  simp [IntKind.wrap, IntKind.signed, IntKind.bits]; omega
theorem sumS_bd (l : List Int) (k : Nat) (h : k ≤ l.length) : 0 ≤ sumS l k ∧ sumS l k < 18446744073709551616 := by
  match k, h with
  | 0, _ => simp [sumS]
  | k + 1, h => rw [sumS_succ l k (by omega)]; exact stepS_bd _ _
def slotN (l : List Int) : Nat := (sumS l l.length / 36028797018963968).toNat
theorem slotN_lt (l : List Int) : slotN l < 512 := by
  unfold slotN
  have := sumS_bd l l.length (Nat.le_refl _)
  omega
theorem slotN_eq (l : List Int) : ((slotN l : Nat) : Int) = sumS l l.length / 36028797018963968 := by
  unfold slotN
  have := sumS_bd l l.length (Nat.le_refl _)
  omega
/-- The places of the blocks of one slot. -/
def places (T : List (List Int)) (s : Nat) : List Nat := (List.range T.length).filter fun i => slotN (tb T i) == s
theorem mem_places {T : List (List Int)} {s i : Nat} : i ∈ places T s ↔ i < T.length ∧ slotN (tb T i) = s := by simp [places]
theorem places_len (T : List (List Int)) (s : Nat) : (places T s).length ≤ T.length := by
  have := List.length_filter_le (fun i => slotN (tb T i) == s) (List.range T.length)
  simpa [places] using this
theorem places_snoc (T : List (List Int)) (b : List Int) (s : Nat) : places (T ++ [b]) s = if slotN b = s then places T s ++ [T.length] else places T s := by
  unfold places
  have h1 : (List.range T.length).filter (fun i => slotN (tb (T ++ [b]) i) == s) = (List.range T.length).filter (fun i => slotN (tb T i) == s) := by
    apply List.filter_congr
    intro i hi
    rw [tb_app_left (List.mem_range.1 hi)]
  rw [List.length_append, List.length_singleton, List.range_succ, List.filter_append, h1]
  by_cases e : slotN b = s
  · rw [if_pos e]
    simp [tb_app_last, e]
  · rw [if_neg e]
    simp [tb_app_last, e]
def pl (T : List (List Int)) (s k : Nat) : Nat := (places T s).getD k 0
theorem pl_mem {T : List (List Int)} {s k : Nat} (h : k < (places T s).length) : pl T s k < T.length ∧ slotN (tb T (pl T s k)) = s := by
  have : pl T s k ∈ places T s := by
    unfold pl
    rw [List.getD_eq_getElem?_getD, List.getElem?_eq_getElem h]
    exact List.getElem_mem h
  exact mem_places.1 this
theorem pl_all {T : List (List Int)} {b : List Int} (h : ∀ k, k < (places T (slotN b)).length → tb T (pl T (slotN b) k) ≠ b) : b ∉ T := by
  apply not_mem_tb
  intro i hi e
  have hm : i ∈ places T (slotN b) := mem_places.2 ⟨hi, by rw [e]⟩
  obtain ⟨k, hk, e2⟩ := List.getElem_of_mem hm
  refine h k hk ?_
  have : pl T (slotN b) k = i := by
    unfold pl
    rw [List.getD_eq_getElem?_getD, List.getElem?_eq_getElem hk, e2]
    rfl
  rw [this, e]
theorem pl_found {T : List (List Int)} (hn : T.Nodup) {b : List Int} {i : Nat} (hi : i < T.length) (h : tb T i = b) : idxF b T = i :=
  idxF_first b T i hi h (fun j hj e => by have := tb_inj hn (i := j) (j := i) (by omega) hi (by rw [e, h]); omega)
def natCells (l : List Nat) : List Value := l.map fun n : Nat => Value.int .i64 (n : Int)
theorem natCells_at (l : List Nat) (k : Nat) (h : k < l.length) : (natCells l)[k]? = some (.int .i64 ((l.getD k 0 : Nat) : Int)) := by
  simp [natCells, List.getD, h]
end Go.Proofs.Ytfcabmpklcmbgaa
