/- The line of a place, pure: the texts of leaves joined, ends of lines in what comes ahead of a place. -/
import Derived.Test.YtaipnmmlfbfcnaaDoorRpgV
import Derived.Test.YtaipnmmlfbfcnaaDoorRopS
namespace Go.Proofs.YtaipnmmlfbfcnaaDoor.Rop
open Go.RowKit
set_option linter.unusedVariables false
def jn : List ByteArray → ByteArray
  | [] => ⟨#[]⟩
  | s :: L => s ++ jn L
theorem ba_nil (s : ByteArray) : (⟨#[]⟩ : ByteArray) ++ s = s := by
  apply ByteArray.ext
  simp [ByteArray.data_append]
theorem ba_nil' (s : ByteArray) : s ++ (⟨#[]⟩ : ByteArray) = s := by
  apply ByteArray.ext
  simp [ByteArray.data_append]
theorem ba_assoc (a b c : ByteArray) : a ++ b ++ c = a ++ (b ++ c) := by
  apply ByteArray.ext
  simp [ByteArray.data_append]
theorem jn_app : ∀ L M : List ByteArray, jn (L ++ M) = jn L ++ jn M
  | [], M => by show jn M = _; exact (ba_nil _).symm
  | s :: L, M => by show s ++ jn (L ++ M) = s ++ jn L ++ jn M; rw [jn_app L M, ba_assoc]
theorem jn_snoc (L : List ByteArray) (s : ByteArray) : jn (L ++ [s]) = jn L ++ s := by
  rw [jn_app]
  show jn L ++ (s ++ ⟨#[]⟩) = _
  rw [ba_nil']
theorem ext_list (t : ByteArray) (a b : Nat) : (t.extract a b).data.toList = (t.data.toList.take b).drop a := by
  simp [ByteArray.data_extract, List.drop_take]
theorem ba_split (t : ByteArray) (c : Nat) : t.extract 0 c ++ t.extract c t.size = t := by
  apply ByteArray.ext
  apply Array.ext'
  rw [ByteArray.data_append, Array.toList_append, ext_list, ext_list, List.drop_zero]
  have e : t.data.toList.take t.size = t.data.toList := List.take_of_length_le (Nat.le_of_eq Array.length_toList)
  rw [e, List.take_append_drop]
theorem jn_leaves : ∀ {H : HT} {t : ByteArray}, IsTr t H.sh → jn (ltx H.pre) = t
  | .nil, t, h => by
    cases h with
    | nil h0 =>
      have := ByteArray.size_eq_zero_iff.1 h0
      rw [this]
      rfl
  | .leaf b s, t, h => by
    cases h with
    | leaf h0 h1 => exact ba_nil' _
  | .node b s l r, t, h => by
    cases h with
    | node h64 hl hr =>
      show jn (ltx (l.pre ++ r.pre)) = _
      rw [ltx_app, jn_app, jn_leaves hl, jn_leaves hr, ba_split]
theorem ends_app (a b : ByteArray) : ends (a ++ b) = ends a + ends b := by
  unfold ends
  rw [ByteArray.data_append, Array.toList_append, List.countP_append]
theorem line_in {P s R : ByteArray} {a : Nat} (h1 : P.size ≤ a) (h2 : a - P.size ≤ s.size) : ends ((P ++ (s ++ R)).extract 0 a) = ends P + ends (s.extract 0 (a - P.size)) := by
  unfold ends
  rw [ext_list, ext_list, List.drop_zero, List.drop_zero, ByteArray.data_append, Array.toList_append, ByteArray.data_append, Array.toList_append]
  have hp : P.data.toList.length = P.size := Array.length_toList
  have hs : s.data.toList.length = s.size := Array.length_toList
  rw [List.take_append, hp, List.take_of_length_le (by omega), List.countP_append, List.take_append_of_le_length (by omega)]
theorem line_all {P : ByteArray} : ends (P.extract 0 P.size) = ends P := by
  have e : P.data.toList.length = P.size := Array.length_toList
  unfold ends
  rw [ext_list, List.drop_zero, List.take_of_length_le (by omega)]
/-- What LineAt answers of a text that is there (b) at a place. -/
def lineAns (b : Bool) (C : ByteArray) (at' : Int) : Int := if b = true ∧ 0 ≤ at' ∧ at' ≤ (C.size : Int) then (ends (C.extract 0 at'.toNat) : Int) else -1
theorem lineAns_no {b : Bool} {C : ByteArray} {at' : Int} (h : ¬ (b = true ∧ 0 ≤ at' ∧ at' ≤ (C.size : Int))) : lineAns b C at' = -1 := if_neg h
theorem lineAns_yes {C : ByteArray} {k : Nat} (h : k ≤ C.size) : lineAns true C (k : Int) = (ends (C.extract 0 k) : Int) := by
  unfold lineAns
  rw [if_pos ⟨rfl, by omega, by omega⟩, Int.toNat_natCast]
end Go.Proofs.YtaipnmmlfbfcnaaDoor.Rop
