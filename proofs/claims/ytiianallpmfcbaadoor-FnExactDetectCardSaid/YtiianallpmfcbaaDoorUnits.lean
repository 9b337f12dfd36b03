/- A number in so many bytes, as the specification writes it. -/
import Derived.Test.YtiianallpmfcbaaDoorTextE
import Derived.Laws.ShiftsVarLaws
import Derived.Laws.ShiftsVar
namespace Go.Proofs.YtiianallpmfcbaaDoor
open Go.RowKit
/-- The i-th byte of a number, the lowest first. -/
def byteAt (n : Int) (i : Nat) : Int := n / 2 ^ (8 * i) % 256
/-- What the loop has laid after k rounds. -/
def unitK (size : Nat) (little : Bool) (n : Int) (k : Nat) : List Int :=
  (List.range size).map fun j => if (if little then j else size - 1 - j) < k then byteAt n (if little then j else size - 1 - j) else 0
def unitL (size : Nat) (little : Bool) (n : Int) : List Int := unitK size little n size
theorem unitK_len (size : Nat) (little : Bool) (n : Int) (k : Nat) : (unitK size little n k).length = size := by simp [unitK]
theorem unitK_zero (size : Nat) (little : Bool) (n : Int) : unitK size little n 0 = List.replicate size 0 := by
  apply List.ext_getElem
  · simp [unitK]
  · intro i h1 h2; simp [unitK]
theorem unitK_set (size : Nat) (little : Bool) (n : Int) (k : Nat) (hs : size = 2 ∨ size = 4) (hk : k < size) (f : Int → Value) :
    ((unitK size little n k).map f).set (if little then k else size - 1 - k) (f (byteAt n k)) = (unitK size little n (k + 1)).map f := by
  rcases hs with rfl | rfl <;> cases little
  · match k, hk with
    | 0, _ => rfl
    | 1, _ => rfl
  · match k, hk with
    | 0, _ => rfl
    | 1, _ => rfl
  · match k, hk with
    | 0, _ => rfl
    | 1, _ => rfl
    | 2, _ => rfl
    | 3, _ => rfl
  · match k, hk with
    | 0, _ => rfl
    | 1, _ => rfl
    | 2, _ => rfl
    | 3, _ => rfl
theorem unitM (w1 : World) (B : Nat) (v : Value) (size : Nat) (little : Bool) (n : Int) (h : w1.ownsRow B 5 1 v size (madeCells #[Value.int .u8 0] size).toList) : w1.ownsRow B 5 1 v size ((unitK size little n 0).map (Value.int .u8)) := by
  have e : (madeCells #[Value.int .u8 0] size).toList = (unitK size little n 0).map (Value.int .u8) := by
    rw [unitK_zero, List.map_replicate]
    exact toList_madeCells_one _ _
  rw [← e]; exact h
set_option maxHeartbeats 1000000 in
theorem units_little (S : Nat) (hS : S = 2 ∨ S = 4) (n : Int) (w : World) :
    Calls Tryd.prog 30 #[.int .i64 n, .int .i64 S, .bool true] w fun e w' => e = .returned (.slice (some ⟨w.heap.size, 0, none⟩) S S) ∧
      w'.ownsRow w.heap.size 5 1 (.slice (some ⟨w.heap.size, 0, none⟩) S S) S ((unitL S true n).map (Value.int .u8)) ∧ Below w.heap.size w w' ∧ w.heap.size < w'.heap.size := by
  obtain ⟨i0, hi, hz0, hz1, hz2⟩ := info_parts info5
  have HS := hide hS
  have hS4 : S ≤ 4 := by omega
  clear hS
  go_enter Tryd.func30, Tryd.ntmps30
  go_wp2_with (at_make; refine wpList_make_full _ rfl _ _ 22 rfl w.heap.size 5 i0 (.int .u8 0) 1 Tryd.underlying22 hi hz0 hz1 .i64 .i64 _ _ S rfl rfl rfl rfl ?b2 ?b3 ?b4 ?_)
  case b2 => rw [hz2]; omega
  case b3 => unfold maxLen; omega
  case b4 => omega
  intro w1 hown hgrow
  have H1 := hide (unitM _ _ _ S true n hown)
  have hb1 := hide (made_below hgrow)
  clear hown hgrow
  go_wp2
  go_loopw [8] (fun i wr => ∃ k : Nat, k ≤ S ∧ i = .int .i64 k ∧ Hid (wr.ownsRow w.heap.size 5 1 (.slice (some ⟨w.heap.size, 0, none⟩) S S) S ((unitK S true n k).map (Value.int .u8))) ∧ Hid (Below w.heap.size w wr)) (fun i _ => S - (intOf i).toNat)
  case atStart => exact ⟨0, Nat.zero_le _, rfl, H1, hb1⟩
  case round =>
    obtain ⟨k, hk, rfl, HO, HB⟩ := hrel
    by_cases hlt : k < S
    · have c2 := (unhide HO).cellAt k (by omega)
      rw [List.getElem?_eq_getElem (by simp [unitK_len]; omega)] at c2
      have c3 := (unhide HO).frozenAt k
      have hst := (unhide HO).stored k (.int .u8 (byteAt n k))
      have hst1 := hst.1
      have hse : ((unitK S true n k).map (Value.int .u8)).set k (.int .u8 (byteAt n k)) = _ := unitK_set S true n k (unhide HS) hlt (Value.int .u8)
      rw [hse] at hst1
      have HO' := hide hst1
      have HB' := hide ((unhide HB).setCell (p := ⟨w.heap.size, k, none⟩) (Nat.le_refl _) (.int .u8 (byteAt n k)))
      clear hst hst1 hse
      have hk62 : 8 * k < 64 := by omega
      go_wp2
      go_roundw
      case rel => exact ⟨k + 1, by omega, by go_num, HO', HB'⟩
      case measure => simp [intOf]; omega
    · obtain rfl : k = S := by omega
      go_wp2
      go_ret
      exact ⟨rfl, unhide HO, unhide HB, owned_lt (unhide HO)⟩
set_option maxHeartbeats 1000000 in
theorem units_big (S : Nat) (hS : S = 2 ∨ S = 4) (n : Int) (w : World) :
    Calls Tryd.prog 30 #[.int .i64 n, .int .i64 S, .bool false] w fun e w' => e = .returned (.slice (some ⟨w.heap.size, 0, none⟩) S S) ∧
      w'.ownsRow w.heap.size 5 1 (.slice (some ⟨w.heap.size, 0, none⟩) S S) S ((unitL S false n).map (Value.int .u8)) ∧ Below w.heap.size w w' ∧ w.heap.size < w'.heap.size := by
  obtain ⟨i0, hi, hz0, hz1, hz2⟩ := info_parts info5
  have HS := hide hS
  have hS4 : S ≤ 4 := by omega
  clear hS
  go_enter Tryd.func30, Tryd.ntmps30
  go_wp2_with (at_make; refine wpList_make_full _ rfl _ _ 22 rfl w.heap.size 5 i0 (.int .u8 0) 1 Tryd.underlying22 hi hz0 hz1 .i64 .i64 _ _ S rfl rfl rfl rfl ?b2 ?b3 ?b4 ?_)
  case b2 => rw [hz2]; omega
  case b3 => unfold maxLen; omega
  case b4 => omega
  intro w1 hown hgrow
  have H1 := hide (unitM _ _ _ S false n hown)
  have hb1 := hide (made_below hgrow)
  clear hown hgrow
  go_wp2
  go_loopw [8] (fun i wr => ∃ k : Nat, k ≤ S ∧ i = .int .i64 k ∧ Hid (wr.ownsRow w.heap.size 5 1 (.slice (some ⟨w.heap.size, 0, none⟩) S S) S ((unitK S false n k).map (Value.int .u8))) ∧ Hid (Below w.heap.size w wr)) (fun i _ => S - (intOf i).toNat)
  case atStart => exact ⟨0, Nat.zero_le _, rfl, H1, hb1⟩
  case round =>
    obtain ⟨k, hk, rfl, HO, HB⟩ := hrel
    by_cases hlt : k < S
    · have c2 := (unhide HO).cellAt (S - 1 - k) (by omega)
      rw [List.getElem?_eq_getElem (by simp [unitK_len]; omega)] at c2
      have c3 := (unhide HO).frozenAt (S - 1 - k)
      have hst := (unhide HO).stored (S - 1 - k) (.int .u8 (byteAt n k))
      have hst1 := hst.1
      have hse : ((unitK S false n k).map (Value.int .u8)).set (S - 1 - k) (.int .u8 (byteAt n k)) = _ := unitK_set S false n k (unhide HS) hlt (Value.int .u8)
      rw [hse] at hst1
      have HO' := hide hst1
      have HB' := hide ((unhide HB).setCell (p := ⟨w.heap.size, S - 1 - k, none⟩) (Nat.le_refl _) (.int .u8 (byteAt n k)))
      clear hst hst1 hse
      have hk62 : 8 * k < 64 := by omega
      go_wp2
      go_roundw
      case rel => exact ⟨k + 1, by omega, by go_num, HO', HB'⟩
      case measure => simp [intOf]; omega
    · obtain rfl : k = S := by omega
      go_wp2
      go_ret
      exact ⟨rfl, unhide HO, unhide HB, owned_lt (unhide HO)⟩
theorem units_any (S : Nat) (hS : S = 2 ∨ S = 4) (b : Bool) (n : Int) (w : World) :
    Calls Tryd.prog 30 #[.int .i64 n, .int .i64 S, .bool b] w fun e w' => e = .returned (.slice (some ⟨w.heap.size, 0, none⟩) S S) ∧
      w'.ownsRow w.heap.size 5 1 (.slice (some ⟨w.heap.size, 0, none⟩) S S) S ((unitL S b n).map (Value.int .u8)) ∧ Below w.heap.size w w' ∧ w.heap.size < w'.heap.size := by
  cases b
  · exact units_big S hS n w
  · exact units_little S hS n w
end Go.Proofs.YtiianallpmfcbaaDoor
