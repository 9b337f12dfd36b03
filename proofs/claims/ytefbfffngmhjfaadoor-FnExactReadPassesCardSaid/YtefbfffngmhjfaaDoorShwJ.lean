/- A rule's line, as the program writes it. -/
import Derived.Test.YtefbfffngmhjfaaDoorShwI
import Derived.Test.YtefbfffngmhjfaaDoorShelfR
import Derived.Lib.AppendStr
namespace Go.Proofs.YtefbfffngmhjfaaDoor.Pas
open Go.RowKit
set_option linter.unusedVariables false
theorem extraR : Builder.Extra Tryd.prog Tryd.laysRepeat_ren where
  sizeBuilder := by kernel_rfl
  liesBuilder := by kernel_rfl
  t5 := Tryd.laysRepeat.t5
  a5 := Tryd.laysRepeat.a5
  z5 := Tryd.laysRepeat.z5
  v5 := Tryd.laysRepeat.v5
  infoByte := by kernel_rfl
  cellsByte := by kernel_rfl
  sizeByte := by kernel_rfl
  neB5 := by decide
theorem rep_is (c : Nat) : Lib.repeatL [124] c = List.replicate c 124 := by
  have := Lib.repeatL_replicate 124 1 c
  rw [Nat.mul_one] at this
  exact this
theorem repeat_any (c : Nat) (w : World) (hc : c ≤ 20) : Calls Tryd.prog 60 #[.string ⟨#[124]⟩, .int .i64 (c : Int)] w fun e w' => ∃ s : ByteArray, e = .returned (.string s) ∧ Lib.strCells s = (List.replicate c (124 : Int)).map (Value.int .u8) ∧ s.size = c ∧ Below w.heap.size w w' := by
  refine (Any.strings_Repeat Tryd.laysRepeat extraR ⟨#[124]⟩ c w (by omega) (by show 1 * c ≤ _; omega)).mono ?_
  rintro e w' ⟨rfl, hb⟩
  refine ⟨_, rfl, ?_, ?_, hb⟩
  · have e : (⟨#[124]⟩ : ByteArray).data.toList = [124] := rfl
    rw [e, rep_is]
    unfold Lib.strCells
    simp
  · have e : (⟨#[124]⟩ : ByteArray).data.toList = [124] := rfl
    rw [e, rep_is]
    show (List.replicate c (124 : UInt8)).toArray.size = c
    simp
theorem bars_no {g : Int} (h : ¬ 0 < g) : bars g = [] := if_neg h
theorem bars_yes {g : Int} (h : 0 < g) : bars g = [32] ++ List.replicate g.toNat 124 := if_pos h
end Go.Proofs.YtefbfffngmhjfaaDoor.Pas
