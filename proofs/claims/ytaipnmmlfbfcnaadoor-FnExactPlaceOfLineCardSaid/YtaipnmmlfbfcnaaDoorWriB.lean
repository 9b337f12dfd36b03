/- strings.Builder: its methods by the library's contracts; a text that grows in one. -/
import Derived.Test.YtaipnmmlfbfcnaaDoorBase
import Derived.Test.YtaipnmmlfbfcnaaDoorShelfB
import Derived.Shelf.Strings.Builder1
namespace Go.Proofs
open Go.Shelf Go.RowKit
set_option linter.unusedVariables false
def Tryd.laysBW_ren : Go.Shelf.Ren := ⟨fun | 166 => 58 | 240 => 72 | 276 => 79 | n => n, fun | 70 => 94 | 72 => 96 | 37 => 69 | 75 => 99 | 80 => 102 | 164 => 116 | 20 => 20 | 127 => 112 | n => n, fun | n => n⟩
theorem Tryd.laysBW : Go.Proofs.Lays.n166 Tryd.prog Tryd.laysBW_ren := {
  mixed := by kernel_rfl
  f166 := Tryd.func58.trans (congrArg some (by kernel_rfl))
  f240 := Tryd.func72.trans (congrArg some (by kernel_rfl))
  f276 := Tryd.func79.trans (congrArg some (by kernel_rfl))
  t0 := Tryd.underlying0
  a0 := Tryd.isAgg0
  z0 := Tryd.sizeOf0
  v0 := Tryd.zeroValue0
  t3 := Tryd.underlying3
  a3 := Tryd.isAgg3
  z3 := Tryd.sizeOf3
  v3 := Tryd.zeroValue3
  t4 := Tryd.underlying4
  a4 := Tryd.isAgg4
  z4 := Tryd.sizeOf4
  v4 := Tryd.zeroValue4
  t9 := Tryd.underlying9
  a9 := Tryd.isAgg9
  z9 := Tryd.sizeOf9
  v9 := Tryd.zeroValue9
  t20 := Tryd.underlying20
  a20 := Tryd.isAgg20
  z20 := Tryd.sizeOf20
  v20 := Tryd.zeroValue20
  t37 := Tryd.underlying69
  a37 := Tryd.isAgg69
  z37 := Tryd.sizeOf69
  v37 := Tryd.zeroValue69
  t70 := Tryd.underlying94
  a70 := Tryd.isAgg94
  z70 := Tryd.sizeOf94
  v70 := Tryd.zeroValue94
  t72 := Tryd.underlying96
  a72 := Tryd.isAgg96
  z72 := Tryd.sizeOf96
  v72 := Tryd.zeroValue96
  t75 := Tryd.underlying99
  a75 := Tryd.isAgg99
  z75 := Tryd.sizeOf99
  v75 := Tryd.zeroValue99
  t164 := Tryd.underlying116
  a164 := Tryd.isAgg116
  z164 := Tryd.sizeOf116
  v164 := Tryd.zeroValue116 }
theorem extraW : Builder.Extra Tryd.prog Tryd.laysBW_ren where
  sizeBuilder := by kernel_rfl
  liesBuilder := by kernel_rfl
  t5 := Tryd.underlying5
  a5 := Tryd.isAgg5
  z5 := Tryd.sizeOf5
  v5 := Tryd.zeroValue5
  infoByte := by kernel_rfl
  cellsByte := by kernel_rfl
  sizeByte := by kernel_rfl
  neB5 := by decide
theorem extraS : Builder.Extra Tryd.prog Tryd.laysBS_ren where
  sizeBuilder := by kernel_rfl
  liesBuilder := by kernel_rfl
  t5 := Tryd.underlying5
  a5 := Tryd.isAgg5
  z5 := Tryd.sizeOf5
  v5 := Tryd.zeroValue5
  infoByte := by kernel_rfl
  cellsByte := by kernel_rfl
  sizeByte := by kernel_rfl
  neB5 := by decide
namespace YtaipnmmlfbfcnaaDoor.Bld
/-- A builder in block b that holds the text s. -/
def At (B b : Nat) (s : ByteArray) (w : World) : Prop := Lib.IsBuilder 96 5 B b (Lib.byteCells s.data.toList) w
theorem At.new (w : World) : At w.heap.size w.heap.size ⟨#[]⟩ (w.alloc (.cells #[.pointer none, .slice none 0 0] 96)) := Lib.fresh_isBuilder _ _ w
theorem At.below {B b : Nat} {s : ByteArray} {w w' : World} (h : At B b s w) (hb : Below w.heap.size w w') : At B b s w' := by
  have go : ∀ p, Lib.BuilderAt 96 5 B b p (Lib.byteCells s.data.toList) w → Lib.BuilderAt 96 5 B b p (Lib.byteCells s.data.toList) w' := by
    rintro p ⟨h1, v, h2, h3, h4⟩
    exact ⟨h1, v, (hb.block b (Array.getElem?_eq_some_iff.1 h2).1).trans h2, ownsRow_below h3 hb, h4⟩
  rcases h with h | h
  · exact .inl (go _ h)
  · exact .inr (go _ h)
theorem At.lt {B b : Nat} {s : ByteArray} {w : World} (h : At B b s w) : B ≤ b ∧ b < w.heap.size := by
  rcases h with h | h
  · exact ⟨h.1, h.lt⟩
  · exact ⟨h.1, h.lt⟩
theorem app_cells (s t : ByteArray) : Lib.byteCells s.data.toList ++ Lib.strCells t = Lib.byteCells (s ++ t).data.toList := by
  rw [Lib.strCells_eq]
  simp [Lib.byteCells, ByteArray.data_append]
theorem len_any (B b : Nat) (s : ByteArray) (w : World) (h : At B b s w) : Calls Tryd.prog 57 #[.pointer (some ⟨b, 0, none⟩)] w fun e w' => e = .returned (.int .i64 (s.size : Int)) ∧ w' = w := by
  refine (Any.Builder_Len Tryd.laysBL B b _ w h).mono ?_
  rintro e w' ⟨rfl, rfl⟩
  refine ⟨?_, rfl⟩
  have : (Lib.byteCells s.data.toList).length = s.size := by simp [Lib.byteCells]
  rw [this]
theorem write_any (B b : Nat) (s t : ByteArray) (w : World) (h : At B b s w) (hs : s.size + t.size ≤ 4294967296) (hB : B ≤ w.heap.size) :
    Calls Tryd.prog 58 #[.pointer (some ⟨b, 0, none⟩), .string t] w fun e w' => e = .returned (.tuple #[.int .i64 t.size, .nilIface]) ∧ At B b (s ++ t) w' ∧ Below B w w' := by
  have hl : (Lib.byteCells s.data.toList).length = s.size := by simp [Lib.byteCells]
  refine (Any.Builder_WriteString Tryd.laysBW extraW B b _ t w h (by rw [hl]; omega) hB).mono ?_
  rintro e w' ⟨rfl, h1, h2⟩
  refine ⟨rfl, .inr ?_, h2⟩
  rw [← app_cells]
  exact h1
theorem string_any (B b : Nat) (s : ByteArray) (w : World) (h : At B b s w) (hB : B ≤ w.heap.size) :
    Calls Tryd.prog 59 #[.pointer (some ⟨b, 0, none⟩)] w fun e w' => e = .returned (.string s) ∧ Below B w w' := by
  refine (Any.Builder_String_any Tryd.laysBS extraS B b s.data.toList w h hB).mono ?_
  rintro e w' ⟨rfl, h2⟩
  exact ⟨rfl, h2⟩
end YtaipnmmlfbfcnaaDoor.Bld
end Go.Proofs
