/- ShowPasses of the program. -/
import Derived.Test.YtefbfffngmhjfaaDoorShwJ
import Derived.Test.YtefbfffngmhjfaaDoorShwQ
import Derived.Test.YtefbfffngmhjfaaDoorPasK
namespace Go.Proofs.YtefbfffngmhjfaaDoor.Pas
open Go.RowKit
set_option linter.unusedVariables false
/-- The names of the forms, as the program's table has them. -/
def nmS (m : Nat) : ByteArray := if m = 0 then ⟨#[110, 111, 110, 101]⟩ else if m = 1 then ⟨#[68]⟩ else if m = 2 then ⟨#[67]⟩ else if m = 3 then ⟨#[75, 68]⟩ else ⟨#[75, 67]⟩
def NamAt (w : World) : Prop := 0 < w.heap.size ∧ ∀ m : Nat, m < 5 → w.cell? ⟨0, m, none⟩ = some (.string (nmS m))
theorem NamAt.below {w w' : World} (h : NamAt w) (hb : Below w.heap.size w w') : NamAt w' := ⟨Nat.lt_of_lt_of_le h.1 hb.size, fun m hm => (hb.cell (p := ⟨0, m, none⟩) h.1).trans (h.2 m hm)⟩
theorem nmS_is (m : Nat) (h : m < 5) : Lib.strCells (nmS m) = (nam (m : Int)).map (Value.int .u8) ∧ (nmS m).size = (nam (m : Int)).length := by
  have : m = 0 ∨ m = 1 ∨ m = 2 ∨ m = 3 ∨ m = 4 := by omega
  rcases this with rfl | rfl | rfl | rfl | rfl <;> exact ⟨rfl, rfl⟩
theorem nam_str (m : Nat) (h : m < 5) : nmS m = strOfNums (nam (m : Int)) := by
  have : m = 0 ∨ m = 1 ∨ m = 2 ∨ m = 3 ∨ m = 4 := by omega
  rcases this with rfl | rfl | rfl | rfl | rfl <;> rfl
end Go.Proofs.YtefbfffngmhjfaaDoor.Pas
