/- Where a word ends, as the program and the specification tell it. -/
import Derived.Test.YtamigjljgepfiaaGreatDoorLowP
import Derived.Test.YtamigjljgepfiaaGreatDoorMG
import Derived.Test.YtamigjljgepfiaaGreatDoorFolI
namespace Go.Proofs.YtamigjljgepfiaaGreatDoor
namespace Cas
open Go.RowKit
theorem catI_any (p : Int) (w : World) (ht : TabAt w) : Calls Tryz.prog 117 #[.int .i64 p] w fun e w' => e = .returned (.int .i64 (Chr.cat p)) ∧ Below w.heap.size w w' := by
  have := implCat p w ht
  rw [Chr.cat_i] at this
  exact this
theorem catS_any (p : Int) (w : World) : Calls Tryz.prog 90 #[.int .i64 p] w fun e w' => e = .returned (.int .i64 (Chr.cat p)) ∧ Below w.heap.size w w' := specCat p w
end Cas
end Go.Proofs.YtamigjljgepfiaaGreatDoor
