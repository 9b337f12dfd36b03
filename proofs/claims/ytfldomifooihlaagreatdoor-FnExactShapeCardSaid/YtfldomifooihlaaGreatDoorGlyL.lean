/- GlyphsOf of the program and of the specification, and the law. -/
import Derived.Test.YtfldomifooihlaaGreatDoorGlyT
import Derived.Test.YtfldomifooihlaaGreatDoorGlyF
namespace Go.Proofs.YtfldomifooihlaaGreatDoor.Gly
open Go.RowKit Chr
set_option linter.unusedVariables false
/-- The glyphs of a text. -/
def glyS (s : ByteArray) : List (Int × Int × Int) := ord (ginS s)
theorem glyS_len (s : ByteArray) : (glyS s).length ≤ 65536 := by unfold glyS; rw [ord_len, ginS_len]; exact ptsOut_le s
theorem implG (s : ByteArray) (w : World) (ht : TabAt w) (hs : s.size ≤ 1048576) : Calls Tryz.prog 27 #[.string s] w fun e w' => ∃ v, e = .returned v ∧ GR w' w.heap.size v (glyS s) ∧ Below w.heap.size w w' :=
  glyphs_of s (ginS s) (by rw [ginS_len]; exact ptsOut_le s) (inOrder s hs) w ht
theorem grown_belG {w w' : World} {v : Value} {B : Nat} (hg : w.grownBy w' v.ownBlock) (hv : ∀ k, v.ownBlock = some k → B ≤ k) (hB : B ≤ w.heap.size) : Below B w w' := (Below.refl _ _).grown hg hB hv
end Go.Proofs.YtfldomifooihlaaGreatDoor.Gly
