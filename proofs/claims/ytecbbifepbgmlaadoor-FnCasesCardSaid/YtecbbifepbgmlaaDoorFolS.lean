/- Folding of a row of points, as the specification tells it; the law of Fold. -/
import Derived.Test.YtecbbifepbgmlaaDoorFolI
import Derived.Test.YtecbbifepbgmlaaDoorNRoundW
namespace Go.Proofs.YtecbbifepbgmlaaDoor
namespace Cas
open Go.RowKit
/-- What Fold tells of a text. -/
def foldT (s : ByteArray) : List Int := Go.Proofs.YtecbbifepbgmlaaDoor.small (textL ((ptsOut s).flatMap fo1))
theorem ptsOut_pt (s : ByteArray) : ∀ p ∈ ptsOut s, isPt p = true := by
  unfold ptsOut
  split
  · intro p hp; cases hp
  · exact pts_pt s
theorem fold_len (s : ByteArray) : ((ptsOut s).flatMap fo1).length ≤ 131072 := by
  have h1 := flat_len (ptsOut s) fo_len
  have h2 := ptsOut_le s
  omega
end Cas
end Go.Proofs.YtecbbifepbgmlaaDoor
