/- Upper case of a text, as the program and the specification tell it; the law of Upper. -/
import Derived.Test.YtamigjljgepfiaaGreatDoorFolS
import Derived.Deep.Cut
namespace Go.Proofs.YtamigjljgepfiaaGreatDoor
namespace Cas
open Go.RowKit
def upperT (s : ByteArray) : List Int := Go.Proofs.YtamigjljgepfiaaGreatDoor.small (textL ((ptsOut s).flatMap uo1))
theorem upper_len (s : ByteArray) : ((ptsOut s).flatMap uo1).length ≤ 131072 := by
  have h1 := flat_len (ptsOut s) uo_len
  have h2 := ptsOut_le s
  omega
end Cas
end Go.Proofs.YtamigjljgepfiaaGreatDoor
