/- Lower case of a text, as the program and the specification tell it; the law of Lower. -/
import Derived.Test.YtamigjljgepfiaaGreatDoorLowK
import Derived.Test.YtamigjljgepfiaaGreatDoorUppS
namespace Go.Proofs.YtamigjljgepfiaaGreatDoor
namespace Cas
open Go.RowKit
/-- Both tables lie where they should. -/
def Both (w : World) : Prop := TabAt w ∧ BlkAt w
theorem Both.below {w w' : World} (h : Both w) (hb : Below w.heap.size w w') : Both w' := ⟨h.1.below hb, h.2.below hb⟩
/-- A row in lower case. -/
def lowL (L : List Int) : List Int := (List.range L.length).map (loI L)
theorem lowL_len (L : List Int) : (lowL L).length = L.length := by simp [lowL]
theorem lowL_nth (L : List Int) (k : Nat) (h : k < L.length) : nth (lowL L) k = loI L k := by simp [nth, lowL, List.getD, h]
def tkL (X : List Int) (k : Nat) : List Int := X.take k
theorem take_nth (X : List Int) (k : Nat) (h : k < X.length) : tkL X (k + 1) = tkL X k ++ [nth X k] := by
  unfold tkL
  rw [List.take_succ_eq_append_getElem h]
  simp [nth, List.getD, h]
def lowerT (s : ByteArray) : List Int := Go.Proofs.YtamigjljgepfiaaGreatDoor.small (textL (lowL (ptsOut s)))
end Cas
end Go.Proofs.YtamigjljgepfiaaGreatDoor
