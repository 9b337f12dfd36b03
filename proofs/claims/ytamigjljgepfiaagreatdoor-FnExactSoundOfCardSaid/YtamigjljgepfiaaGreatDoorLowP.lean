/- Lower case of a place in a row of points, in plain numbers. No Go in sight. -/
import Derived.Test.YtamigjljgepfiaaGreatDoorMG
import Derived.Test.YtamigjljgepfiaaGreatDoorMK
namespace Go.Proofs.YtamigjljgepfiaaGreatDoor
namespace Cas
def cas (p : Int) : Bool := Chr.cat p == 4 || Chr.cat p == 5 || Chr.cat p == 6
def mk3 (p : Int) : Bool := Chr.cat p == 3
/-- Of the first k points that are no marks the last one has case. -/
def ahC (L : List Int) : Nat → Bool
  | 0 => false
  | k + 1 => if mk3 (L.getD k 0) then ahC L k else cas (L.getD k 0)
/-- Of the points from k on that are no marks the first one, if there is one, has no case (n: how many are looked at). -/
def bhC (L : List Int) : Nat → Nat → Bool
  | 0, _ => true
  | n + 1, k => if mk3 (L.getD k 0) then bhC L n (k + 1) else !cas (L.getD k 0)
/-- The point at a place ends a word. -/
def endW (L : List Int) (k : Nat) : Bool := ahC L k && bhC L (L.length - (k + 1)) (k + 1)
/-- What Lower makes of the point at a place: the specification's way. -/
def loS (L : List Int) (k : Nat) : Int := if (0 < bl (L.getD k 0) ∧ L.getD k 0 = bl (L.getD k 0) + 18) ∧ endW L k = true then bl (L.getD k 0) + 97 else lowS (L.getD k 0)
/-- The program's way. -/
def loI (L : List Int) (k : Nat) : Int := if tw (L.getD k 0) = 530 ∧ endW L k = true then 609 + L.getD k 0 - tw (L.getD k 0) else lowS (L.getD k 0)
theorem lo_eq (L : List Int) (k : Nat) : loI L k = loS L k := by
  unfold loI loS
  generalize L.getD k 0 = p
  generalize endW L k = e
  rcases tw_bl p with ⟨h1, h2, e1, e2⟩ | ⟨h1, e1, e2⟩
  · rw [e1, e2]
    by_cases c : p % 256 = 18
    · cases e
      · rw [if_neg (by simp), if_neg (by simp)]
      · rw [if_pos ⟨by omega, rfl⟩, if_pos ⟨by omega, rfl⟩]; omega
    · rw [if_neg (fun h => by omega), if_neg (fun h => by omega)]
  · rw [e1, e2, if_neg (fun h => by omega), if_neg (fun h => by omega)]
theorem ah_on {L : List Int} {k : Nat} (h : mk3 (L.getD k 0) = true) : ahC L (k + 1) = ahC L k := by
  show (if mk3 (L.getD k 0) then _ else _) = _
  rw [h]; rfl
theorem ah_end {L : List Int} {k : Nat} (h : mk3 (L.getD k 0) = false) : ahC L (k + 1) = cas (L.getD k 0) := by
  show (if mk3 (L.getD k 0) then _ else _) = _
  rw [h]; rfl
theorem bh_on {L : List Int} {n k : Nat} (h : mk3 (L.getD k 0) = true) : bhC L (n + 1) k = bhC L n (k + 1) := by
  show (if mk3 (L.getD k 0) then _ else _) = _
  rw [h]; rfl
theorem bh_end {L : List Int} {n k : Nat} (h : mk3 (L.getD k 0) = false) : bhC L (n + 1) k = !cas (L.getD k 0) := by
  show (if mk3 (L.getD k 0) then _ else _) = _
  rw [h]; rfl
end Cas
end Go.Proofs.YtamigjljgepfiaaGreatDoor
