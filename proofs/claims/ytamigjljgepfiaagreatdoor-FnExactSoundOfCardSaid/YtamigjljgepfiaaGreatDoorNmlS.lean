/- Normalize of the specification; the text of points that is not too long, of both. -/
import Derived.Test.YtamigjljgepfiaaGreatDoorME
import Derived.Test.YtamigjljgepfiaaGreatDoorMN
namespace Go.Proofs.YtamigjljgepfiaaGreatDoor
open Go.RowKit
theorem steps_bd (s : ByteArray) : ∀ n, ∀ p ∈ (steps s n).1, 0 ≤ p ∧ p ≤ 1114111
  | 0 => by simp [steps]
  | n + 1 => by
    unfold steps
    split
    · rename_i h
      intro p hp
      rcases List.mem_append.1 hp with hp | hp
      · exact steps_bd s n p hp
      · rw [List.mem_singleton] at hp
        have := (dN_bd s _ h).2.2
        omega
    · exact steps_bd s n
theorem pts_bd (s : ByteArray) : ∀ p ∈ pts s, 0 ≤ p ∧ p ≤ 1114111 := steps_bd s _
theorem cmpQ_len (L : List Int) : (cmpQ L).1.length ≤ L.length := (cmpQ_bd _ L rfl).2.2
theorem nrmL_len (f : Int) (l : List Int) : (nrmL f l).length ≤ 4 * l.length := by
  have h1 := nrmA_len (isK f) l
  have h2 := ordL_len (nrmA (isK f) l)
  have h3 := cmpQ_len (ordL (nrmA (isK f) l))
  unfold nrmL
  split <;> omega
/-- A text in a form. -/
def nrmT (f : Int) (s : ByteArray) : List Int := textL (nrmL f (pts s))
/-- What is not too long. -/
def small (t : List Int) : List Int := if 65536 < t.length then [] else t
def nmlOut (f : Int) (s : ByteArray) : List Int := if 65536 < s.size ∨ isF f = false then [] else small (nrmT f s)
end Go.Proofs.YtamigjljgepfiaaGreatDoor
