/- PointsOf of the program and of the specification answer with the points that the model's own reading gives. -/
import Derived.Test.YtaepdcgofjcfcaaDoorNext
import Derived.Test.YtaepdcgofjcfcaaDoorMarks
import Derived.Lib.OthersKept
namespace Go.Proofs.YtaepdcgofjcfcaaDoor
open Go.RowKit
theorem owned_alloc {w : World} {base : Nat} {e : TypeId} {v : Value} {n : Nat} {xs : List Value} (h : w.ownsRow base e 1 v n xs) (o : Obj) : (w.alloc o).ownsRow base e 1 v n xs :=
  ownsRow_below h ((Below.refl _ _).alloc (Nat.le_refl _) o)
/-- One round: the point that was read is behind the others. -/
theorem pts_step {s : ByteArray} {n pos : Nat} {L : List Int} (h : steps s n = (L, pos)) (hp : pos < s.size) : steps s (n + 1) = (L ++ [(dP s pos : Int)], pos + dN s pos) := by
  have := steps_next s n (by rw [h]; exact hp)
  rw [h] at this
  exact this
theorem row_step {w wr w1 w2 : World} {base : Nat} {v v' : Value} {L : List Int} {p : Int} {o : Obj} (hb : Below base w wr) (hb1 : Below base wr w1) (hB : base ≤ w1.heap.size)
    (ho : w1.ownsRow base 2 1 v L.length (L.map (Value.int .i64)))
    (ho2 : w2.ownsRow base 2 1 v' (L.length + 1) (L.map (Value.int .i64) ++ [.int .i64 p])) (hg : (w1.alloc o).grownBy w2 v.ownBlock) :
    w2.ownsRow base 2 1 v' (L ++ [p]).length ((L ++ [p]).map (Value.int .i64)) ∧ Below base w w2 := by
  refine ⟨?_, ((hb.trans hb1).alloc hB o).grown hg (by simp; omega) (fun j hj => (ho.lt j hj).1)⟩
  rw [List.length_append, List.map_append]
  exact ho2
/-- The points of a text: none where it is too long. -/
def ptsOut (s : ByteArray) : List Int := if 65536 < s.size then [] else pts s
theorem pts_le (s : ByteArray) : (pts s).length ≤ s.size := by have := steps_le s s.size; unfold pts; omega
theorem ptsOut_le (s : ByteArray) : (ptsOut s).length ≤ 65536 := by
  unfold ptsOut
  split
  · simp
  · have := pts_le s; omega
end Go.Proofs.YtaepdcgofjcfcaaDoor
