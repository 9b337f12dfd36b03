/- utf8.AppendRune onto a row of bytes that the call owns. -/
import Derived.Test.YtklakcnapdhcnaaDoorNPts
namespace Go.Proofs.YtklakcnapdhcnaaDoor
open Go.RowKit
theorem info5 : (Tryd.prog.info? 5).map (fun i => (i.zero, i.size, i.bytes)) = some (some (.int .u8 0), 1, 1) := by kernel_rfl
def runeCells (r : Int) : List Value := (Lib.encodeRuneZ r).map (Value.int .u8)
theorem grown_belowA {B : Nat} {w w' : World} {v : Value} {o : Obj} {n : Nat} {xs : List Value} (hown : w.ownsRow B 5 1 v n xs) (hB : B ≤ w.heap.size) (h : (w.alloc o).grownBy w' v.ownBlock) : Below B w w' :=
  ((Below.refl B w).alloc hB o).grown h (by simp; omega) (fun k hk => (hown.lt k hk).1)
end Go.Proofs.YtklakcnapdhcnaaDoor
