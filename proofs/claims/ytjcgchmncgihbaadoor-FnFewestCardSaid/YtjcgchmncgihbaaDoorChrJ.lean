/- A place and what it is moved to; the rules of characters, each by itself, as the program tells them. -/
import Derived.Test.YtjcgchmncgihbaaDoorChrI
namespace Go.Proofs.YtjcgchmncgihbaaDoor
namespace Chr
open Go.RowKit
def plC (x : Pl) : Array Value := #[.int .i64 x.l, .int .i64 x.r, .int .i64 x.b, .int .i64 (x.f : Int), .bool x.d]
def plV (x : Pl) : Value := .agg #[.int .i64 x.l, .int .i64 x.r, .int .i64 x.b, .int .i64 (x.f : Int), .bool x.d]
theorem TabAt.ex {w : World} (h : TabAt w) (o : Obj) : TabAt (w.alloc o) := h.alloc o
theorem ret_pl {a b : Pl} (h : a = b) : (Ending.returned (plV a) : Ending) = .returned (plV b) := by rw [h]
theorem below3 (w : World) (a b c : Obj) : Below w.heap.size w (((w.alloc a).alloc b).alloc c) := (((Below.refl _ _).alloc (Nat.le_refl _) _).alloc (by simp) _).alloc (by simp; omega) _
theorem below4 (w : World) (a b c d : Obj) : Below w.heap.size w ((((w.alloc a).alloc b).alloc c).alloc d) := (below3 w a b c).alloc (by simp; omega) _
end Chr
end Go.Proofs.YtjcgchmncgihbaaDoor
