/- Labels, as the program writes them: the digits, a number, the bias. -/
import Derived.Test.YthjjojkabbepdaaDoorLabE
namespace Go.Proofs.YthjjojkabbepdaaDoor.Lab
open Go.RowKit
set_option linter.unusedVariables false
theorem two_cellsL {w : World} {g : Nat} {a b : Value} {T : TypeId} (h : w.heap[g]? = some (.cells #[a, b] T (0, 0))) : w.cell? ⟨g, 0, none⟩ = some a ∧ w.cell? ⟨g, 1, none⟩ = some b ∧ w.frozen? ⟨g, 0, none⟩ = false ∧ w.frozen? ⟨g, 1, none⟩ = false := by
  simp [World.cell?, World.frozen?, h]
/-- The bias in its box. -/
def Bx (w : World) (A : Nat) (b : Int) (a : Bool) : Prop := w.heap[A]? = some (.cells #[.int .i64 b, .bool a] 62 (0, 0))
theorem Bx.put0 {w : World} {A : Nat} {b : Int} {a : Bool} (h : Bx w A b a) (b' : Int) : Bx (w.setCell ⟨A, 0, none⟩ (.int .i64 b')) A b' a := by
  have := heap_setCell_same w A 0 _ 62 (.int .i64 b') h
  unfold Bx
  simpa using this
theorem Bx.put1 {w : World} {A : Nat} {b : Int} {a : Bool} (h : Bx w A b a) (a' : Bool) : Bx (w.setCell ⟨A, 1, none⟩ (.bool a')) A b a' := by
  have := heap_setCell_same w A 1 _ 62 (.bool a') h
  unfold Bx
  simpa using this
theorem Bx.lt {w : World} {A : Nat} {b : Int} {a : Bool} (h : Bx w A b a) : A < w.heap.size := (Array.getElem?_eq_some_iff.1 h).1
theorem Bx.kb {w w' : World} {A lo : Nat} {b : Int} {a : Bool} (h : Bx w A b a) (k : Kb lo w w') : Bx w' A b a := k.typ _ _ _ _ h (by decide)
theorem thr_min (k b : Int) : min (max (k - b) 1) 26 = thr k b := by
  unfold thr
  split
  · omega
  · split <;> omega
set_option maxRecDepth 100000 in
theorem thrI (A : Nat) (p : Nat) (b : Int) (a : Bool) (w : World) (hB : Bx w A b a) (hp : p ≤ 10000000000) (hb0 : 0 ≤ b) (hb1 : b ≤ 1000000000000) :
    Calls Tryd.prog 51 #[.pointer (some ⟨A, 0, none⟩), .int .i64 p] w fun e w' => e = .returned (.int .i64 (thr (36 * ((p : Int) + 1)) b)) ∧ w' = w := by
  obtain ⟨c0, c1, f0, f1⟩ := two_cellsL hB
  have HM := hide (thr_min (36 * ((p : Int) + 1)) b)
  clear hB
  go_enter Tryd.func51, Tryd.ntmps51
  go_wp2
  go_ret
  exact ⟨ret_int (unhide HM), rfl⟩
set_option maxRecDepth 100000 in
theorem digitI (d : Int) (w : World) (h0 : 0 ≤ d) (h1 : d < 36) : Calls Tryd.prog 53 #[.int .i64 d] w fun e w' => e = .returned (.int .i32 (dig d)) ∧ w' = w := by
  by_cases h : d < 26
  · have e : dig d = 97 + d := by unfold dig; rw [if_pos h]
    have hw : IntKind.i32.wrap d = d := by have e8 : IntKind.i32.wrap d = (d + 2147483648) % 4294967296 - 2147483648 := by unfold IntKind.wrap; simp [IntKind.bits, IntKind.signed]; split <;> omega
                                           omega
    rw [e]
    clear e
    go_enter Tryd.func53, Tryd.ntmps53
    go_wp2
    go_ret
    exact ⟨rfl, rfl⟩
  · have e : dig d = 22 + d := by unfold dig; rw [if_neg h]
    rw [show dig d = 48 + d - 26 by omega]
    clear e
    go_enter Tryd.func53, Tryd.ntmps53
    go_wp2
    go_ret
    exact ⟨rfl, rfl⟩
end Go.Proofs.YthjjojkabbepdaaDoor.Lab
