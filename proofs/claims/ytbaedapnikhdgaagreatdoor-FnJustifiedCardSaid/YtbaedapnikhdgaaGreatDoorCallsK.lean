/- Category and Script of the program and of the specification answer as the plain numbers say. -/
import Derived.Test.YtbaedapnikhdgaaGreatDoorKnownB
namespace Go.Proofs.YtbaedapnikhdgaaGreatDoor
open Go.RowKit
theorem row_bd (p : Int) : 0 ≤ (rowOf p).1 ∧ (rowOf p).1 ≤ 65535 ∧ 0 ≤ (rowOf p).2.2.1 ∧ (rowOf p).2.2.1 ≤ 255 ∧ 0 ≤ (rowOf p).2.2.2 ∧ (rowOf p).2.2.2 ≤ 255 := by
  by_cases h : idx p = 49 ∨ p < F (idx p)
  · rw [row_none p h]; decide
  · have hi : idx p < 49 := by have := idx_le p; omega
    rw [row_some p hi (by omega)]
    have := bd (idx p) hi
    exact ⟨this.1, this.2.1, this.2.2.2.2.1, this.2.2.2.2.2.1, this.2.2.2.2.2.2.1, this.2.2.2.2.2.2.2⟩
theorem twin_bd (p : Int) : 0 ≤ p - twin p ∧ p - twin p ≤ 512 ∧ (p - twin p = 0 ∨ 768 ≤ p) := by
  unfold twin; split <;> omega
def rowC (p : Int) : Int := (rowOf p).2.2.1
def rowS (p : Int) : Int := (rowOf p).2.2.2
def rowF (p : Int) : Int := (rowOf p).1
theorem row_any (p : Int) (w : World) (ht : TabAt w) : Calls Tryz.prog 77 #[.int .i64 p] w fun e w' =>
    e = .returned (.agg #[.int .u16 (rowF p), .int .u16 (rowOf p).2.1, .int .u8 (rowC p), .int .u8 (rowS p)]) ∧ Below w.heap.size w w' := rowOf_any p w ht
theorem wrap_small (n : Int) (h0 : 0 ≤ n) (h1 : n ≤ 65535) : wrap64 n = n := by unfold wrap64; omega
theorem field2 (x y z t : Int) (w : World) : (Instr.field 102 (.agg #[.int .u16 x, .int .u16 y, .int .u8 z, .int .u8 t]) 2).run Tryz.prog w = .ok (.int .u8 z) w := by kernel_rfl
theorem field3 (x y z t : Int) (w : World) : (Instr.field 102 (.agg #[.int .u16 x, .int .u16 y, .int .u8 z, .int .u8 t]) 3).run Tryz.prog w = .ok (.int .u8 t) w := by kernel_rfl
set_option maxRecDepth 100000 in
theorem specCat (p : Int) (w : World) : Calls Tryz.prog 55 #[.int .i64 p] w fun e w' => e = .returned (.int .i64 (known p).1) ∧ Below w.heap.size w w' := by
  go_enter Tryz.func55, Tryz.ntmps55
  go_wp2_with (go_at_call 85; refine (known_any p _).mono ?_; rintro e w' ⟨rfl, hb⟩)
  go_ret
  exact ⟨rfl, hb⟩
theorem row_ex (p : Int) (w : World) (ht : TabAt w) : Calls Tryz.prog 77 #[.int .i64 p] w fun e w' =>
    e = .returned (.agg #[.int .u16 (rowF p), .int .u16 (rowOf p).2.1, .int .u8 (rowC p), .int .u8 (rowS p)]) ∧ ∃ o, w' = w.alloc o := rowOf_ex p w ht
set_option maxRecDepth 100000 in
theorem implCat_ex (p : Int) (w : World) (ht : TabAt w) : Calls Tryz.prog 51 #[.int .i64 p] w fun e w' => e = .returned (.int .i64 (catI p)) ∧ ∃ o, w' = w.alloc o := by
  have hbd := row_bd (twin p)
  have hw := wrap_small (rowC (twin p)) hbd.2.2.1 (by have : rowC (twin p) = (rowOf (twin p)).2.2.1 := rfl; omega)
  clear hbd
  have HW := hide hw
  clear hw
  have H := hide ht
  clear ht
  have f2 := field2
  go_enter Tryz.func51, Tryz.ntmps51
  go_wp2_with (first | (go_at_call 78; refine (twin_any p _).mono ?_; rintro e w' ⟨rfl, rfl⟩) | (go_at_call 77; refine (row_ex (twin p) _ (unhide H)).mono ?_; rintro e w' ⟨rfl, o, rfl⟩))
  go_ret
  exact ⟨ret_int (unhide HW), _, rfl⟩
set_option maxRecDepth 100000 in
theorem implCat (p : Int) (w : World) (ht : TabAt w) : Calls Tryz.prog 51 #[.int .i64 p] w fun e w' => e = .returned (.int .i64 (catI p)) ∧ Below w.heap.size w w' := by
  have hbd := row_bd (twin p)
  have hw := wrap_small (rowC (twin p)) hbd.2.2.1 (by have : rowC (twin p) = (rowOf (twin p)).2.2.1 := rfl; omega)
  clear hbd
  have HW := hide hw
  clear hw
  have H := hide ht
  clear ht
  have f2 := field2
  go_enter Tryz.func51, Tryz.ntmps51
  go_wp2_with (first | (go_at_call 78; refine (twin_any p _).mono ?_; rintro e w' ⟨rfl, rfl⟩) | (go_at_call 77; refine (row_any (twin p) _ (unhide H)).mono ?_; rintro e w' ⟨rfl, hb⟩))
  go_ret
  exact ⟨ret_int (unhide HW), hb⟩
end Go.Proofs.YtbaedapnikhdgaaGreatDoor
