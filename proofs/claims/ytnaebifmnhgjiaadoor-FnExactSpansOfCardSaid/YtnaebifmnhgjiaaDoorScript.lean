/- Script of the program and of the specification. -/
import Derived.Test.YtnaebifmnhgjiaaDoorCalls
namespace Go.Proofs.YtnaebifmnhgjiaaDoor
open Go.RowKit
theorem specScr (p : Int) (w : World) : Calls Tryd.prog 69 #[.int .i64 p] w fun e w' => e = .returned (.int .i64 (known p).2) ∧ Below w.heap.size w w' := by
  go_enter Tryd.func69, Tryd.ntmps69
  go_wp2_with (go_at_call 81; refine (known_any p _).mono ?_; rintro e w' ⟨rfl, hb⟩)
  go_ret
  exact ⟨rfl, hb⟩
theorem implScr (p : Int) (w : World) (ht : TabAt w) : Calls Tryd.prog 73 #[.int .i64 p] w fun e w' => e = .returned (.int .i64 (scrI p)) ∧ Below w.heap.size w w' := by
  have hbd := row_bd (twin p)
  obtain ⟨t1, t2, _⟩ := twin_bd p
  have hS : rowS (twin p) = (rowOf (twin p)).2.2.2 := rfl
  have s0 : 0 ≤ rowS (twin p) := by omega
  have s1 : rowS (twin p) ≤ 255 := by omega
  have hw := wrap_small (rowS (twin p)) s0 (by omega)
  clear hbd
  have H := hide ht
  have HS := hide hS
  clear ht hS
  have f3 := field3
  by_cases hz : rowS (twin p) = 0
  · have e0 : (rowS (twin p) == 0) = true := by simpa using hz
    have HZ := hide hz
    clear hz
    go_enter Tryd.func73, Tryd.ntmps73
    go_wp2_with (first | (go_at_call 83; refine (twin_any p _).mono ?_; rintro e w' ⟨rfl, rfl⟩) | (go_at_call 82; refine (row_any (twin p) _ (unhide H)).mono ?_; rintro e w' ⟨rfl, hb⟩))
    go_ret
    exact ⟨ret_int (by unfold scrI; rw [← unhide HS, if_pos (unhide HZ)]), hb⟩
  · have e0 : (rowS (twin p) == 0) = false := by simpa using hz
    have HZ := hide hz
    clear hz
    go_enter Tryd.func73, Tryd.ntmps73
    go_wp2_with (first | (go_at_call 83; refine (twin_any p _).mono ?_; rintro e w' ⟨rfl, rfl⟩) | (go_at_call 82; refine (row_any (twin p) _ (unhide H)).mono ?_; rintro e w' ⟨rfl, hb⟩))
    go_ret
    exact ⟨ret_int (by unfold scrI; rw [← unhide HS, if_neg (unhide HZ)]), hb⟩
end Go.Proofs.YtnaebifmnhgjiaaDoor
