/- The law of Category returns true wherever the table lies as its text lays it. -/
import Derived.Test.YtopifpgkagcfbakDoorCalls
namespace Go.Proofs.YtopifpgkagcfbakDoor
open Go.RowKit
theorem specCategory (p : Int) (w : World) : Calls Tryd.prog 4 #[.int .i64 p] w fun e w' => e = .returned (.int .i64 (known p).1) ∧ Below w.heap.size w w' := by
  go_enter Tryd.func4, Tryd.ntmps4
  go_wp2_with (go_at_call 6; refine (specCat p _).mono ?_; rintro e w' ⟨rfl, hb⟩)
  go_ret
  exact ⟨rfl, hb⟩
theorem lawCategory (p : Int) (w : World) (ht : TabAt w) : Calls Tryd.prog 3 #[.int .i64 p] w fun e w' => e = .returned (.bool true) ∧ Below w.heap.size w w' := by
  have hne : (catI p != (known p).1) = false := by rw [(fine p).1]; simp
  have H := hide ht
  clear ht
  go_enter Tryd.func3, Tryd.ntmps3
  go_wp2_with (first | (go_at_call 4; refine (specCategory p _).mono ?_; rintro e w1 ⟨rfl, hb⟩) | (go_at_call 5; refine (implCat p _ ((unhide H).below hb)).mono ?_; rintro e w2 ⟨rfl, hb2⟩))
  go_ret
  exact ⟨rfl, hb.trans (hb2.mono hb.size)⟩
end Go.Proofs.YtopifpgkagcfbakDoor
