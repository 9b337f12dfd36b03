/- The classes of points that cuts of characters ask for, as the program tells them; a place and what it is moved to. -/
import Derived.Test.YtgnbfeejoconfaaDoorChrP
import Derived.Test.YtgnbfeejoconfaaDoorCallsK
namespace Go.Proofs.YtgnbfeejoconfaaDoor
namespace Chr
open Go.RowKit
theorem ret_bool {x y : Bool} (h : x = y) : (Ending.returned (.bool x) : Ending) = .returned (.bool y) := by rw [h]
set_option maxRecDepth 100000 in
theorem cw_any (p a b : Int) (w : World) : Calls Tryd.prog 31 #[.int .i64 p, .int .i64 a, .int .i64 b] w fun e w' => e = .returned (.bool (decide (a ≤ p) && decide (p ≤ b))) ∧ w' = w := by
  by_cases h1 : a ≤ p
  · by_cases h2 : p ≤ b
    · go_enter Tryd.func31, Tryd.ntmps31
      go_wp2
      go_ret
      exact ⟨ret_bool (x := true) (by simp [h1, h2]), rfl⟩
    · go_enter Tryd.func31, Tryd.ntmps31
      go_wp2
      go_ret
      exact ⟨ret_bool (x := false) (by simp [h2]), rfl⟩
  · go_enter Tryd.func31, Tryd.ntmps31
    go_wp2
    go_ret
    exact ⟨ret_bool (x := false) (by simp; omega), rfl⟩
theorem cat_any (p : Int) (w : World) (ht : TabAt w) : Calls Tryd.prog 16 #[.int .i64 p] w fun e w' => e = .returned (.int .i64 (cat p)) ∧ ∃ o, w' = w.alloc o := by
  have := implCat_ex p w ht
  rw [cat_i] at this
  exact this
end Chr
end Go.Proofs.YtgnbfeejoconfaaDoor
