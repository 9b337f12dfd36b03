/- Where a word ends, as the program and the specification tell it. -/
import Derived.Test.YtllpmfeebkjeoaaDoorLowP
import Derived.Test.YtllpmfeebkjeoaaDoorCallsK
import Derived.Test.YtllpmfeebkjeoaaDoorFolI
namespace Go.Proofs.YtllpmfeebkjeoaaDoor
namespace Cas
open Go.RowKit
theorem catI_any (p : Int) (w : World) (ht : TabAt w) : Calls Tryd.prog 62 #[.int .i64 p] w fun e w' => e = .returned (.int .i64 (Chr.cat p)) ∧ Below w.heap.size w w' := by
  have := implCat p w ht
  rw [Chr.cat_i] at this
  exact this
theorem catS_any (p : Int) (w : World) : Calls Tryd.prog 63 #[.int .i64 p] w fun e w' => e = .returned (.int .i64 (Chr.cat p)) ∧ Below w.heap.size w w' := specCat p w
set_option maxRecDepth 100000 in
theorem hasCase_any (p : Int) (w : World) (ht : TabAt w) : Calls Tryd.prog 38 #[.int .i64 p] w fun e w' => e = .returned (.bool (cas p)) ∧ Below w.heap.size w w' := by
  have C := hide (catI_any p w ht)
  clear ht
  have HE : Hid (cas p = (Chr.cat p == 4 || Chr.cat p == 5 || Chr.cat p == 6)) := hide rfl
  generalize cas p = D at *
  generalize Chr.cat p = c at *
  cases h4 : (c == 4) <;> cases h5 : (c == 5) <;> cases h6 : (c == 6)
  all_goals
    rw [h4, h5, h6] at HE
    go_enter Tryd.func38, Tryd.ntmps38
    go_wp2_with (go_at_call 62; refine (unhide C).mono ?_; rintro e w2 ⟨rfl, hb2⟩)
    go_ret
    exact ⟨by rw [unhide HE]; rfl, hb2⟩
set_option maxRecDepth 100000 in
theorem cased_c (p : Int) (w : World) : Calls Tryd.prog 41 #[.int .i64 p] w fun e w' => e = .returned (.bool (cas p)) ∧ Below w.heap.size w w' := by
  have C := hide (catS_any p w)
  have HE : Hid (cas p = (Chr.cat p == 4 || Chr.cat p == 5 || Chr.cat p == 6)) := hide rfl
  generalize cas p = D at *
  generalize Chr.cat p = c at *
  cases h4 : (c == 4) <;> cases h5 : (c == 5)
  all_goals
    rw [h4, h5] at HE
    go_enter Tryd.func41, Tryd.ntmps41
    go_wp2_with (go_at_call 63; refine (unhide C).mono ?_; rintro e w2 ⟨rfl, hb2⟩)
    go_ret
    exact ⟨by rw [unhide HE]; rfl, hb2⟩

end Cas
end Go.Proofs.YtllpmfeebkjeoaaDoor
