/- TextOf of the specification, of one point. -/
import Derived.Test.YtecbbifepbgmlaaDoorMJ
namespace Go.Proofs.YtecbbifepbgmlaaDoor
open Go.RowKit
set_option maxRecDepth 100000 in
theorem specTextFew (v : Value) (l : List Int) (w : World) (h : IntsAt w v l) (hb : l.length ≤ 1000) :
    Calls Tryd.prog 9 #[v] w fun e w' => e = .returned (.string (strOfNums (textL l))) ∧ Below w.heap.size w w' := by
  have H := hide h
  obtain ⟨a, cap, rfl, _⟩ := h
  have hsz : (strOfNums (textL l)).size ≤ 65536 := by rw [strOfNums_size]; have := textL_le l; omega
  have HL : Hid (l.length ≤ 600000) := hide (by omega)
  go_enter Tryd.func9, Tryd.ntmps9
  go_wp2_with (first | (go_at_call 25; refine (l01Text _ l _ (unhide H) (unhide HL)).mono ?_; rintro e w2 ⟨rfl, hb2⟩) | (go_at_call 24; refine (small_any _ _ hsz).mono ?_; rintro e w3 ⟨rfl, rfl⟩))
  go_ret
  exact ⟨rfl, hb2⟩
end Go.Proofs.YtecbbifepbgmlaaDoor
