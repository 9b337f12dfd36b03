/- Whether a point is an ideograph; Strokes; the law. -/
import Derived.Test.YtohpifhpfijmcaaDoorScriptB
namespace Go.Proofs.YtohpifhpfijmcaaDoor
open Go.RowKit
def stroOf (p : Int) : Int := if 24576 ≤ p ∧ p ≤ 26623 then 1 + p % 24 else 0
def ideo (p : Int) : Bool := decide (24576 ≤ p ∧ p ≤ 26623)
theorem isIdeo_any (p : Int) (w : World) (ht : TabAt w) : Calls Tryd.prog 42 #[.int .i64 p] w fun e w' => e = .returned (.bool (ideo p)) ∧ Below w.heap.size w w' := by
  have H := hide ht
  clear ht
  have HE : Hid ((scrI p == 9) = ideo p) := hide (by
    have hf := (fine p).2.2.2
    unfold ideo
    by_cases h : 24576 ≤ p ∧ p ≤ 26623
    · rw [decide_eq_true h, beq_iff_eq]; exact hf.2 h
    · rw [decide_eq_false h, beq_eq_false_iff_ne]; exact fun e => h (hf.1 e))
  go_enter Tryd.func42, Tryd.ntmps42
  go_wp2_with (go_at_call 55; refine (implScr p _ (unhide H)).mono ?_; rintro e w' ⟨rfl, hb⟩)
  go_ret
  exact ⟨by rw [← unhide HE]; rfl, hb⟩
theorem implStro (p : Int) (w : World) (ht : TabAt w) : Calls Tryd.prog 17 #[.int .i64 p] w fun e w' => e = .returned (.int .i64 (stroOf p)) ∧ Below w.heap.size w w' := by
  have H := hide ht
  clear ht
  by_cases c : 24576 ≤ p ∧ p ≤ 26623
  · have hp1 := c.1
    have hp2 := c.2
    have c' : ideo p = true := decide_eq_true c
    clear c
    go_enter Tryd.func17, Tryd.ntmps17
    go_wp2_with (go_at_call 42; refine (isIdeo_any p _ (unhide H)).mono ?_; rintro e w' ⟨rfl, hb⟩)
    go_ret
    exact ⟨ret_int (by unfold stroOf; rw [if_pos ⟨hp1, hp2⟩]), hb⟩
  · have c' : ideo p = false := decide_eq_false c
    have HN := hide c
    clear c
    go_enter Tryd.func17, Tryd.ntmps17
    go_wp2_with (go_at_call 42; refine (isIdeo_any p _ (unhide H)).mono ?_; rintro e w' ⟨rfl, hb⟩)
    go_ret
    exact ⟨ret_int (by unfold stroOf; rw [if_neg (unhide HN)]), hb⟩
theorem specStro (p : Int) (w : World) : Calls Tryd.prog 16 #[.int .i64 p] w fun e w' => e = .returned (.int .i64 (stroOf p)) ∧ Below w.heap.size w w' := by
  by_cases h1 : p < 24576
  · go_enter Tryd.func16, Tryd.ntmps16
    go_wp2
    go_ret
    exact ⟨ret_int (by unfold stroOf; rw [if_neg (by omega)]), Below.refl _ _⟩
  · by_cases h2 : 26623 < p
    · go_enter Tryd.func16, Tryd.ntmps16
      go_wp2
      go_ret
      exact ⟨ret_int (by unfold stroOf; rw [if_neg (by omega)]), Below.refl _ _⟩
    · go_enter Tryd.func16, Tryd.ntmps16
      go_wp2
      go_ret
      exact ⟨ret_int (by unfold stroOf; rw [if_pos (by omega)]), Below.refl _ _⟩
theorem lawStrokes (p : Int) (w : World) (ht : TabAt w) : Calls Tryd.prog 4 #[.int .i64 p] w fun e w' => e = .returned (.bool true) ∧ Below w.heap.size w w' := by
  have H := hide ht
  clear ht
  go_enter Tryd.func4, Tryd.ntmps4
  go_wp2_with (first | (go_at_call 16; refine (specStro p _).mono ?_; rintro e w1 ⟨rfl, hb⟩) | (go_at_call 17; refine (implStro p _ ((unhide H).below hb)).mono ?_; rintro e w2 ⟨rfl, hb2⟩))
  go_ret
  exact ⟨rfl, hb.trans (hb2.mono hb.size)⟩
end Go.Proofs.YtohpifhpfijmcaaDoor
