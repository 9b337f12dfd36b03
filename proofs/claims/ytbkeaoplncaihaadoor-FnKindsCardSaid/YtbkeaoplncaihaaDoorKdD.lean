/- Category, Script, MarkClass, Age, DigitOf and MirrorOf, as FnKinds asks them. -/
import Derived.Test.YtbkeaoplncaihaaDoorKdS
import Derived.Test.YtbkeaoplncaihaaDoorSetH
namespace Go.Proofs.YtbkeaoplncaihaaDoor.Kd
open Go.RowKit
set_option linter.unusedVariables false
theorem specCategory (p : Int) (w : World) : Calls Tryd.prog 10 #[.int .i64 p] w fun e w' => e = .returned (.int .i64 (known p).1) ∧ Below w.heap.size w w' := by
  go_enter Tryd.func10, Tryd.ntmps10
  go_wp2_with (go_at_call 26; refine (specCat p _).mono ?_; rintro e w' ⟨rfl, hb⟩)
  go_ret
  exact ⟨rfl, hb⟩
theorem specScript (p : Int) (w : World) : Calls Tryd.prog 11 #[.int .i64 p] w fun e w' => e = .returned (.int .i64 (known p).2) ∧ Below w.heap.size w w' := by
  go_enter Tryd.func11, Tryd.ntmps11
  go_wp2_with (go_at_call 27; refine (specScr p _).mono ?_; rintro e w' ⟨rfl, hb⟩)
  go_ret
  exact ⟨rfl, hb⟩
theorem specMarkClass (p : Int) (w : World) : Calls Tryd.prog 12 #[.int .i64 p] w fun e w' => e = .returned (.int .i64 (clsOf p)) ∧ Below w.heap.size w w' := by
  go_enter Tryd.func12, Tryd.ntmps12
  go_wp2_with (go_at_call 28; refine (specCls p _).mono ?_; rintro e w' ⟨rfl, rfl⟩)
  go_ret
  exact ⟨rfl, Below.refl _ _⟩
theorem specAgeK (p : Int) (w : World) : Calls Tryd.prog 13 #[.int .i64 p] w fun e w' => e = .returned (.int .i64 (ageOf (known p).1 p)) ∧ Below w.heap.size w w' := by
  go_enter Tryd.func13, Tryd.ntmps13
  go_wp2_with (go_at_call 29; refine (specL01Age p _).mono ?_; rintro e w' ⟨rfl, hb⟩)
  go_ret
  exact ⟨rfl, hb⟩
def digOf (p : Int) : Int := if catI p = 8 then p % 16 % 10 else -1
set_option maxRecDepth 100000 in
theorem implDig (p : Int) (w : World) (ht : TabAt w) : Calls Tryd.prog 19 #[.int .i64 p] w fun e w' => e = .returned (.int .i64 (digOf p)) ∧ Below w.heap.size w w' := by
  have H := hide ht
  clear ht
  have hbd := row_bd (twin p)
  have hF : rowF (twin p) = (rowOf (twin p)).1 := rfl
  have f0 : 0 ≤ rowF (twin p) := by omega
  have f1 : rowF (twin p) ≤ 65535 := by omega
  clear hbd
  have hC : catI p = rowC (twin p) := rfl
  by_cases c : catI p = 8
  · have hd := ((fine p).2.2.1 c).1
    rw [← hF] at hd
    have d0 : 0 ≤ twin p - rowF (twin p) := by omega
    have d1 : twin p - rowF (twin p) ≤ 9 := by omega
    have c' : (rowC (twin p) != 8) = false := by rw [← hC, c]; decide
    have HD := hide hd
    have HC := hide c
    clear hd hF hC c
    go_enter Tryd.func19, Tryd.ntmps19
    go_wp2_with (first | (go_at_call 25; refine (twin_any p _).mono ?_; rintro e w' ⟨rfl, rfl⟩) | (go_at_call 24; refine (row_any (twin p) _ (unhide H)).mono ?_; rintro e w' ⟨rfl, hb⟩))
    go_ret
    exact ⟨ret_int (by unfold digOf; rw [if_pos (unhide HC)]; exact unhide HD), hb.alloc hb.size _⟩
  · have c' : (rowC (twin p) != 8) = true := by rw [← hC]; simpa using c
    have HC := hide c
    clear hF hC c
    go_enter Tryd.func19, Tryd.ntmps19
    go_wp2_with (first | (go_at_call 25; refine (twin_any p _).mono ?_; rintro e w' ⟨rfl, rfl⟩) | (go_at_call 24; refine (row_any (twin p) _ (unhide H)).mono ?_; rintro e w' ⟨rfl, hb⟩))
    go_ret
    exact ⟨ret_int (by unfold digOf; rw [if_neg (unhide HC)]), hb.alloc hb.size _⟩
end Go.Proofs.YtbkeaoplncaihaaDoor.Kd
