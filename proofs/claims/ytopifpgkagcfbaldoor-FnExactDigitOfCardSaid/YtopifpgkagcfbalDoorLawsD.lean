/- The laws of Script, Age, DigitOf and Strokes return true wherever the table lies as its text lays it. -/
import Derived.Test.YtopifpgkagcfbalDoorScript
namespace Go.Proofs.YtopifpgkagcfbalDoor
open Go.RowKit
theorem specScript (p : Int) (w : World) : Calls Tryd.prog 7 #[.int .i64 p] w fun e w' => e = .returned (.int .i64 (known p).2) ∧ Below w.heap.size w w' := by
  go_enter Tryd.func7, Tryd.ntmps7
  go_wp2_with (go_at_call 15; refine (specScr p _).mono ?_; rintro e w' ⟨rfl, hb⟩)
  go_ret
  exact ⟨rfl, hb⟩
theorem lawScript (p : Int) (w : World) (ht : TabAt w) : Calls Tryd.prog 3 #[.int .i64 p] w fun e w' => e = .returned (.bool true) ∧ Below w.heap.size w w' := by
  have hne : (scrI p != (known p).2) = false := by rw [(fine p).2.1]; simp
  have H := hide ht
  clear ht
  go_enter Tryd.func3, Tryd.ntmps3
  go_wp2_with (first | (go_at_call 7; refine (specScript p _).mono ?_; rintro e w1 ⟨rfl, hb⟩) | (go_at_call 8; refine (implScr p _ ((unhide H).below hb)).mono ?_; rintro e w2 ⟨rfl, hb2⟩))
  go_ret
  exact ⟨rfl, hb.trans (hb2.mono hb.size)⟩
def ageOf (c p : Int) : Int := if c = 0 then 0 else if p < 4096 then 1 else if p < 12288 then 2 else if p < 24576 then 3 else 4
theorem implAge (p : Int) (w : World) (ht : TabAt w) : Calls Tryd.prog 10 #[.int .i64 p] w fun e w' => e = .returned (.int .i64 (ageOf (catI p) p)) ∧ Below w.heap.size w w' := by
  have H := hide ht
  clear ht
  by_cases c : catI p = 0
  · have c' : (catI p == 0) = true := by simpa using c
    have HC := hide c
    clear c
    go_enter Tryd.func10, Tryd.ntmps10
    go_wp2_with (go_at_call 19; refine (implCat p _ (unhide H)).mono ?_; rintro e w' ⟨rfl, hb⟩)
    go_ret
    exact ⟨ret_int (by unfold ageOf; rw [if_pos (unhide HC)]), hb⟩
  · have c' : (catI p == 0) = false := by simpa using c
    have HC := hide c
    clear c
    have hp : p < 4096 ∨ (4096 ≤ p ∧ p < 12288) ∨ (12288 ≤ p ∧ p < 24576) ∨ 24576 ≤ p := by omega
    rcases hp with h | ⟨g, h⟩ | ⟨g, h⟩ | h
    all_goals
      go_enter Tryd.func10, Tryd.ntmps10
      go_wp2_with (go_at_call 19; refine (implCat p _ (unhide H)).mono ?_; rintro e w' ⟨rfl, hb⟩)
      go_ret
      refine ⟨ret_int ?_, hb⟩
      unfold ageOf
      rw [if_neg (unhide HC)]
      repeat (first | rw [if_pos (by omega)] | rw [if_neg (by omega)])
theorem specL01Age (p : Int) (w : World) : Calls Tryd.prog 18 #[.int .i64 p] w fun e w' => e = .returned (.int .i64 (ageOf (known p).1 p)) ∧ Below w.heap.size w w' := by
  by_cases c : (known p).1 = 0
  · have c' : ((known p).1 == 0) = true := by simpa using c
    have HC := hide c
    clear c
    go_enter Tryd.func18, Tryd.ntmps18
    go_wp2_with (go_at_call 20; refine (specCat p _).mono ?_; rintro e w' ⟨rfl, hb⟩)
    go_ret
    exact ⟨ret_int (by unfold ageOf; rw [if_pos (unhide HC)]), hb⟩
  · have c' : ((known p).1 == 0) = false := by simpa using c
    have HC := hide c
    clear c
    have hp : p < 4096 ∨ (4096 ≤ p ∧ p < 12288) ∨ (12288 ≤ p ∧ p < 24576) ∨ 24576 ≤ p := by omega
    rcases hp with h | ⟨g, h⟩ | ⟨g, h⟩ | h
    all_goals
      go_enter Tryd.func18, Tryd.ntmps18
      go_wp2_with (go_at_call 20; refine (specCat p _).mono ?_; rintro e w' ⟨rfl, hb⟩)
      go_ret
      refine ⟨ret_int ?_, hb⟩
      unfold ageOf
      rw [if_neg (unhide HC)]
      repeat (first | rw [if_pos (by omega)] | rw [if_neg (by omega)])
theorem specAge (p : Int) (w : World) : Calls Tryd.prog 9 #[.int .i64 p] w fun e w' => e = .returned (.int .i64 (ageOf (known p).1 p)) ∧ Below w.heap.size w w' := by
  go_enter Tryd.func9, Tryd.ntmps9
  go_wp2_with (go_at_call 18; refine (specL01Age p _).mono ?_; rintro e w' ⟨rfl, hb⟩)
  go_ret
  exact ⟨rfl, hb⟩
theorem lawAge (p : Int) (w : World) (ht : TabAt w) : Calls Tryd.prog 4 #[.int .i64 p] w fun e w' => e = .returned (.bool true) ∧ Below w.heap.size w w' := by
  have hne : (ageOf (catI p) p != ageOf (known p).1 p) = false := by rw [(fine p).1]; simp
  have H := hide ht
  clear ht
  go_enter Tryd.func4, Tryd.ntmps4
  go_wp2_with (first | (go_at_call 9; refine (specAge p _).mono ?_; rintro e w1 ⟨rfl, hb⟩) | (go_at_call 10; refine (implAge p _ ((unhide H).below hb)).mono ?_; rintro e w2 ⟨rfl, hb2⟩))
  go_ret
  exact ⟨rfl, hb.trans (hb2.mono hb.size)⟩
def digOf (p : Int) : Int := if catI p = 8 then p % 16 % 10 else -1
theorem implDig (p : Int) (w : World) (ht : TabAt w) : Calls Tryd.prog 12 #[.int .i64 p] w fun e w' => e = .returned (.int .i64 (digOf p)) ∧ Below w.heap.size w w' := by
  have H := hide ht
  clear ht
  have hbd := row_bd (twin p)
  have hF : rowF (twin p) = (rowOf (twin p)).1 := rfl
  have f0 : 0 ≤ rowF (twin p) := by omega
  have f1 : rowF (twin p) ≤ 65535 := by omega
  clear hbd
  have hC : catI p = rowC (twin p) := rfl
  by_cases c : catI p = 8
  · have hd := ((fine p).2.2.1 c).1
    rw [← hF] at hd
    have d0 : 0 ≤ twin p - rowF (twin p) := by omega
    have d1 : twin p - rowF (twin p) ≤ 9 := by omega
    have c' : (rowC (twin p) != 8) = false := by rw [← hC, c]; decide
    have HD := hide hd
    have HC := hide c
    clear hd hF hC c
    go_enter Tryd.func12, Tryd.ntmps12
    go_wp2_with (first | (go_at_call 16; refine (twin_any p _).mono ?_; rintro e w' ⟨rfl, rfl⟩) | (go_at_call 17; refine (row_any (twin p) _ (unhide H)).mono ?_; rintro e w' ⟨rfl, hb⟩))
    go_ret
    exact ⟨ret_int (by unfold digOf; rw [if_pos (unhide HC)]; exact unhide HD), hb.alloc hb.size _⟩
  · have c' : (rowC (twin p) != 8) = true := by rw [← hC]; simpa using c
    have HC := hide c
    clear hF hC c
    go_enter Tryd.func12, Tryd.ntmps12
    go_wp2_with (first | (go_at_call 16; refine (twin_any p _).mono ?_; rintro e w' ⟨rfl, rfl⟩) | (go_at_call 17; refine (row_any (twin p) _ (unhide H)).mono ?_; rintro e w' ⟨rfl, hb⟩))
    go_ret
    exact ⟨ret_int (by unfold digOf; rw [if_neg (unhide HC)]), hb.alloc hb.size _⟩
theorem specDig (p : Int) (w : World) : Calls Tryd.prog 11 #[.int .i64 p] w fun e w' => e = .returned (.int .i64 (digOf p)) ∧ Below w.heap.size w w' := by
  have hk := (fine p).1
  by_cases c : catI p = 8
  · have hp := ((fine p).2.2.1 c).2
    have c' : ((known p).1 != 8) = false := by rw [← hk, c]; decide
    have HC := hide c
    clear hk c
    go_enter Tryd.func11, Tryd.ntmps11
    go_wp2_with (go_at_call 20; refine (specCat p _).mono ?_; rintro e w' ⟨rfl, hb⟩)
    go_ret
    exact ⟨ret_int (by unfold digOf; rw [if_pos (unhide HC)]), hb⟩
  · have c' : ((known p).1 != 8) = true := by rw [← hk]; simpa using c
    have HC := hide c
    clear hk c
    go_enter Tryd.func11, Tryd.ntmps11
    go_wp2_with (go_at_call 20; refine (specCat p _).mono ?_; rintro e w' ⟨rfl, hb⟩)
    go_ret
    exact ⟨ret_int (by unfold digOf; rw [if_neg (unhide HC)]), hb⟩
theorem lawDigitOf (p : Int) (w : World) (ht : TabAt w) : Calls Tryd.prog 5 #[.int .i64 p] w fun e w' => e = .returned (.bool true) ∧ Below w.heap.size w w' := by
  have H := hide ht
  clear ht
  go_enter Tryd.func5, Tryd.ntmps5
  go_wp2_with (first | (go_at_call 11; refine (specDig p _).mono ?_; rintro e w1 ⟨rfl, hb⟩) | (go_at_call 12; refine (implDig p _ ((unhide H).below hb)).mono ?_; rintro e w2 ⟨rfl, hb2⟩))
  go_ret
  exact ⟨rfl, hb.trans (hb2.mono hb.size)⟩
def stroOf (p : Int) : Int := if 24576 ≤ p ∧ p ≤ 26623 then 1 + p % 24 else 0
theorem implStro (p : Int) (w : World) (ht : TabAt w) : Calls Tryd.prog 14 #[.int .i64 p] w fun e w' => e = .returned (.int .i64 (stroOf p)) ∧ Below w.heap.size w w' := by
  have H := hide ht
  clear ht
  have hf := (fine p).2.2.2
  by_cases c : scrI p = 9
  · have hp := hf.1 c
    have hp1 := hp.1
    have hp2 := hp.2
    have c' : (scrI p != 9) = false := by rw [c]; decide
    clear hf hp c
    go_enter Tryd.func14, Tryd.ntmps14
    go_wp2_with (go_at_call 8; refine (implScr p _ (unhide H)).mono ?_; rintro e w' ⟨rfl, hb⟩)
    go_ret
    exact ⟨ret_int (by unfold stroOf; rw [if_pos ⟨hp1, hp2⟩]), hb⟩
  · have c' : (scrI p != 9) = true := by simpa using c
    have HN := hide (fun h => c (hf.2 h))
    clear hf c
    go_enter Tryd.func14, Tryd.ntmps14
    go_wp2_with (go_at_call 8; refine (implScr p _ (unhide H)).mono ?_; rintro e w' ⟨rfl, hb⟩)
    go_ret
    exact ⟨ret_int (by unfold stroOf; rw [if_neg (unhide HN)]), hb⟩
theorem specStro (p : Int) (w : World) : Calls Tryd.prog 13 #[.int .i64 p] w fun e w' => e = .returned (.int .i64 (stroOf p)) ∧ Below w.heap.size w w' := by
  by_cases h1 : p < 24576
  · go_enter Tryd.func13, Tryd.ntmps13
    go_wp2
    go_ret
    exact ⟨ret_int (by unfold stroOf; rw [if_neg (by omega)]), Below.refl _ _⟩
  · by_cases h2 : 26623 < p
    · go_enter Tryd.func13, Tryd.ntmps13
      go_wp2
      go_ret
      exact ⟨ret_int (by unfold stroOf; rw [if_neg (by omega)]), Below.refl _ _⟩
    · go_enter Tryd.func13, Tryd.ntmps13
      go_wp2
      go_ret
      exact ⟨ret_int (by unfold stroOf; rw [if_pos (by omega)]), Below.refl _ _⟩
theorem lawStrokes (p : Int) (w : World) (ht : TabAt w) : Calls Tryd.prog 6 #[.int .i64 p] w fun e w' => e = .returned (.bool true) ∧ Below w.heap.size w w' := by
  have H := hide ht
  clear ht
  go_enter Tryd.func6, Tryd.ntmps6
  go_wp2_with (first | (go_at_call 13; refine (specStro p _).mono ?_; rintro e w1 ⟨rfl, hb⟩) | (go_at_call 14; refine (implStro p _ ((unhide H).below hb)).mono ?_; rintro e w2 ⟨rfl, hb2⟩))
  go_ret
  exact ⟨rfl, hb.trans (hb2.mono hb.size)⟩
end Go.Proofs.YtopifpgkagcfbalDoor
