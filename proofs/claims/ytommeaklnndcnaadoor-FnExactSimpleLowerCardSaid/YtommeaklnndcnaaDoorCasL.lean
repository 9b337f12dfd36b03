/- The simple cases: the program and the specification tell of every number the same. -/
import Derived.Test.YtommeaklnndcnaaDoorCasJ
import Derived.Test.YtommeaklnndcnaaDoorCasS
namespace Go.Proofs.YtommeaklnndcnaaDoor
namespace Cas
open Go.RowKit
set_option maxRecDepth 100000 in
theorem norow_any (p : Int) (w : World) (hp : ¬ pt p) : Calls Tryd.prog 87 #[.int .i64 p] w fun e w' => e = .returned (rowV (0, 0, 0)) ∧ Below w.heap.size w w' := by
  have C := hide (fun W => nopt_i p W hp)
  clear hp
  go_enter Tryd.func87, Tryd.ntmps87
  go_wp2_with (go_at_call 84; refine ((unhide C) _).mono ?_; rintro e w' ⟨rfl, rfl⟩)
  exact bodyPost_ret (v := .agg #[.int .i64 0, .int .i64 0, .int .i64 0]) (by simp [results, Tryd.results87, go_sem]) rfl ⟨rfl, below1 _ _⟩
def lowI (p : Int) : Int := if 0 ≤ p ∧ p ≤ 1114111 ∧ (p < 55296 ∨ 57343 < p) then lowS p else 0
def upI (p : Int) : Int := if 0 ≤ p ∧ p ≤ 1114111 ∧ (p < 55296 ∨ 57343 < p) then upS p else 0
theorem fieldC (x y z : Int) (w : World) : (Instr.field 96 (.agg #[.int .i64 x, .int .i64 y, .int .i64 z]) 2).run Tryd.prog w = .ok (.int .i64 z) w := by kernel_rfl
theorem fieldA (x y z : Int) (w : World) : (Instr.field 96 (.agg #[.int .i64 x, .int .i64 y, .int .i64 z]) 0).run Tryd.prog w = .ok (.int .i64 x) w := by kernel_rfl
set_option maxRecDepth 100000 in
theorem implLower (p : Int) (w : World) (ht : BlkAt w) : Calls Tryd.prog 44 #[.int .i64 p] w fun e w' => e = .returned (.int .i64 (lowI p)) ∧ Below w.heap.size w w' := by
  have f := fieldC
  by_cases hp : pt p
  · have HR := hide (show lowI p = lowS p from if_pos hp)
    have C := hide (fun W => caseRow_any p W hp)
    rw [row_is p hp.1] at C
    have H := hide ht
    clear ht hp
    unfold rowV at C
    simp only at C
    go_enter Tryd.func44, Tryd.ntmps44
    go_wp2_with (go_at_call 87; refine ((unhide C) _ (unhide H)).mono ?_; rintro e w' ⟨rfl, hb⟩)
    go_ret
    exact ⟨by rw [unhide HR]; rfl, hb⟩
  · have HR := hide (show lowI p = 0 from if_neg hp)
    have C := hide (fun W => norow_any p W hp)
    clear ht hp
    unfold rowV at C
    simp only at C
    go_enter Tryd.func44, Tryd.ntmps44
    go_wp2_with (go_at_call 87; refine ((unhide C) _).mono ?_; rintro e w' ⟨rfl, hb⟩)
    go_ret
    exact ⟨by rw [unhide HR]; rfl, hb⟩
set_option maxRecDepth 100000 in
theorem implUpper (p : Int) (w : World) (ht : BlkAt w) : Calls Tryd.prog 46 #[.int .i64 p] w fun e w' => e = .returned (.int .i64 (upI p)) ∧ Below w.heap.size w w' := by
  have f := fieldA
  by_cases hp : pt p
  · have HR := hide (show upI p = upS p from if_pos hp)
    have C := hide (fun W => caseRow_any p W hp)
    rw [row_is p hp.1] at C
    have H := hide ht
    clear ht hp
    unfold rowV at C
    simp only at C
    go_enter Tryd.func46, Tryd.ntmps46
    go_wp2_with (go_at_call 87; refine ((unhide C) _ (unhide H)).mono ?_; rintro e w' ⟨rfl, hb⟩)
    go_ret
    exact ⟨by rw [unhide HR]; rfl, hb⟩
  · have HR := hide (show upI p = 0 from if_neg hp)
    have C := hide (fun W => norow_any p W hp)
    clear ht hp
    unfold rowV at C
    simp only at C
    go_enter Tryd.func46, Tryd.ntmps46
    go_wp2_with (go_at_call 87; refine ((unhide C) _).mono ?_; rintro e w' ⟨rfl, hb⟩)
    go_ret
    exact ⟨by rw [unhide HR]; rfl, hb⟩
set_option maxRecDepth 100000 in
theorem specLower (p : Int) (w : World) : Calls Tryd.prog 43 #[.int .i64 p] w fun e w' => e = .returned (.int .i64 (lowI p)) ∧ Below w.heap.size w w' := by
  by_cases hp : pt p
  · have HR := hide (show lowI p = lowS p from if_pos hp)
    have C := hide (fun W => lower_any p W hp.1 hp.2.1)
    have CP := hide (fun W => ispt_s p W hp)
    clear hp
    go_enter Tryd.func43, Tryd.ntmps43
    go_wp2_with (first | (go_at_call 91; refine ((unhide CP) _).mono ?_; rintro e w' ⟨rfl, rfl⟩) | (go_at_call 103; refine ((unhide C) _).mono ?_; rintro e w' ⟨rfl, hb⟩))
    go_ret
    exact ⟨by rw [unhide HR]; rfl, hb⟩
  · have HR := hide (show lowI p = 0 from if_neg hp)
    have CP := hide (fun W => nopt_s p W hp)
    clear hp
    go_enter Tryd.func43, Tryd.ntmps43
    go_wp2_with (go_at_call 91; refine ((unhide CP) _).mono ?_; rintro e w' ⟨rfl, rfl⟩)
    go_ret
    exact ⟨by rw [unhide HR]; rfl, Below.refl _ _⟩
set_option maxRecDepth 100000 in
theorem specUpper (p : Int) (w : World) : Calls Tryd.prog 45 #[.int .i64 p] w fun e w' => e = .returned (.int .i64 (upI p)) ∧ Below w.heap.size w w' := by
  by_cases hp : pt p
  · have HR := hide (show upI p = upS p from if_pos hp)
    have C := hide (fun W => up_any p W hp.1 hp.2.1)
    have CP := hide (fun W => ispt_s p W hp)
    clear hp
    go_enter Tryd.func45, Tryd.ntmps45
    go_wp2_with (first | (go_at_call 91; refine ((unhide CP) _).mono ?_; rintro e w' ⟨rfl, rfl⟩) | (go_at_call 104; refine ((unhide C) _).mono ?_; rintro e w' ⟨rfl, hb⟩))
    go_ret
    exact ⟨by rw [unhide HR]; rfl, hb⟩
  · have HR := hide (show upI p = 0 from if_neg hp)
    have CP := hide (fun W => nopt_s p W hp)
    clear hp
    go_enter Tryd.func45, Tryd.ntmps45
    go_wp2_with (go_at_call 91; refine ((unhide CP) _).mono ?_; rintro e w' ⟨rfl, rfl⟩)
    go_ret
    exact ⟨by rw [unhide HR]; rfl, Below.refl _ _⟩
set_option maxRecDepth 100000 in
theorem lawLower (p : Int) (w : World) (ht : BlkAt w) : Calls Tryd.prog 6 #[.int .i64 p] w fun e w' => e = .returned (.bool true) ∧ Below w.heap.size w w' := by
  have H := hide ht
  clear ht
  have hne : (lowI p != lowI p) = false := by simp
  go_enter Tryd.func6, Tryd.ntmps6
  go_wp2_with (first | (go_at_call 43; refine (specLower p _).mono ?_; rintro e w2 ⟨rfl, hb2⟩; have B2 := hide hb2; clear hb2) | (go_at_call 44; refine (implLower p _ ((unhide H).below (unhide B2))).mono ?_; rintro e w3 ⟨rfl, hb3⟩; have B3 := hide hb3; clear hb3))
  go_ret
  exact ⟨rfl, (unhide B2).trans ((unhide B3).mono (unhide B2).size)⟩
set_option maxRecDepth 100000 in
theorem lawUpper (p : Int) (w : World) (ht : BlkAt w) : Calls Tryd.prog 7 #[.int .i64 p] w fun e w' => e = .returned (.bool true) ∧ Below w.heap.size w w' := by
  have H := hide ht
  clear ht
  have hne : (upI p != upI p) = false := by simp
  go_enter Tryd.func7, Tryd.ntmps7
  go_wp2_with (first | (go_at_call 45; refine (specUpper p _).mono ?_; rintro e w2 ⟨rfl, hb2⟩; have B2 := hide hb2; clear hb2) | (go_at_call 46; refine (implUpper p _ ((unhide H).below (unhide B2))).mono ?_; rintro e w3 ⟨rfl, hb3⟩; have B3 := hide hb3; clear hb3))
  go_ret
  exact ⟨rfl, (unhide B2).trans ((unhide B3).mono (unhide B2).size)⟩
end Cas
end Go.Proofs.YtommeaklnndcnaaDoor
