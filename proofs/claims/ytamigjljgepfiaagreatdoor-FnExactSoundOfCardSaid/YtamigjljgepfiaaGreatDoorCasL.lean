/- The simple cases: the program and the specification tell of every number the same. -/
import Derived.Test.YtamigjljgepfiaaGreatDoorCasJ
import Derived.Test.YtamigjljgepfiaaGreatDoorCasS
namespace Go.Proofs.YtamigjljgepfiaaGreatDoor
namespace Cas
open Go.RowKit
set_option maxRecDepth 100000 in
theorem norow_any (p : Int) (w : World) (hp : ¬ pt p) : Calls Tryz.prog 59 #[.int .i64 p] w fun e w' => e = .returned (rowV (0, 0, 0)) ∧ Below w.heap.size w w' := by
  have C := hide (fun W => nopt_i p W hp)
  clear hp
  go_enter Tryz.func59, Tryz.ntmps59
  go_wp2_with (go_at_call 84; refine ((unhide C) _).mono ?_; rintro e w' ⟨rfl, rfl⟩)
  exact bodyPost_ret (v := .agg #[.int .i64 0, .int .i64 0, .int .i64 0]) (by simp [results, Tryz.results59, go_sem]) rfl ⟨rfl, below1 _ _⟩
def lowI (p : Int) : Int := if 0 ≤ p ∧ p ≤ 1114111 ∧ (p < 55296 ∨ 57343 < p) then lowS p else 0
def upI (p : Int) : Int := if 0 ≤ p ∧ p ≤ 1114111 ∧ (p < 55296 ∨ 57343 < p) then upS p else 0
theorem fieldC (x y z : Int) (w : World) : (Instr.field 80 (.agg #[.int .i64 x, .int .i64 y, .int .i64 z]) 2).run Tryz.prog w = .ok (.int .i64 z) w := by kernel_rfl
theorem fieldA (x y z : Int) (w : World) : (Instr.field 80 (.agg #[.int .i64 x, .int .i64 y, .int .i64 z]) 0).run Tryz.prog w = .ok (.int .i64 x) w := by kernel_rfl
set_option maxRecDepth 100000 in
theorem implLower (p : Int) (w : World) (ht : BlkAt w) : Calls Tryz.prog 34 #[.int .i64 p] w fun e w' => e = .returned (.int .i64 (lowI p)) ∧ Below w.heap.size w w' := by
  have f := fieldC
  by_cases hp : pt p
  · have HR := hide (show lowI p = lowS p from if_pos hp)
    have C := hide (fun W => caseRow_any p W hp)
    rw [row_is p hp.1] at C
    have H := hide ht
    clear ht hp
    unfold rowV at C
    simp only at C
    go_enter Tryz.func34, Tryz.ntmps34
    go_wp2_with (go_at_call 59; refine ((unhide C) _ (unhide H)).mono ?_; rintro e w' ⟨rfl, hb⟩)
    go_ret
    exact ⟨by rw [unhide HR]; rfl, hb⟩
  · have HR := hide (show lowI p = 0 from if_neg hp)
    have C := hide (fun W => norow_any p W hp)
    clear ht hp
    unfold rowV at C
    simp only at C
    go_enter Tryz.func34, Tryz.ntmps34
    go_wp2_with (go_at_call 59; refine ((unhide C) _).mono ?_; rintro e w' ⟨rfl, hb⟩)
    go_ret
    exact ⟨by rw [unhide HR]; rfl, hb⟩
end Cas
end Go.Proofs.YtamigjljgepfiaaGreatDoor
