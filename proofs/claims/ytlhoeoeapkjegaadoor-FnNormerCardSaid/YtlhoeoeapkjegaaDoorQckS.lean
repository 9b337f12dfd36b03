/- QuickCheck of the specification. -/
import Derived.Test.YtlhoeoeapkjegaaDoorMQ
namespace Go.Proofs.YtlhoeoeapkjegaaDoor
open Go.RowKit
theorem secS (p : Int) (w : World) : Calls Tryd.prog 51 #[.int .i64 p] w fun e w' => e = .returned (.bool (isSec p)) ∧ w' = w := by
  rcases (show p < 1824 ∨ (1824 ≤ p ∧ p ≤ 1844) ∨ (1844 < p ∧ p < 1857) ∨ (1857 ≤ p ∧ p ≤ 1883) ∨ (1883 < p ∧ p < 4096) ∨ (4096 ≤ p ∧ p ≤ 4103) ∨ (4103 < p ∧ p < 4112) ∨ (4112 ≤ p ∧ p ≤ 4119) ∨ 4119 < p by omega) with h | ⟨h, h'⟩ | ⟨h, h'⟩ | ⟨h, h'⟩ | ⟨h, h'⟩ | ⟨h, h'⟩ | ⟨h, h'⟩ | ⟨h, h'⟩ | h
  all_goals
    go_enter Tryd.func51, Tryd.ntmps51
    go_wp2
    go_ret
    refine ⟨ret_bool ?_, rfl⟩
    unfold isSec
    first | exact decide_eq_decide.2 (by omega) | exact (decide_eq_true (by omega)).symm | exact (decide_eq_false (by omega)).symm | (rw [Bool.eq_iff_iff]; simp; omega)
/-- One step of the check. -/
theorem q_bad {f za zo p : Int} {l : List Int} (h : qS f l = some (za, zo)) (hb : (clsZ p ≠ 0 ∧ clsZ p < za) ∨ ownB f p = false) : qS f (l ++ [p]) = none := by
  rw [qS_snoc, h]
  show (if _ then _ else _) = _
  rw [if_pos hb]
theorem q_good {f za zo p : Int} {l : List Int} (h : qS f l = some (za, zo)) (hb : ¬ (clsZ p ≠ 0 ∧ clsZ p < za)) (ho : ownB f p = true) : qS f (l ++ [p]) = some (clsZ p, if isC f = true ∧ isSec p = true then 3 else zo) := by
  rw [qS_snoc, h]
  show (if _ then _ else _) = _
  rw [if_neg (by rintro (h | h); exact hb h; rw [ho] at h; cases h)]
theorem own_lit1 (W : World) (p : Int) : (W.alloc (.cells #[.int .i64 p] 2)).ownsRow W.heap.size 2 1 (.slice (some ⟨W.heap.size, 0, none⟩) 1 1) 1 ([p].map (Value.int .i64)) := World.ownsRow_lit W #[.int .i64 p] 1 (Nat.le_refl _) (by unfold maxLen; omega) rfl
end Go.Proofs.YtlhoeoeapkjegaaDoor
