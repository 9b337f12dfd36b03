/- Case, as the program tells it: the row of a point, wherever the blocks lie as their text lays them. -/
import Derived.Test.YteimckgnecmkkaaDoorCasI
import Derived.Test.YteimckgnecmkkaaDoorStpC
namespace Go.Proofs.YteimckgnecmkkaaDoor
namespace Cas
open Go.RowKit
theorem ret_int {k : IntKind} {a b : Int} (h : a = b) : Ending.returned (.int k a) = .returned (.int k b) := by rw [h]
set_option maxRecDepth 100000 in
theorem tw_any (p : Int) (w : World) : Calls Tryd.prog 13 #[.int .i64 p] w fun e w' => e = .returned (.int .i64 (tw p)) ∧ w' = w := by
  by_cases h1 : 768 ≤ p
  · by_cases h2 : p < 1280
    · go_enter Tryd.func13, Tryd.ntmps13
      go_wp2
      go_ret
      exact ⟨ret_int (by unfold tw; rw [if_pos ⟨h1, h2⟩]), rfl⟩
    · go_enter Tryd.func13, Tryd.ntmps13
      go_wp2
      go_ret
      exact ⟨ret_int (by unfold tw; rw [if_neg (by omega)]), rfl⟩
  · go_enter Tryd.func13, Tryd.ntmps13
    go_wp2
    go_ret
    exact ⟨ret_int (by unfold tw; rw [if_neg (by omega)]), rfl⟩
theorem tw_bd {p : Int} (h0 : 0 ≤ p) (h1 : p ≤ 1114111) : 0 ≤ tw p ∧ tw p ≤ 1114111 ∧ tw p ≤ p := by unfold tw; split <;> omega
theorem wrap_in (x : Int) (h0 : -9223372036854775808 ≤ x) (h1 : x ≤ 9223372036854775807) : wrap64 x = x := by unfold wrap64; omega
set_option maxRecDepth 100000 in
theorem inScript_any (p x : Int) (w : World) (h0 : 0 ≤ p) (h1 : p ≤ 1114111) (x0 : -65535 ≤ x) (x1 : x ≤ 1200000) : Calls Tryd.prog 14 #[.int .i64 p, .int .i64 x] w fun e w' => e = .returned (.int .i64 (x + p - tw p)) ∧ w' = w := by
  obtain ⟨b0, b1, b2⟩ := tw_bd h0 h1
  go_enter Tryd.func14, Tryd.ntmps14
  go_wp2_with (go_at_call 13; refine (tw_any _ _).mono ?_; rintro e w' ⟨rfl, rfl⟩)
  go_ret
  exact ⟨rfl, rfl⟩
theorem bdrewC {B : Nat} {a w : World} (h : Below B a w) : Below B a w.drew := h.trans ⟨rfl, rfl, rfl, Nat.le_refl _, fun _ _ => rfl⟩
def In (x : Int) : Prop := -65535 ≤ x ∧ x ≤ 1200000
theorem ret_mv (p q x y z : Int) : (Ending.returned (.agg #[.int .i64 (x + p - q), .int .i64 (y + p - q), .int .i64 (z + p - q)]) : Ending) = .returned (rowV (mv p q (x, y, z))) := rfl
set_option maxRecDepth 100000 in
set_option maxHeartbeats 1000000 in
theorem rowIn_any (p x y z : Int) (w : World) (h0 : 0 ≤ p) (h1 : p ≤ 1114111) (hx : In x) (hy : In y) (hz : In z) : Calls Tryd.prog 22 #[rowV (x, y, z), .int .i64 p] w fun e w' => e = .returned (rowV (mv p (tw p) (x, y, z))) ∧ Below w.heap.size w w' := by
  obtain ⟨b0, b1, b2⟩ := tw_bd h0 h1
  have C1 := hide (fun w => inScript_any p x w h0 h1 hx.1 hx.2)
  have C2 := hide (fun w => inScript_any p y w h0 h1 hy.1 hy.2)
  have C3 := hide (fun w => inScript_any p z w h0 h1 hz.1 hz.2)
  clear hx hy hz h0 h1 b0 b1 b2
  unfold rowV
  simp only
  go_enter Tryd.func22, Tryd.ntmps22
  go_wp2_with fail
  go_region_law (first | (refine step_call rfl 14 #[.tmp 5, .tmp 7] #[2, 2] rfl #[.int .i64 p, .int .i64 x] (by simp [Act.eval]) (by kernel_rfl) (((unhide C1) _).mono ?_); rintro e w1 ⟨rfl, rfl⟩; refine ⟨_, rfl, ?_⟩) | (refine step_call rfl 14 #[.tmp 9, .tmp 11] #[2, 2] rfl #[.int .i64 p, .int .i64 y] (by simp [Act.eval]) (by kernel_rfl) (((unhide C2) _).mono ?_); rintro e w1 ⟨rfl, rfl⟩; refine ⟨_, rfl, ?_⟩) | (refine step_call rfl 14 #[.tmp 13, .tmp 15] #[2, 2] rfl #[.int .i64 p, .int .i64 z] (by simp [Act.eval]) (by kernel_rfl) (((unhide C3) _).mono ?_); rintro e w1 ⟨rfl, rfl⟩; refine ⟨_, rfl, ?_⟩))
  all_goals go_wp2
  all_goals
    exact bodyPost_ret (v := .agg #[.int .i64 (x + p - tw p), .int .i64 (y + p - tw p), .int .i64 (z + p - tw p)]) (by simp [results, Tryd.results22, go_sem]) rfl ⟨rfl, by first | exact bdrewC (below2 _ _ _) | exact below2 _ _ _⟩
end Cas
end Go.Proofs.YteimckgnecmkkaaDoor
