/- Several texts in one. -/
import Derived.Test.YtecbbifepbgmlaaDoorCasP
import Derived.Test.YtecbbifepbgmlaaDoorRows
import Derived.WalkKit
import Derived.WalkLawsBesides
import Derived.WalkSpells
import Derived.Below
import Derived.Test.YtecbbifepbgmlaaDoorStpC
/- Case, as the program tells it: a block's row, the lone letters, a row moved to a script. -/
namespace Go.Proofs.YtecbbifepbgmlaaDoor
namespace Cas
open Go.RowKit
theorem hide {p : Prop} (h : p) : Hid p := h
theorem unhide {p : Prop} (h : Hid p) : p := h
def A1 (b : B4) (q : Int) : Prop := b.1 ≤ q ∧ q ≤ b.1 + b.2.1 - 1
def A2 (b : B4) (q : Int) : Prop := b.1 ≤ q - b.2.2.1 ∧ q - b.2.2.1 ≤ b.1 + b.2.1 - 1
def A3 (b : B4) (q : Int) : Prop := b.1 ≤ q - b.2.2.2 ∧ q - b.2.2.2 ≤ b.1 + b.2.1 - 1
theorem blk1 {b : B4} {q : Int} (h : A1 b q) : blkRow b q = some (q, q + b.2.2.1, q + b.2.2.2) := if_pos h
theorem blk2 {b : B4} {q : Int} (h : ¬ A1 b q) (h2 : A2 b q) : blkRow b q = some (q - b.2.2.1, q - b.2.2.1 + b.2.2.1, q - b.2.2.1 + b.2.2.2) := (if_neg h).trans (if_pos h2)
theorem blk3 {b : B4} {q : Int} (h : ¬ A1 b q) (h2 : ¬ A2 b q) (h3 : A3 b q) : blkRow b q = some (q - b.2.2.2, q - b.2.2.2 + b.2.2.1, q - b.2.2.2 + b.2.2.2) := (if_neg h).trans ((if_neg h2).trans (if_pos h3))
theorem blk0 {b : B4} {q : Int} (h : ¬ A1 b q) (h2 : ¬ A2 b q) (h3 : ¬ A3 b q) : blkRow b q = none := (if_neg h).trans ((if_neg h2).trans (if_neg h3))
set_option maxRecDepth 100000 in
theorem cw_t (p a b : Int) (w : World) (h : a ≤ p ∧ p ≤ b) : Calls Tryd.prog 31 #[.int .i64 p, .int .i64 a, .int .i64 b] w fun e w' => e = .returned (.bool true) ∧ w' = w := by
  obtain ⟨h1, h2⟩ := h
  go_enter Tryd.func31, Tryd.ntmps31
  go_wp2
  go_ret
  exact ⟨rfl, rfl⟩
set_option maxRecDepth 100000 in
theorem cw_f (p a b : Int) (w : World) (h : ¬ (a ≤ p ∧ p ≤ b)) : Calls Tryd.prog 31 #[.int .i64 p, .int .i64 a, .int .i64 b] w fun e w' => e = .returned (.bool false) ∧ w' = w := by
  by_cases h1 : a ≤ p
  · have h2 : ¬ p ≤ b := fun h2 => h ⟨h1, h2⟩
    clear h
    go_enter Tryd.func31, Tryd.ntmps31
    go_wp2
    go_ret
    exact ⟨rfl, rfl⟩
  · clear h
    go_enter Tryd.func31, Tryd.ntmps31
    go_wp2
    go_ret
    exact ⟨rfl, rfl⟩
theorem below1 (w : World) (a : Obj) : Below w.heap.size w (w.alloc a) := (Below.refl _ _).alloc (Nat.le_refl _) _
theorem below2 (w : World) (a b : Obj) : Below w.heap.size w ((w.alloc a).alloc b) := ((Below.refl _ _).alloc (Nat.le_refl _) _).alloc (by simp) _
def rowV (r : Int × Int × Int) : Value := .agg #[.int .i64 r.1, .int .i64 r.2.1, .int .i64 r.2.2]
def blkV (b : B4) : Value := .agg #[.int .i64 b.1, .int .i64 b.2.1, .int .i64 b.2.2.1, .int .i64 b.2.2.2]
def Sm (b : B4) : Prop := 0 ≤ b.1 ∧ b.1 ≤ 65535 ∧ 0 ≤ b.2.1 ∧ b.2.1 ≤ 65535 ∧ 0 ≤ b.2.2.1 ∧ b.2.2.1 ≤ 65535 ∧ 0 ≤ b.2.2.2 ∧ b.2.2.2 ≤ 65535
theorem ret_row {o : Option (Int × Int × Int)} {x y z : Int} (h : o = some (x, y, z)) : (Ending.returned (.tuple #[.agg #[.int .i64 x, .int .i64 y, .int .i64 z], .bool true]) : Ending) = .returned (.tuple #[rowV (o.getD (0, 0, 0)), .bool o.isSome]) := by rw [h]; rfl
theorem ret_norow {o : Option (Int × Int × Int)} (h : o = none) : (Ending.returned (.tuple #[.agg #[.int .i64 0, .int .i64 0, .int .i64 0], .bool false]) : Ending) = .returned (.tuple #[rowV (o.getD (0, 0, 0)), .bool o.isSome]) := by rw [h]; rfl
set_option maxRecDepth 100000 in
set_option maxHeartbeats 2000000 in
theorem blk_any (b : B4) (q : Int) (w : World) (hb : Sm b) (hq : 0 ≤ q ∧ q ≤ 1114111) : Calls Tryd.prog 28 #[blkV b, .int .i64 q] w fun e w' =>
    e = .returned (.tuple #[rowV ((blkRow b q).getD (0, 0, 0)), .bool (blkRow b q).isSome]) ∧ ∃ o, w' = (w.alloc (.cells #[.int .i64 b.1, .int .i64 b.2.1, .int .i64 b.2.2.1, .int .i64 b.2.2.2] 47)).alloc o := by
  obtain ⟨f, c, t, l⟩ := b
  obtain ⟨f0, f1, c0, c1, t0, t1, l0, l1⟩ := hb
  simp only at f0 f1 c0 c1 t0 t1 l0 l1
  unfold blkV
  simp only
  obtain ⟨q0, q1⟩ := hq
  have ix0 : ∀ w, (Instr.index 57 (.agg #[.int .i64 0, .int .i64 t, .int .i64 l]) (.int .i64 0)).run Tryd.prog w = .ok (.int .i64 0) w := fun _ => by kernel_rfl
  have ix1 : ∀ w, (Instr.index 57 (.agg #[.int .i64 0, .int .i64 t, .int .i64 l]) (.int .i64 1)).run Tryd.prog w = .ok (.int .i64 t) w := fun _ => by kernel_rfl
  have ix2 : ∀ w, (Instr.index 57 (.agg #[.int .i64 0, .int .i64 t, .int .i64 l]) (.int .i64 2)).run Tryd.prog w = .ok (.int .i64 l) w := fun _ => by kernel_rfl
  go_enter Tryd.func28, Tryd.ntmps28
  go_wp2
  go_loop [14] (fun x => ∃ i : Nat, x = .int .i64 i ∧ Hid (i = 0 ∨ (i = 1 ∧ ¬ A1 (f, c, t, l) q) ∨ (i = 2 ∧ ¬ A1 (f, c, t, l) q ∧ ¬ A2 (f, c, t, l) q) ∨ (i = 3 ∧ ¬ A1 (f, c, t, l) q ∧ ¬ A2 (f, c, t, l) q ∧ ¬ A3 (f, c, t, l) q))) (fun x => 3 - (intOf x).toNat)
  case atStart => exact ⟨0, rfl, hide (.inl rfl)⟩
  case round =>
    obtain ⟨i, rfl, hi⟩ := hrel
    rcases unhide hi with rfl | ⟨rfl, n1⟩ | ⟨rfl, n1, n2⟩ | ⟨rfl, n1, n2, n3⟩
    · clear hi
      by_cases h : A1 (f, c, t, l) q
      · have HR := hide (blk1 h)
        go_wp2_with (go_at_call 31; refine (cw_t _ _ _ _ h).mono ?_; rintro e w' ⟨rfl, rfl⟩)
        exact bodyPost_ret (v := .tuple #[.agg #[.int .i64 q, .int .i64 (q + t), .int .i64 (q + l)], .bool true]) (by simp [results, Tryd.results28, go_sem]) rfl ⟨ret_row (unhide HR), _, rfl⟩
      · go_wp2_with (go_at_call 31; refine (cw_f _ _ _ _ h).mono ?_; rintro e w' ⟨rfl, rfl⟩)
        go_round
        case rel => exact ⟨1, by go_num, hide (.inr (.inl ⟨rfl, h⟩))⟩
        case measure => simp [intOf]
    · clear hi
      by_cases h : A2 (f, c, t, l) q
      · have HR := hide (blk2 n1 h)
        go_wp2_with (go_at_call 31; refine (cw_t _ _ _ _ h).mono ?_; rintro e w' ⟨rfl, rfl⟩)
        exact bodyPost_ret (v := .tuple #[.agg #[.int .i64 (q - t), .int .i64 (q - t + t), .int .i64 (q - t + l)], .bool true]) (by simp [results, Tryd.results28, go_sem]) rfl ⟨ret_row (unhide HR), _, rfl⟩
      · go_wp2_with (go_at_call 31; refine (cw_f _ _ _ _ h).mono ?_; rintro e w' ⟨rfl, rfl⟩)
        go_round
        case rel => exact ⟨2, by go_num, hide (.inr (.inr (.inl ⟨rfl, n1, h⟩)))⟩
        case measure => simp [intOf]
    · clear hi
      by_cases h : A3 (f, c, t, l) q
      · have HR := hide (blk3 n1 n2 h)
        go_wp2_with (go_at_call 31; refine (cw_t _ _ _ _ h).mono ?_; rintro e w' ⟨rfl, rfl⟩)
        exact bodyPost_ret (v := .tuple #[.agg #[.int .i64 (q - l), .int .i64 (q - l + t), .int .i64 (q - l + l)], .bool true]) (by simp [results, Tryd.results28, go_sem]) rfl ⟨ret_row (unhide HR), _, rfl⟩
      · go_wp2_with (go_at_call 31; refine (cw_f _ _ _ _ h).mono ?_; rintro e w' ⟨rfl, rfl⟩)
        go_round
        case rel => exact ⟨3, by go_num, hide (.inr (.inr (.inr ⟨rfl, n1, n2, h⟩)))⟩
        case measure => simp [intOf]
    · clear hi
      have HR := hide (blk0 n1 n2 n3)
      go_wp2
      exact bodyPost_ret (v := .tuple #[.agg #[.int .i64 0, .int .i64 0, .int .i64 0], .bool false]) (by simp [results, Tryd.results28, go_sem]) rfl ⟨ret_norow (unhide HR), _, rfl⟩
end Cas
end Go.Proofs.YtecbbifepbgmlaaDoor
/- Case, as the program tells it: the row of a point, wherever the blocks lie as their text lays them. -/
namespace Go.Proofs.YtecbbifepbgmlaaDoor
namespace Cas
open Go.RowKit
theorem ret_int {k : IntKind} {a b : Int} (h : a = b) : Ending.returned (.int k a) = .returned (.int k b) := by rw [h]
set_option maxRecDepth 100000 in
theorem tw_any (p : Int) (w : World) : Calls Tryd.prog 14 #[.int .i64 p] w fun e w' => e = .returned (.int .i64 (tw p)) ∧ w' = w := by
  by_cases h1 : 768 ≤ p
  · by_cases h2 : p < 1280
    · go_enter Tryd.func14, Tryd.ntmps14
      go_wp2
      go_ret
      exact ⟨ret_int (by unfold tw; rw [if_pos ⟨h1, h2⟩]), rfl⟩
    · go_enter Tryd.func14, Tryd.ntmps14
      go_wp2
      go_ret
      exact ⟨ret_int (by unfold tw; rw [if_neg (by omega)]), rfl⟩
  · go_enter Tryd.func14, Tryd.ntmps14
    go_wp2
    go_ret
    exact ⟨ret_int (by unfold tw; rw [if_neg (by omega)]), rfl⟩
theorem tw_bd {p : Int} (h0 : 0 ≤ p) (h1 : p ≤ 1114111) : 0 ≤ tw p ∧ tw p ≤ 1114111 ∧ tw p ≤ p := by unfold tw; split <;> omega
theorem wrap_in (x : Int) (h0 : -9223372036854775808 ≤ x) (h1 : x ≤ 9223372036854775807) : wrap64 x = x := by unfold wrap64; omega
set_option maxRecDepth 100000 in
theorem inScript_any (p x : Int) (w : World) (h0 : 0 ≤ p) (h1 : p ≤ 1114111) (x0 : -65535 ≤ x) (x1 : x ≤ 1200000) : Calls Tryd.prog 15 #[.int .i64 p, .int .i64 x] w fun e w' => e = .returned (.int .i64 (x + p - tw p)) ∧ w' = w := by
  obtain ⟨b0, b1, b2⟩ := tw_bd h0 h1
  go_enter Tryd.func15, Tryd.ntmps15
  go_wp2_with (go_at_call 14; refine (tw_any _ _).mono ?_; rintro e w' ⟨rfl, rfl⟩)
  go_ret
  exact ⟨rfl, rfl⟩
theorem bdrewC {B : Nat} {a w : World} (h : Below B a w) : Below B a w.drew := h.trans ⟨rfl, rfl, rfl, Nat.le_refl _, fun _ _ => rfl⟩
def In (x : Int) : Prop := -65535 ≤ x ∧ x ≤ 1200000
theorem ret_mv (p q x y z : Int) : (Ending.returned (.agg #[.int .i64 (x + p - q), .int .i64 (y + p - q), .int .i64 (z + p - q)]) : Ending) = .returned (rowV (mv p q (x, y, z))) := rfl
set_option maxRecDepth 100000 in
set_option maxHeartbeats 1000000 in
theorem rowIn_any (p x y z : Int) (w : World) (h0 : 0 ≤ p) (h1 : p ≤ 1114111) (hx : In x) (hy : In y) (hz : In z) : Calls Tryd.prog 29 #[rowV (x, y, z), .int .i64 p] w fun e w' => e = .returned (rowV (mv p (tw p) (x, y, z))) ∧ Below w.heap.size w w' := by
  obtain ⟨b0, b1, b2⟩ := tw_bd h0 h1
  have C1 := hide (fun w => inScript_any p x w h0 h1 hx.1 hx.2)
  have C2 := hide (fun w => inScript_any p y w h0 h1 hy.1 hy.2)
  have C3 := hide (fun w => inScript_any p z w h0 h1 hz.1 hz.2)
  clear hx hy hz h0 h1 b0 b1 b2
  unfold rowV
  simp only
  go_enter Tryd.func29, Tryd.ntmps29
  go_wp2_with fail
  go_region_law (first | (refine step_call rfl 15 #[.tmp 5, .tmp 7] #[2, 2] rfl #[.int .i64 p, .int .i64 x] (by simp [Act.eval]) (by kernel_rfl) (((unhide C1) _).mono ?_); rintro e w1 ⟨rfl, rfl⟩; refine ⟨_, rfl, ?_⟩) | (refine step_call rfl 15 #[.tmp 9, .tmp 11] #[2, 2] rfl #[.int .i64 p, .int .i64 y] (by simp [Act.eval]) (by kernel_rfl) (((unhide C2) _).mono ?_); rintro e w1 ⟨rfl, rfl⟩; refine ⟨_, rfl, ?_⟩) | (refine step_call rfl 15 #[.tmp 13, .tmp 15] #[2, 2] rfl #[.int .i64 p, .int .i64 z] (by simp [Act.eval]) (by kernel_rfl) (((unhide C3) _).mono ?_); rintro e w1 ⟨rfl, rfl⟩; refine ⟨_, rfl, ?_⟩))
  all_goals go_wp2
  all_goals
    exact bodyPost_ret (v := .agg #[.int .i64 (x + p - tw p), .int .i64 (y + p - tw p), .int .i64 (z + p - tw p)]) (by simp [results, Tryd.results29, go_sem]) rfl ⟨rfl, by first | exact bdrewC (below2 _ _ _) | exact below2 _ _ _⟩
end Cas
end Go.Proofs.YtecbbifepbgmlaaDoor
