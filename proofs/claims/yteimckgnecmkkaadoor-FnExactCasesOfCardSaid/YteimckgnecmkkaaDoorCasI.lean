/- Case, as the program tells it: a block's row, the lone letters, a row moved to a script. -/
import Derived.Test.YteimckgnecmkkaaDoorCasP
import Derived.Test.YteimckgnecmkkaaDoorRows
import Derived.WalkKit
import Derived.WalkLawsBesides
import Derived.WalkSpells
import Derived.Below
namespace Go.Proofs.YteimckgnecmkkaaDoor
namespace Cas
open Go.RowKit
theorem hide {p : Prop} (h : p) : Hid p := h
theorem unhide {p : Prop} (h : Hid p) : p := h
def A1 (b : B4) (q : Int) : Prop := b.1 ≤ q ∧ q ≤ b.1 + b.2.1 - 1
def A2 (b : B4) (q : Int) : Prop := b.1 ≤ q - b.2.2.1 ∧ q - b.2.2.1 ≤ b.1 + b.2.1 - 1
def A3 (b : B4) (q : Int) : Prop := b.1 ≤ q - b.2.2.2 ∧ q - b.2.2.2 ≤ b.1 + b.2.1 - 1
theorem blk1 {b : B4} {q : Int} (h : A1 b q) : blkRow b q = some (q, q + b.2.2.1, q + b.2.2.2) := if_pos h
theorem blk2 {b : B4} {q : Int} (h : ¬ A1 b q) (h2 : A2 b q) : blkRow b q = some (q - b.2.2.1, q - b.2.2.1 + b.2.2.1, q - b.2.2.1 + b.2.2.2) := (if_neg h).trans (if_pos h2)
theorem blk3 {b : B4} {q : Int} (h : ¬ A1 b q) (h2 : ¬ A2 b q) (h3 : A3 b q) : blkRow b q = some (q - b.2.2.2, q - b.2.2.2 + b.2.2.1, q - b.2.2.2 + b.2.2.2) := (if_neg h).trans ((if_neg h2).trans (if_pos h3))
theorem blk0 {b : B4} {q : Int} (h : ¬ A1 b q) (h2 : ¬ A2 b q) (h3 : ¬ A3 b q) : blkRow b q = none := (if_neg h).trans ((if_neg h2).trans (if_neg h3))
set_option maxRecDepth 100000 in
theorem cw_t (p a b : Int) (w : World) (h : a ≤ p ∧ p ≤ b) : Calls Tryd.prog 24 #[.int .i64 p, .int .i64 a, .int .i64 b] w fun e w' => e = .returned (.bool true) ∧ w' = w := by
  obtain ⟨h1, h2⟩ := h
  go_enter Tryd.func24, Tryd.ntmps24
  go_wp2
  go_ret
  exact ⟨rfl, rfl⟩
set_option maxRecDepth 100000 in
theorem cw_f (p a b : Int) (w : World) (h : ¬ (a ≤ p ∧ p ≤ b)) : Calls Tryd.prog 24 #[.int .i64 p, .int .i64 a, .int .i64 b] w fun e w' => e = .returned (.bool false) ∧ w' = w := by
  by_cases h1 : a ≤ p
  · have h2 : ¬ p ≤ b := fun h2 => h ⟨h1, h2⟩
    clear h
    go_enter Tryd.func24, Tryd.ntmps24
    go_wp2
    go_ret
    exact ⟨rfl, rfl⟩
  · clear h
    go_enter Tryd.func24, Tryd.ntmps24
    go_wp2
    go_ret
    exact ⟨rfl, rfl⟩
theorem below1 (w : World) (a : Obj) : Below w.heap.size w (w.alloc a) := (Below.refl _ _).alloc (Nat.le_refl _) _
theorem below2 (w : World) (a b : Obj) : Below w.heap.size w ((w.alloc a).alloc b) := ((Below.refl _ _).alloc (Nat.le_refl _) _).alloc (by simp) _
def rowV (r : Int × Int × Int) : Value := .agg #[.int .i64 r.1, .int .i64 r.2.1, .int .i64 r.2.2]
def blkV (b : B4) : Value := .agg #[.int .i64 b.1, .int .i64 b.2.1, .int .i64 b.2.2.1, .int .i64 b.2.2.2]
def Sm (b : B4) : Prop := 0 ≤ b.1 ∧ b.1 ≤ 65535 ∧ 0 ≤ b.2.1 ∧ b.2.1 ≤ 65535 ∧ 0 ≤ b.2.2.1 ∧ b.2.2.1 ≤ 65535 ∧ 0 ≤ b.2.2.2 ∧ b.2.2.2 ≤ 65535
theorem ret_row {o : Option (Int × Int × Int)} {x y z : Int} (h : o = some (x, y, z)) : (Ending.returned (.tuple #[.agg #[.int .i64 x, .int .i64 y, .int .i64 z], .bool true]) : Ending) = .returned (.tuple #[rowV (o.getD (0, 0, 0)), .bool o.isSome]) := by rw [h]; rfl
theorem ret_norow {o : Option (Int × Int × Int)} (h : o = none) : (Ending.returned (.tuple #[.agg #[.int .i64 0, .int .i64 0, .int .i64 0], .bool false]) : Ending) = .returned (.tuple #[rowV (o.getD (0, 0, 0)), .bool o.isSome]) := by rw [h]; rfl
set_option maxRecDepth 100000 in
set_option maxHeartbeats 2000000 in
theorem blk_any (b : B4) (q : Int) (w : World) (hb : Sm b) (hq : 0 ≤ q ∧ q ≤ 1114111) : Calls Tryd.prog 21 #[blkV b, .int .i64 q] w fun e w' =>
    e = .returned (.tuple #[rowV ((blkRow b q).getD (0, 0, 0)), .bool (blkRow b q).isSome]) ∧ ∃ o, w' = (w.alloc (.cells #[.int .i64 b.1, .int .i64 b.2.1, .int .i64 b.2.2.1, .int .i64 b.2.2.2] 35)).alloc o := by
  obtain ⟨f, c, t, l⟩ := b
  obtain ⟨f0, f1, c0, c1, t0, t1, l0, l1⟩ := hb
  simp only at f0 f1 c0 c1 t0 t1 l0 l1
  unfold blkV
  simp only
  obtain ⟨q0, q1⟩ := hq
  have ix0 : ∀ w, (Instr.index 43 (.agg #[.int .i64 0, .int .i64 t, .int .i64 l]) (.int .i64 0)).run Tryd.prog w = .ok (.int .i64 0) w := fun _ => by kernel_rfl
  have ix1 : ∀ w, (Instr.index 43 (.agg #[.int .i64 0, .int .i64 t, .int .i64 l]) (.int .i64 1)).run Tryd.prog w = .ok (.int .i64 t) w := fun _ => by kernel_rfl
  have ix2 : ∀ w, (Instr.index 43 (.agg #[.int .i64 0, .int .i64 t, .int .i64 l]) (.int .i64 2)).run Tryd.prog w = .ok (.int .i64 l) w := fun _ => by kernel_rfl
  go_enter Tryd.func21, Tryd.ntmps21
  go_wp2
  go_loop [14] (fun x => ∃ i : Nat, x = .int .i64 i ∧ Hid (i = 0 ∨ (i = 1 ∧ ¬ A1 (f, c, t, l) q) ∨ (i = 2 ∧ ¬ A1 (f, c, t, l) q ∧ ¬ A2 (f, c, t, l) q) ∨ (i = 3 ∧ ¬ A1 (f, c, t, l) q ∧ ¬ A2 (f, c, t, l) q ∧ ¬ A3 (f, c, t, l) q))) (fun x => 3 - (intOf x).toNat)
  case atStart => exact ⟨0, rfl, hide (.inl rfl)⟩
  case round =>
    obtain ⟨i, rfl, hi⟩ := hrel
    rcases unhide hi with rfl | ⟨rfl, n1⟩ | ⟨rfl, n1, n2⟩ | ⟨rfl, n1, n2, n3⟩
    · clear hi
      by_cases h : A1 (f, c, t, l) q
      · have HR := hide (blk1 h)
        go_wp2_with (go_at_call 24; refine (cw_t _ _ _ _ h).mono ?_; rintro e w' ⟨rfl, rfl⟩)
        exact bodyPost_ret (v := .tuple #[.agg #[.int .i64 q, .int .i64 (q + t), .int .i64 (q + l)], .bool true]) (by simp [results, Tryd.results21, go_sem]) rfl ⟨ret_row (unhide HR), _, rfl⟩
      · go_wp2_with (go_at_call 24; refine (cw_f _ _ _ _ h).mono ?_; rintro e w' ⟨rfl, rfl⟩)
        go_round
        case rel => exact ⟨1, by go_num, hide (.inr (.inl ⟨rfl, h⟩))⟩
        case measure => simp [intOf]
    · clear hi
      by_cases h : A2 (f, c, t, l) q
      · have HR := hide (blk2 n1 h)
        go_wp2_with (go_at_call 24; refine (cw_t _ _ _ _ h).mono ?_; rintro e w' ⟨rfl, rfl⟩)
        exact bodyPost_ret (v := .tuple #[.agg #[.int .i64 (q - t), .int .i64 (q - t + t), .int .i64 (q - t + l)], .bool true]) (by simp [results, Tryd.results21, go_sem]) rfl ⟨ret_row (unhide HR), _, rfl⟩
      · go_wp2_with (go_at_call 24; refine (cw_f _ _ _ _ h).mono ?_; rintro e w' ⟨rfl, rfl⟩)
        go_round
        case rel => exact ⟨2, by go_num, hide (.inr (.inr (.inl ⟨rfl, n1, h⟩)))⟩
        case measure => simp [intOf]
    · clear hi
      by_cases h : A3 (f, c, t, l) q
      · have HR := hide (blk3 n1 n2 h)
        go_wp2_with (go_at_call 24; refine (cw_t _ _ _ _ h).mono ?_; rintro e w' ⟨rfl, rfl⟩)
        exact bodyPost_ret (v := .tuple #[.agg #[.int .i64 (q - l), .int .i64 (q - l + t), .int .i64 (q - l + l)], .bool true]) (by simp [results, Tryd.results21, go_sem]) rfl ⟨ret_row (unhide HR), _, rfl⟩
      · go_wp2_with (go_at_call 24; refine (cw_f _ _ _ _ h).mono ?_; rintro e w' ⟨rfl, rfl⟩)
        go_round
        case rel => exact ⟨3, by go_num, hide (.inr (.inr (.inr ⟨rfl, n1, n2, h⟩)))⟩
        case measure => simp [intOf]
    · clear hi
      have HR := hide (blk0 n1 n2 n3)
      go_wp2
      exact bodyPost_ret (v := .tuple #[.agg #[.int .i64 0, .int .i64 0, .int .i64 0], .bool false]) (by simp [results, Tryd.results21, go_sem]) rfl ⟨ret_norow (unhide HR), _, rfl⟩
end Cas
end Go.Proofs.YteimckgnecmkkaaDoor
