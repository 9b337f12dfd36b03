/- Several texts in one. -/
import Derived.Test.YtamigjljgepfiaaGreatDoorRows
import Derived.WalkKit
import Derived.WalkLawsBesides
import Derived.WalkSpells
import Derived.Below
import Derived.Test.YtamigjljgepfiaaGreatDoorMA
/- Case in plain numbers: the blocks of the program and the rules of the specification tell of every point the same. No Go in sight. -/
namespace Go.Proofs.YtamigjljgepfiaaGreatDoor
namespace Cas
abbrev B4 := Int × Int × Int × Int
def pt (p : Int) : Prop := 0 ≤ p ∧ p ≤ 1114111 ∧ (p < 55296 ∨ 57343 < p)
def tw (p : Int) : Int := if 768 ≤ p ∧ p < 1280 then 512 + p % 256 else p
def blkRow (b : B4) (q : Int) : Option (Int × Int × Int) :=
  if b.1 ≤ q ∧ q ≤ b.1 + b.2.1 - 1 then some (q, q + b.2.2.1, q + b.2.2.2)
  else if b.1 ≤ q - b.2.2.1 ∧ q - b.2.2.1 ≤ b.1 + b.2.1 - 1 then some (q - b.2.2.1, q - b.2.2.1 + b.2.2.1, q - b.2.2.1 + b.2.2.2)
  else if b.1 ≤ q - b.2.2.2 ∧ q - b.2.2.2 ≤ b.1 + b.2.1 - 1 then some (q - b.2.2.2, q - b.2.2.2 + b.2.2.1, q - b.2.2.2 + b.2.2.2)
  else none
def blks : List B4 := [(65, 26, 0, 32), (512, 32, 0, 32), (576, 4, 4, 8), (8192, 208, 0, 208), (8704, 208, 0, 208), (9216, 208, 0, 208)]
def lone (q : Int) : Option (Int × Int × Int) :=
  if q = 609 then some (530, 530, q) else if 9728 ≤ q ∧ q ≤ 9753 then some (q, q, q - 9728 + 97) else none
def mv (p q : Int) (r : Int × Int × Int) : Int × Int × Int := (r.1 + p - q, r.2.1 + p - q, r.2.2 + p - q)
def rowFrom (l : List B4) (p q : Int) : Int × Int × Int :=
  match l with
  | [] => (match lone q with | some r => mv p q r | none => (p, p, p))
  | b :: t => (match blkRow b q with | some r => mv p q r | none => rowFrom t p q)
def row (p : Int) : Int × Int × Int := rowFrom blks p (tw p)
/-- The specification's three letters of a point. -/
def three (p : Int) : Option (Int × Int × Int) :=
  if 65 ≤ p ∧ p ≤ 90 then some (p, p, p + 32)
  else if 97 ≤ p ∧ p ≤ 122 then some (p - 32, p - 32, p)
  else if 8192 ≤ p ∧ p < 9728 ∧ p % 512 < 416 then (if 208 ≤ p % 512 then some (p - 208, p - 208, p) else some (p, p, p + 208))
  else if p < 512 ∨ 1280 ≤ p then none
  else if p % 256 < 64 then some (p - p % 256 + p % 256 % 32, p - p % 256 + p % 256 % 32, p - p % 256 + p % 256 % 32 + 32)
  else if p % 256 < 76 then some (p - p % 256 + 64 + p % 256 % 4, p - p % 256 + 64 + p % 256 % 4 + 4, p - p % 256 + 64 + p % 256 % 4 + 8)
  else none
def lowS (p : Int) : Int := if 9728 ≤ p ∧ p ≤ 9753 then p - 9728 + 97 else (match three p with | some r => r.2.2 | none => p)
def bl (p : Int) : Int := if p < 512 ∨ 1280 ≤ p then 0 else p / 256 * 256
def upS (p : Int) : Int := if 0 < bl p ∧ p = bl p + 97 then bl p + 18 else (match three p with | some r => r.1 | none => p)
def titS (p : Int) : Int := if 0 < bl p ∧ p = bl p + 97 then bl p + 18 else (match three p with | some r => r.2.1 | none => p)
theorem small : ((List.range 9754).all fun n => decide (row (n : Int) = (upS n, titS n, lowS n))) = true := by decide +kernel
theorem row_is (p : Int) (hp : 0 ≤ p) : row p = (upS p, titS p, lowS p) := by
  by_cases h : p < 9754
  · have := List.all_eq_true.1 small p.toNat (by simp; omega)
    simp only [decide_eq_true_eq] at this
    rwa [Int.toNat_of_nonneg hp] at this
  · have ht : tw p = p := by unfold tw; rw [if_neg (by omega)]
    have e1 : three p = none := by
      unfold three; rw [if_neg (by omega), if_neg (by omega), if_neg (by omega), if_pos (by omega)]
    have e2 : bl p = 0 := by unfold bl; rw [if_pos (by omega)]
    have e3 : ∀ b : B4, b ∈ blks → blkRow b p = none := by
      intro b hb
      simp only [blks, List.mem_cons, List.not_mem_nil, or_false] at hb
      unfold blkRow
      rcases hb with rfl | rfl | rfl | rfl | rfl | rfl <;> (simp only []; rw [if_neg (by omega), if_neg (by omega), if_neg (by omega)])
    have e4 : lone p = none := by unfold lone; rw [if_neg (by omega), if_neg (by omega)]
    have e5 : ∀ l : List B4, (∀ b, b ∈ l → blkRow b p = none) → rowFrom l p p = (p, p, p) := by
      intro l
      induction l with
      | nil => intro _; simp only [rowFrom, e4]
      | cons b t ih => intro hb; simp only [rowFrom, hb b (by simp)]; exact ih fun c hc => hb c (by simp [hc])
    unfold row
    rw [ht, e5 _ e3]
    unfold upS titS lowS
    rw [e1, e2, if_neg (by omega), if_neg (by omega)]
end Cas
end Go.Proofs.YtamigjljgepfiaaGreatDoor
/- Folding and upper case of a point, in plain numbers: the program's way and the specification's. No Go in sight. -/
namespace Go.Proofs.YtamigjljgepfiaaGreatDoor
namespace Cas
/-- What the specification folds a point to. -/
def fo1 (p : Int) : List Int := if 0 < bl p ∧ p = bl p + 96 then [bl p + 50, bl p + 50] else if 0 < bl p ∧ p % 256 = 97 then [bl p + 50] else [lowS p]
/-- What the program folds it to. -/
def fi1 (p : Int) : List Int := if tw p = 608 then [562 + p - tw p, 562 + p - tw p] else if tw p = 609 then [562 + p - tw p] else [lowS p]
def uo1 (p : Int) : List Int := if 0 < bl p ∧ p = bl p + 96 then [bl p + 18, bl p + 18] else [upS p]
def ui1 (p : Int) : List Int := if tw p = 608 then [530 + p - tw p, 530 + p - tw p] else [upS p]
theorem tw_bl (p : Int) : (512 ≤ p ∧ p < 1280 ∧ tw p = 512 + p % 256 ∧ bl p = p - p % 256) ∨ ((p < 512 ∨ 1280 ≤ p) ∧ tw p = p ∧ bl p = 0) := by
  unfold tw bl
  by_cases h1 : 512 ≤ p ∧ p < 1280
  · left
    refine ⟨h1.1, h1.2, ?_, ?_⟩
    · split <;> omega
    · rw [if_neg (by omega)]; omega
  · right
    refine ⟨by omega, by rw [if_neg (by omega)], by rw [if_pos (by omega)]⟩
theorem fo_eq (p : Int) : fi1 p = fo1 p := by
  unfold fi1 fo1
  rcases tw_bl p with ⟨h1, h2, e1, e2⟩ | ⟨h1, e1, e2⟩
  · rw [e1, e2]
    by_cases c1 : p % 256 = 96
    · rw [if_pos (by omega), if_pos (by omega), show 562 + p - (512 + p % 256) = p - p % 256 + 50 by omega]
    · by_cases c2 : p % 256 = 97
      · rw [if_neg (by omega), if_pos (by omega), if_neg (by omega), if_pos (by omega), show 562 + p - (512 + p % 256) = p - p % 256 + 50 by omega]
      · rw [if_neg (by omega), if_neg (by omega), if_neg (by omega), if_neg (by omega)]
  · rw [e1, e2, if_neg (by omega), if_neg (by omega), if_neg (by omega), if_neg (by omega)]
theorem uo_eq (p : Int) : ui1 p = uo1 p := by
  unfold ui1 uo1
  rcases tw_bl p with ⟨h1, h2, e1, e2⟩ | ⟨h1, e1, e2⟩
  · rw [e1, e2]
    by_cases c1 : p % 256 = 96
    · rw [if_pos (by omega), if_pos (by omega), show 530 + p - (512 + p % 256) = p - p % 256 + 18 by omega]
    · rw [if_neg (by omega), if_neg (by omega)]
  · rw [e1, e2, if_neg (by omega), if_neg (by omega)]
theorem flat_eq {f g : Int → List Int} (L : List Int) (h : ∀ p ∈ L, f p = g p) : L.flatMap f = L.flatMap g := by
  induction L with
  | nil => rfl
  | cons a t ih => rw [List.flatMap_cons, List.flatMap_cons, h a (by simp), ih (fun p hp => h p (by simp [hp]))]
theorem flat_take {f : Int → List Int} (L : List Int) (k : Nat) (h : k < L.length) : (L.take (k + 1)).flatMap f = (L.take k).flatMap f ++ f (L.getD k 0) := by
  rw [List.take_add_one, List.flatMap_append]
  simp [List.getD_eq_getElem?_getD, h]
theorem flat_len {f : Int → List Int} (L : List Int) (hf : ∀ p, (f p).length ≤ 2) : (L.flatMap f).length ≤ 2 * L.length := by
  induction L with
  | nil => simp
  | cons a t ih => have := hf a; rw [List.flatMap_cons, List.length_append, List.length_cons]; omega
theorem flat_take_len {f : Int → List Int} (L : List Int) (k : Nat) (hf : ∀ p, (f p).length ≤ 2) : ((L.take k).flatMap f).length ≤ 2 * L.length := by
  have h1 := flat_len (L.take k) hf
  have h2 : (L.take k).length ≤ L.length := by simp; omega
  omega
theorem fi_len (p : Int) : (fi1 p).length ≤ 2 := by unfold fi1; (repeat' split) <;> simp
theorem fo_len (p : Int) : (fo1 p).length ≤ 2 := by unfold fo1; (repeat' split) <;> simp
theorem ui_len (p : Int) : (ui1 p).length ≤ 2 := by unfold ui1; split <;> simp
theorem uo_len (p : Int) : (uo1 p).length ≤ 2 := by unfold uo1; split <;> simp
end Cas
end Go.Proofs.YtamigjljgepfiaaGreatDoor
/- Case, as the program tells it: a block's row, the lone letters, a row moved to a script. -/
namespace Go.Proofs.YtamigjljgepfiaaGreatDoor
namespace Cas
open Go.RowKit
theorem hide {p : Prop} (h : p) : Hid p := h
theorem unhide {p : Prop} (h : Hid p) : p := h
def A1 (b : B4) (q : Int) : Prop := b.1 ≤ q ∧ q ≤ b.1 + b.2.1 - 1
def A2 (b : B4) (q : Int) : Prop := b.1 ≤ q - b.2.2.1 ∧ q - b.2.2.1 ≤ b.1 + b.2.1 - 1
def A3 (b : B4) (q : Int) : Prop := b.1 ≤ q - b.2.2.2 ∧ q - b.2.2.2 ≤ b.1 + b.2.1 - 1
theorem blk1 {b : B4} {q : Int} (h : A1 b q) : blkRow b q = some (q, q + b.2.2.1, q + b.2.2.2) := if_pos h
theorem blk2 {b : B4} {q : Int} (h : ¬ A1 b q) (h2 : A2 b q) : blkRow b q = some (q - b.2.2.1, q - b.2.2.1 + b.2.2.1, q - b.2.2.1 + b.2.2.2) := (if_neg h).trans (if_pos h2)
theorem blk3 {b : B4} {q : Int} (h : ¬ A1 b q) (h2 : ¬ A2 b q) (h3 : A3 b q) : blkRow b q = some (q - b.2.2.2, q - b.2.2.2 + b.2.2.1, q - b.2.2.2 + b.2.2.2) := (if_neg h).trans ((if_neg h2).trans (if_pos h3))
theorem blk0 {b : B4} {q : Int} (h : ¬ A1 b q) (h2 : ¬ A2 b q) (h3 : ¬ A3 b q) : blkRow b q = none := (if_neg h).trans ((if_neg h2).trans (if_neg h3))
set_option maxRecDepth 100000 in
theorem cw_t (p a b : Int) (w : World) (h : a ≤ p ∧ p ≤ b) : Calls Tryz.prog 14 #[.int .i64 p, .int .i64 a, .int .i64 b] w fun e w' => e = .returned (.bool true) ∧ w' = w := by
  obtain ⟨h1, h2⟩ := h
  go_enter Tryz.func14, Tryz.ntmps14
  go_wp2
  go_ret
  exact ⟨rfl, rfl⟩
set_option maxRecDepth 100000 in
theorem cw_f (p a b : Int) (w : World) (h : ¬ (a ≤ p ∧ p ≤ b)) : Calls Tryz.prog 14 #[.int .i64 p, .int .i64 a, .int .i64 b] w fun e w' => e = .returned (.bool false) ∧ w' = w := by
  by_cases h1 : a ≤ p
  · have h2 : ¬ p ≤ b := fun h2 => h ⟨h1, h2⟩
    clear h
    go_enter Tryz.func14, Tryz.ntmps14
    go_wp2
    go_ret
    exact ⟨rfl, rfl⟩
  · clear h
    go_enter Tryz.func14, Tryz.ntmps14
    go_wp2
    go_ret
    exact ⟨rfl, rfl⟩
theorem below1 (w : World) (a : Obj) : Below w.heap.size w (w.alloc a) := (Below.refl _ _).alloc (Nat.le_refl _) _
theorem below2 (w : World) (a b : Obj) : Below w.heap.size w ((w.alloc a).alloc b) := ((Below.refl _ _).alloc (Nat.le_refl _) _).alloc (by simp) _
def rowV (r : Int × Int × Int) : Value := .agg #[.int .i64 r.1, .int .i64 r.2.1, .int .i64 r.2.2]
def blkV (b : B4) : Value := .agg #[.int .i64 b.1, .int .i64 b.2.1, .int .i64 b.2.2.1, .int .i64 b.2.2.2]
def Sm (b : B4) : Prop := 0 ≤ b.1 ∧ b.1 ≤ 65535 ∧ 0 ≤ b.2.1 ∧ b.2.1 ≤ 65535 ∧ 0 ≤ b.2.2.1 ∧ b.2.2.1 ≤ 65535 ∧ 0 ≤ b.2.2.2 ∧ b.2.2.2 ≤ 65535
theorem ret_row {o : Option (Int × Int × Int)} {x y z : Int} (h : o = some (x, y, z)) : (Ending.returned (.tuple #[.agg #[.int .i64 x, .int .i64 y, .int .i64 z], .bool true]) : Ending) = .returned (.tuple #[rowV (o.getD (0, 0, 0)), .bool o.isSome]) := by rw [h]; rfl
theorem ret_norow {o : Option (Int × Int × Int)} (h : o = none) : (Ending.returned (.tuple #[.agg #[.int .i64 0, .int .i64 0, .int .i64 0], .bool false]) : Ending) = .returned (.tuple #[rowV (o.getD (0, 0, 0)), .bool o.isSome]) := by rw [h]; rfl
set_option maxRecDepth 100000 in
set_option maxHeartbeats 2000000 in
theorem blk_any (b : B4) (q : Int) (w : World) (hb : Sm b) (hq : 0 ≤ q ∧ q ≤ 1114111) : Calls Tryz.prog 85 #[blkV b, .int .i64 q] w fun e w' =>
    e = .returned (.tuple #[rowV ((blkRow b q).getD (0, 0, 0)), .bool (blkRow b q).isSome]) ∧ ∃ o, w' = (w.alloc (.cells #[.int .i64 b.1, .int .i64 b.2.1, .int .i64 b.2.2.1, .int .i64 b.2.2.2] 103)).alloc o := by
  obtain ⟨f, c, t, l⟩ := b
  obtain ⟨f0, f1, c0, c1, t0, t1, l0, l1⟩ := hb
  simp only at f0 f1 c0 c1 t0 t1 l0 l1
  unfold blkV
  simp only
  obtain ⟨q0, q1⟩ := hq
  have ix0 : ∀ w, (Instr.index 68 (.agg #[.int .i64 0, .int .i64 t, .int .i64 l]) (.int .i64 0)).run Tryz.prog w = .ok (.int .i64 0) w := fun _ => by kernel_rfl
  have ix1 : ∀ w, (Instr.index 68 (.agg #[.int .i64 0, .int .i64 t, .int .i64 l]) (.int .i64 1)).run Tryz.prog w = .ok (.int .i64 t) w := fun _ => by kernel_rfl
  have ix2 : ∀ w, (Instr.index 68 (.agg #[.int .i64 0, .int .i64 t, .int .i64 l]) (.int .i64 2)).run Tryz.prog w = .ok (.int .i64 l) w := fun _ => by kernel_rfl
  go_enter Tryz.func85, Tryz.ntmps85
  go_wp2
  go_loop [14] (fun x => ∃ i : Nat, x = .int .i64 i ∧ Hid (i = 0 ∨ (i = 1 ∧ ¬ A1 (f, c, t, l) q) ∨ (i = 2 ∧ ¬ A1 (f, c, t, l) q ∧ ¬ A2 (f, c, t, l) q) ∨ (i = 3 ∧ ¬ A1 (f, c, t, l) q ∧ ¬ A2 (f, c, t, l) q ∧ ¬ A3 (f, c, t, l) q))) (fun x => 3 - (intOf x).toNat)
  case atStart => exact ⟨0, rfl, hide (.inl rfl)⟩
  case round =>
    obtain ⟨i, rfl, hi⟩ := hrel
    rcases unhide hi with rfl | ⟨rfl, n1⟩ | ⟨rfl, n1, n2⟩ | ⟨rfl, n1, n2, n3⟩
    · clear hi
      by_cases h : A1 (f, c, t, l) q
      · have HR := hide (blk1 h)
        go_wp2_with (go_at_call 14; refine (cw_t _ _ _ _ h).mono ?_; rintro e w' ⟨rfl, rfl⟩)
        exact bodyPost_ret (v := .tuple #[.agg #[.int .i64 q, .int .i64 (q + t), .int .i64 (q + l)], .bool true]) (by simp [results, Tryz.results85, go_sem]) rfl ⟨ret_row (unhide HR), _, rfl⟩
      · go_wp2_with (go_at_call 14; refine (cw_f _ _ _ _ h).mono ?_; rintro e w' ⟨rfl, rfl⟩)
        go_round
        case rel => exact ⟨1, by go_num, hide (.inr (.inl ⟨rfl, h⟩))⟩
        case measure => simp [intOf]
    · clear hi
      by_cases h : A2 (f, c, t, l) q
      · have HR := hide (blk2 n1 h)
        go_wp2_with (go_at_call 14; refine (cw_t _ _ _ _ h).mono ?_; rintro e w' ⟨rfl, rfl⟩)
        exact bodyPost_ret (v := .tuple #[.agg #[.int .i64 (q - t), .int .i64 (q - t + t), .int .i64 (q - t + l)], .bool true]) (by simp [results, Tryz.results85, go_sem]) rfl ⟨ret_row (unhide HR), _, rfl⟩
      · go_wp2_with (go_at_call 14; refine (cw_f _ _ _ _ h).mono ?_; rintro e w' ⟨rfl, rfl⟩)
        go_round
        case rel => exact ⟨2, by go_num, hide (.inr (.inr (.inl ⟨rfl, n1, h⟩)))⟩
        case measure => simp [intOf]
    · clear hi
      by_cases h : A3 (f, c, t, l) q
      · have HR := hide (blk3 n1 n2 h)
        go_wp2_with (go_at_call 14; refine (cw_t _ _ _ _ h).mono ?_; rintro e w' ⟨rfl, rfl⟩)
        exact bodyPost_ret (v := .tuple #[.agg #[.int .i64 (q - l), .int .i64 (q - l + t), .int .i64 (q - l + l)], .bool true]) (by simp [results, Tryz.results85, go_sem]) rfl ⟨ret_row (unhide HR), _, rfl⟩
      · go_wp2_with (go_at_call 14; refine (cw_f _ _ _ _ h).mono ?_; rintro e w' ⟨rfl, rfl⟩)
        go_round
        case rel => exact ⟨3, by go_num, hide (.inr (.inr (.inr ⟨rfl, n1, n2, h⟩)))⟩
        case measure => simp [intOf]
    · clear hi
      have HR := hide (blk0 n1 n2 n3)
      go_wp2
      exact bodyPost_ret (v := .tuple #[.agg #[.int .i64 0, .int .i64 0, .int .i64 0], .bool false]) (by simp [results, Tryz.results85, go_sem]) rfl ⟨ret_norow (unhide HR), _, rfl⟩
end Cas
end Go.Proofs.YtamigjljgepfiaaGreatDoor
/- Case, as the program tells it: the row of a point, wherever the blocks lie as their text lays them. -/
namespace Go.Proofs.YtamigjljgepfiaaGreatDoor
namespace Cas
open Go.RowKit
theorem ret_int {k : IntKind} {a b : Int} (h : a = b) : Ending.returned (.int k a) = .returned (.int k b) := by rw [h]
set_option maxRecDepth 100000 in
theorem tw_any (p : Int) (w : World) : Calls Tryz.prog 33 #[.int .i64 p] w fun e w' => e = .returned (.int .i64 (tw p)) ∧ w' = w := by
  by_cases h1 : 768 ≤ p
  · by_cases h2 : p < 1280
    · go_enter Tryz.func33, Tryz.ntmps33
      go_wp2
      go_ret
      exact ⟨ret_int (by unfold tw; rw [if_pos ⟨h1, h2⟩]), rfl⟩
    · go_enter Tryz.func33, Tryz.ntmps33
      go_wp2
      go_ret
      exact ⟨ret_int (by unfold tw; rw [if_neg (by omega)]), rfl⟩
  · go_enter Tryz.func33, Tryz.ntmps33
    go_wp2
    go_ret
    exact ⟨ret_int (by unfold tw; rw [if_neg (by omega)]), rfl⟩
theorem tw_bd {p : Int} (h0 : 0 ≤ p) (h1 : p ≤ 1114111) : 0 ≤ tw p ∧ tw p ≤ 1114111 ∧ tw p ≤ p := by unfold tw; split <;> omega
theorem wrap_in (x : Int) (h0 : -9223372036854775808 ≤ x) (h1 : x ≤ 9223372036854775807) : wrap64 x = x := by unfold wrap64; omega
set_option maxRecDepth 100000 in
theorem inScript_any (p x : Int) (w : World) (h0 : 0 ≤ p) (h1 : p ≤ 1114111) (x0 : -65535 ≤ x) (x1 : x ≤ 1200000) : Calls Tryz.prog 32 #[.int .i64 p, .int .i64 x] w fun e w' => e = .returned (.int .i64 (x + p - tw p)) ∧ w' = w := by
  obtain ⟨b0, b1, b2⟩ := tw_bd h0 h1
  go_enter Tryz.func32, Tryz.ntmps32
  go_wp2_with (go_at_call 33; refine (tw_any _ _).mono ?_; rintro e w' ⟨rfl, rfl⟩)
  go_ret
  exact ⟨rfl, rfl⟩
theorem bdrewC {B : Nat} {a w : World} (h : Below B a w) : Below B a w.drew := h.trans ⟨rfl, rfl, rfl, Nat.le_refl _, fun _ _ => rfl⟩
def In (x : Int) : Prop := -65535 ≤ x ∧ x ≤ 1200000
theorem ret_mv (p q x y z : Int) : (Ending.returned (.agg #[.int .i64 (x + p - q), .int .i64 (y + p - q), .int .i64 (z + p - q)]) : Ending) = .returned (rowV (mv p q (x, y, z))) := rfl
set_option maxRecDepth 100000 in
set_option maxHeartbeats 1000000 in
theorem rowIn_any (p x y z : Int) (w : World) (h0 : 0 ≤ p) (h1 : p ≤ 1114111) (hx : In x) (hy : In y) (hz : In z) : Calls Tryz.prog 86 #[rowV (x, y, z), .int .i64 p] w fun e w' => e = .returned (rowV (mv p (tw p) (x, y, z))) ∧ Below w.heap.size w w' := by
  obtain ⟨b0, b1, b2⟩ := tw_bd h0 h1
  have C1 := hide (fun w => inScript_any p x w h0 h1 hx.1 hx.2)
  have C2 := hide (fun w => inScript_any p y w h0 h1 hy.1 hy.2)
  have C3 := hide (fun w => inScript_any p z w h0 h1 hz.1 hz.2)
  clear hx hy hz h0 h1 b0 b1 b2
  unfold rowV
  simp only
  go_enter Tryz.func86, Tryz.ntmps86
  go_wp2_with fail
  go_region_law (first | (refine step_call rfl 32 #[.tmp 5, .tmp 7] #[2, 2] rfl #[.int .i64 p, .int .i64 x] (by simp [Act.eval]) (by kernel_rfl) (((unhide C1) _).mono ?_); rintro e w1 ⟨rfl, rfl⟩; refine ⟨_, rfl, ?_⟩) | (refine step_call rfl 32 #[.tmp 9, .tmp 11] #[2, 2] rfl #[.int .i64 p, .int .i64 y] (by simp [Act.eval]) (by kernel_rfl) (((unhide C2) _).mono ?_); rintro e w1 ⟨rfl, rfl⟩; refine ⟨_, rfl, ?_⟩) | (refine step_call rfl 32 #[.tmp 13, .tmp 15] #[2, 2] rfl #[.int .i64 p, .int .i64 z] (by simp [Act.eval]) (by kernel_rfl) (((unhide C3) _).mono ?_); rintro e w1 ⟨rfl, rfl⟩; refine ⟨_, rfl, ?_⟩))
  all_goals go_wp2
  all_goals
    exact bodyPost_ret (v := .agg #[.int .i64 (x + p - tw p), .int .i64 (y + p - tw p), .int .i64 (z + p - tw p)]) (by simp [results, Tryz.results86, go_sem]) rfl ⟨rfl, by first | exact bdrewC (below2 _ _ _) | exact below2 _ _ _⟩
end Cas
end Go.Proofs.YtamigjljgepfiaaGreatDoor
/- Points, as the program and the specification tell them. -/
namespace Go.Proofs.YtamigjljgepfiaaGreatDoor
namespace Cas
open Go.RowKit
set_option maxRecDepth 100000 in
theorem ispt_s (p : Int) (w : World) (h : pt p) : Calls Tryz.prog 47 #[.int .i64 p] w fun e w' => e = .returned (.bool true) ∧ w' = w := by
  obtain ⟨h1, h2, h3⟩ := h
  by_cases h4 : p < 55296
  · clear h3
    go_enter Tryz.func47, Tryz.ntmps47
    go_wp2
    go_ret
    exact ⟨rfl, rfl⟩
  · have h5 : 57343 < p := by omega
    clear h3
    go_enter Tryz.func47, Tryz.ntmps47
    go_wp2
    go_ret
    exact ⟨rfl, rfl⟩
set_option maxRecDepth 100000 in
theorem ispt_i (p : Int) (w : World) (h : pt p) : Calls Tryz.prog 84 #[.int .i64 p] w fun e w' => e = .returned (.bool true) ∧ w' = w := by
  obtain ⟨h1, h2, h3⟩ := h
  by_cases h4 : p < 55296
  · clear h3
    go_enter Tryz.func84, Tryz.ntmps84
    go_wp2
    go_ret
    exact ⟨rfl, rfl⟩
  · have h5 : 57343 < p := by omega
    clear h3
    go_enter Tryz.func84, Tryz.ntmps84
    go_wp2
    go_ret
    exact ⟨rfl, rfl⟩
set_option maxRecDepth 100000 in
theorem nopt_s (p : Int) (w : World) (h : ¬ pt p) : Calls Tryz.prog 47 #[.int .i64 p] w fun e w' => e = .returned (.bool false) ∧ w' = w := by
  unfold pt at h
  by_cases h1 : 0 ≤ p
  · by_cases h2 : p ≤ 1114111
    · have h3 : ¬ p < 55296 := by omega
      have h4 : ¬ 57343 < p := by omega
      clear h
      go_enter Tryz.func47, Tryz.ntmps47
      go_wp2
      go_ret
      exact ⟨rfl, rfl⟩
    · clear h
      go_enter Tryz.func47, Tryz.ntmps47
      go_wp2
      go_ret
      exact ⟨rfl, rfl⟩
  · clear h
    go_enter Tryz.func47, Tryz.ntmps47
    go_wp2
    go_ret
    exact ⟨rfl, rfl⟩
set_option maxRecDepth 100000 in
theorem nopt_i (p : Int) (w : World) (h : ¬ pt p) : Calls Tryz.prog 84 #[.int .i64 p] w fun e w' => e = .returned (.bool false) ∧ w' = w := by
  unfold pt at h
  by_cases h1 : 0 ≤ p
  · by_cases h2 : p ≤ 1114111
    · have h3 : ¬ p < 55296 := by omega
      have h4 : ¬ 57343 < p := by omega
      clear h
      go_enter Tryz.func84, Tryz.ntmps84
      go_wp2
      go_ret
      exact ⟨rfl, rfl⟩
    · clear h
      go_enter Tryz.func84, Tryz.ntmps84
      go_wp2
      go_ret
      exact ⟨rfl, rfl⟩
  · clear h
    go_enter Tryz.func84, Tryz.ntmps84
    go_wp2
    go_ret
    exact ⟨rfl, rfl⟩
end Cas
end Go.Proofs.YtamigjljgepfiaaGreatDoor
