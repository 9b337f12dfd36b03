/- DecodeShift of the program: a machine of labels. -/
import Derived.Test.YtohpifhpfijmcaaDoorHshI
import Derived.Test.YtohpifhpfijmcaaDoorJumps
namespace Go.Proofs.YtohpifhpfijmcaaDoor
open Go.RowKit
theorem wp_fall7 {P : Program} {a : Act} {w : World} {Q : Exit → Act → World → Prop} {c t0 t1 t2 t3 t4 t5 t6 : Code} (J : Nat → Act → World → Prop) (μ : Nat → Act → World → Nat)
    (h0 : findLabel c 0 = some (Code.skip.seq t0)) (h1 : findLabel c 1 = some (Code.skip.seq t1)) (h2 : findLabel c 2 = some (Code.skip.seq t2)) (h3 : findLabel c 3 = some (Code.skip.seq t3)) (h4 : findLabel c 4 = some (Code.skip.seq t4)) (h5 : findLabel c 5 = some (Code.skip.seq t5)) (h6 : findLabel c 6 = some (Code.skip.seq t6)) (hJ : ∀ l a w, J l a w → l < 7)
    (first : (∀ a w, J 1 a w → t1.wp P (jumps J Q) a w) → c.wp P (jumps J Q) a w)
    (p0 : ∀ a w, J 0 a w → t0.wp P (jumps (fun l' a' w' => J l' a' w' ∧ μ l' a' w' < μ 0 a w) Q) a w)
    (p1 : ∀ a w, J 1 a w → t1.wp P (jumps (fun l' a' w' => J l' a' w' ∧ μ l' a' w' < μ 1 a w) Q) a w)
    (p2 : ∀ a w, J 2 a w → t2.wp P (jumps (fun l' a' w' => J l' a' w' ∧ μ l' a' w' < μ 2 a w) Q) a w)
    (p3 : ∀ a w, J 3 a w → t3.wp P (jumps (fun l' a' w' => J l' a' w' ∧ μ l' a' w' < μ 3 a w) Q) a w)
    (p4 : (∀ a w, J 5 a w → t5.wp P (jumps (fun l' a' w' => J l' a' w' ∧ μ l' a' w' < μ 5 a w) Q) a w) → ∀ a w, J 4 a w → t4.wp P (jumps (fun l' a' w' => J l' a' w' ∧ μ l' a' w' < μ 4 a w) Q) a w)
    (p5 : ∀ a w, J 5 a w → t5.wp P (jumps (fun l' a' w' => J l' a' w' ∧ μ l' a' w' < μ 5 a w) Q) a w)
    (p6 : ∀ a w, J 6 a w → t6.wp P (jumps (fun l' a' w' => J l' a' w' ∧ μ l' a' w' < μ 6 a w) Q) a w) : (Code.scope c).wp P Q a w :=
  wp_labels7 J μ h0 h1 h2 h3 h4 h5 h6 hJ (fun _ => first fun a w h => wp_more (p1 a w h) (jumps_more fun _ _ _ x => x.1)) (fun a w h => skip_on (p0 a w h)) (fun a w h => skip_on (p1 a w h)) (fun a w h => skip_on (p2 a w h)) (fun a w h => skip_on (p3 a w h)) (fun a w h => skip_on ((p4 p5) a w h)) (fun a w h => skip_on (p5 a w h)) (fun a w h => skip_on (p6 a w h))
theorem ext_size (s : ByteArray) (a : Nat) : (s.extract a s.size).size = s.size - a := by simp
theorem bt_ext (s : ByteArray) (a j : Nat) (h : a + j < s.size) : bt (s.extract a s.size) j = bt s (a + j) := by
  have h1 : j < (s.extract a s.size).size := by rw [ext_size]; omega
  rw [← bt_get _ _ h1, ← bt_get _ _ h, ByteArray.getElem_extract]
/-- The state that the byte behind a place names; -1: none. -/
def nmAt (s : ByteArray) (i : Nat) : Int := if i + 1 < s.size then nameOf (bt s (i + 1)) else -1
theorem named_at (s : ByteArray) (i : Nat) (hi : i < s.size) (w : World) :
    Calls Tryd.prog 30 #[.string (s.extract (i + 1) s.size)] w fun e w' => e = .returned (.int .i64 (nmAt s i)) ∧ w = w' := by
  refine (named_any _ w).mono ?_
  rintro e w' ⟨rfl, rfl⟩
  refine ⟨?_, rfl⟩
  have e : (if (s.extract (i + 1) s.size).size = 0 then -1 else nameOf (bt (s.extract (i + 1) s.size) 0)) = nmAt s i := by
    unfold nmAt
    rw [ext_size]
    by_cases h : i + 1 < s.size
    · rw [if_pos h, if_neg (by omega), bt_ext s (i + 1) 0 (by omega)]
    · rw [if_neg h, if_pos (by omega)]
  rw [e]
theorem pc_esc {s : ByteArray} {i : Nat} (st : Int) (h : bt s i = 27) : pc s i st = if nmAt s i ≠ -1 then (-1, nmAt s i, 2) else (0, 0, 0) := by
  unfold pc nmAt
  rw [if_pos h]
  by_cases h1 : i + 1 < s.size
  · rw [if_pos h1]
    by_cases h2 : nameOf (bt s (i + 1)) ≠ -1
    · rw [if_pos ⟨h1, h2⟩, if_pos h2]
    · rw [if_neg (fun c => h2 c.2), if_neg h2]
  · rw [if_neg h1, if_neg (fun c => h1 c.1), if_neg (by omega)]
theorem nmAt_bd (s : ByteArray) (i : Nat) : -1 ≤ nmAt s i ∧ nmAt s i ≤ 4 ∧ (nmAt s i ≠ -1 → i + 2 ≤ s.size) := by
  unfold nmAt
  have := nameOf_bd (bt s (i + 1))
  split <;> omega
def prAt (s : ByteArray) (i : Nat) : Int := if (pc s i 4).2.2 = 0 then -1 else (pc s i 4).1
theorem pc_four {s : ByteArray} {i : Nat} (h : 32 ≤ bt s i) : pc s i 4 = if i + 1 < s.size ∧ 33 ≤ bt s i ∧ bt s i ≤ 126 ∧ 33 ≤ bt s (i + 1) ∧ bt s (i + 1) ≤ 126 ∧ 94 * ((bt s i : Int) - 33) + ((bt s (i + 1) : Int) - 33) < 2048 then (24576 + 94 * ((bt s i : Int) - 33) + ((bt s (i + 1) : Int) - 33), 4, 2) else (0, 0, 0) := by
  unfold pc; rw [if_neg (by omega), if_neg (by omega), if_neg (by omega), if_neg (by omega)]
theorem pair_at (s : ByteArray) (i : Nat) (hi : i < s.size) (hs : s.size ≤ 65536) (hb : 32 ≤ bt s i) (w : World) (ht : TabAt w) :
    Calls Tryd.prog 31 #[.string (s.extract i s.size)] w fun e w' => e = .returned (.int .i64 (prAt s i)) ∧ Below w.heap.size w w' := by
  refine (pair_any _ (by rw [ext_size]; omega) w ht).mono ?_
  rintro e w' ⟨rfl, hb'⟩
  refine ⟨?_, hb'⟩
  have e : pairOf (s.extract i s.size) = prAt s i := by
    unfold prAt
    rw [pc_four hb]
    unfold pairOf
    rw [ext_size, bt_ext s i 0 (by omega), Nat.add_zero]
    by_cases h1 : i + 1 < s.size
    · rw [bt_ext s i 1 h1]
      unfold half ideo
      simp only [decide_eq_true_eq]
      have hbt := bt_lt s i
      have hbt1 := bt_lt s (i + 1)
      by_cases h : i + 1 < s.size ∧ 33 ≤ bt s i ∧ bt s i ≤ 126 ∧ 33 ≤ bt s (i + 1) ∧ bt s (i + 1) ≤ 126 ∧ 94 * ((bt s i : Int) - 33) + ((bt s (i + 1) : Int) - 33) < 2048
      · rw [if_pos (by omega), if_pos h, if_neg (by simp)]
        show _ = _
        simp only []
        omega
      · rw [if_neg (by omega), if_neg h, if_pos rfl]
    · have hno : ¬ (i + 1 < s.size ∧ 33 ≤ bt s i ∧ bt s i ≤ 126 ∧ 33 ≤ bt s (i + 1) ∧ bt s (i + 1) ≤ 126 ∧ 94 * ((bt s i : Int) - 33) + ((bt s (i + 1) : Int) - 33) < 2048) := fun c => h1 c.1
      rw [if_neg (fun c => absurd c.1 (by omega)), if_neg hno, if_pos rfl]
  rw [e]
/-- What stands ahead of a point that is laid: the point of the piece, the state behind it, how many bytes; or no point, where there is no piece. -/
def Lay (s : ByteArray) (i : Nat) (st st' p : Int) (m : Nat) : Prop := (isPt p = true ∧ pc s i st = (p, st', m) ∧ m ≠ 0) ∨ (isPt p = false ∧ (pc s i st).2.2 = 0)
theorem lay_single {s : ByteArray} {i : Nat} {st : Int} (h0 : 0 ≤ st) (h3 : st ≤ 3) (hb : 32 ≤ bt s i) : Lay s i st st (sing st (bt s i)) 1 := by
  have hbt := bt_lt s i
  unfold Lay sing
  by_cases hbad : 127 < bt s i ∨ (bt s i = 127 ∧ st = 0)
  · right
    rw [if_pos hbad]
    refine ⟨by decide, ?_⟩
    unfold pc
    rw [if_neg (by omega), if_neg (by omega)]
    by_cases hs : st = 0
    · rw [if_pos hs, if_neg (by omega)]
    · rw [if_neg hs, if_pos h3, if_neg (by omega)]
  · left
    rw [if_neg hbad]
    by_cases hs : st = 0
    · rw [if_pos hs]
      refine ⟨(isPt_iff _).2 (by omega), ?_, by omega⟩
      unfold pc
      rw [if_neg (by omega), if_neg (by omega), if_pos hs, if_pos (by omega), hs]
    · rw [if_neg hs]
      refine ⟨(isPt_iff _).2 (by omega), ?_, by omega⟩
      unfold pc
      rw [if_neg (by omega), if_neg (by omega), if_neg hs, if_pos h3, if_pos (by omega)]
      have e : 256 + 256 * st + (bt s i : Int) - 32 = (st + 1) * 256 + (bt s i : Int) - 32 := by omega
      rw [e]
theorem lay_ctrl {s : ByteArray} {i : Nat} {st : Int} (hb : bt s i < 32) (hn : bt s i ≠ 27) : Lay s i st (if bt s i = 10 then 0 else st) (bt s i) 1 := by
  left
  refine ⟨(isPt_iff _).2 (by omega), ?_, by omega⟩
  unfold pc
  rw [if_neg hn, if_pos hb]
theorem lay_pair {s : ByteArray} {i : Nat} (hb : 32 ≤ bt s i) : Lay s i 4 4 (prAt s i) 2 := by
  unfold Lay prAt
  rw [pc_four hb]
  by_cases h : i + 1 < s.size ∧ 33 ≤ bt s i ∧ bt s i ≤ 126 ∧ 33 ≤ bt s (i + 1) ∧ bt s (i + 1) ≤ 126 ∧ 94 * ((bt s i : Int) - 33) + ((bt s (i + 1) : Int) - 33) < 2048
  · left
    rw [if_pos h, if_neg (by simp)]
    exact ⟨(isPt_iff _).2 (by simp only []; omega), rfl, by omega⟩
  · right
    rw [if_neg h, if_pos rfl]
    exact ⟨by decide, rfl⟩
theorem textL_add1 (l : List Int) (p : Int) : textL (l ++ [p]) = textL l ++ Lib.encodeRuneZ p := by unfold textL; rw [List.flatMap_append, List.flatMap_singleton]
/-- What holds at every label: the machine has gone nn steps; the points' bytes are laid; the answer's cells are there. -/
def HRow (s : ByteArray) (w wr : World) (nn i : Nat) (l : List Int) (st : Int) (v : Value) : Prop :=
  hst s nn = ⟨l, st, i⟩ ∧ nn ≤ i ∧ wr.ownsRow w.heap.size 5 1 v (textL l).length ((textL l).map (Value.int .u8)) ∧ Below w.heap.size w wr ∧ wr.heap[w.heap.size]? = some (.cells #[.int .i64 0, .int .i64 0, .string (strOfNums [])] 25)
/-- The frame: what its first slots hold. -/
def FrH (s : ByteArray) (w : World) (a : Act) (v x y z m p : Value) : Prop := a = { tmps := #[.string s, a.tmps.getD 1 undef, .pointer (some ⟨w.heap.size, 0, none⟩), v, x, y, z, m, p, a.tmps.getD 9 undef, a.tmps.getD 10 undef, a.tmps.getD 11 undef, a.tmps.getD 12 undef, a.tmps.getD 13 undef, a.tmps.getD 14 undef, a.tmps.getD 15 undef, a.tmps.getD 16 undef, a.tmps.getD 17 undef, a.tmps.getD 18 undef, a.tmps.getD 19 undef, a.tmps.getD 20 undef, a.tmps.getD 21 undef, a.tmps.getD 22 undef, a.tmps.getD 23 undef, a.tmps.getD 24 undef, a.tmps.getD 25 undef, a.tmps.getD 26 undef, a.tmps.getD 27 undef, a.tmps.getD 28 undef, a.tmps.getD 29 undef, a.tmps.getD 30 undef, a.tmps.getD 31 undef, a.tmps.getD 32 undef, a.tmps.getD 33 undef, a.tmps.getD 34 undef, a.tmps.getD 35 undef, a.tmps.getD 36 undef, a.tmps.getD 37 undef, a.tmps.getD 38 undef, a.tmps.getD 39 undef, a.tmps.getD 40 undef, a.tmps.getD 41 undef, a.tmps.getD 42 undef, a.tmps.getD 43 undef, a.tmps.getD 44 undef, a.tmps.getD 45 undef, a.tmps.getD 46 undef, a.tmps.getD 47 undef, a.tmps.getD 48 undef, a.tmps.getD 49 undef, a.tmps.getD 50 undef, a.tmps.getD 51 undef, a.tmps.getD 52 undef, a.tmps.getD 53 undef, a.tmps.getD 54 undef, a.tmps.getD 55 undef, a.tmps.getD 56 undef, a.tmps.getD 57 undef, a.tmps.getD 58 undef, a.tmps.getD 59 undef, a.tmps.getD 60 undef, a.tmps.getD 61 undef, a.tmps.getD 62 undef, a.tmps.getD 63 undef, a.tmps.getD 64 undef, a.tmps.getD 65 undef, a.tmps.getD 66 undef, a.tmps.getD 67 undef, a.tmps.getD 68 undef, a.tmps.getD 69 undef, a.tmps.getD 70 undef, a.tmps.getD 71 undef, a.tmps.getD 72 undef, a.tmps.getD 73 undef, a.tmps.getD 74 undef, a.tmps.getD 75 undef, a.tmps.getD 76 undef, a.tmps.getD 77 undef, a.tmps.getD 78 undef], defers := [] }
theorem FrH.open {s : ByteArray} {w : World} {a : Act} {v x y z m p : Value} (h : FrH s w a v x y z m p) : ∃ u : Nat → Value, a = { tmps := #[.string s, u 1, .pointer (some ⟨w.heap.size, 0, none⟩), v, x, y, z, m, p, u 9, u 10, u 11, u 12, u 13, u 14, u 15, u 16, u 17, u 18, u 19, u 20, u 21, u 22, u 23, u 24, u 25, u 26, u 27, u 28, u 29, u 30, u 31, u 32, u 33, u 34, u 35, u 36, u 37, u 38, u 39, u 40, u 41, u 42, u 43, u 44, u 45, u 46, u 47, u 48, u 49, u 50, u 51, u 52, u 53, u 54, u 55, u 56, u 57, u 58, u 59, u 60, u 61, u 62, u 63, u 64, u 65, u 66, u 67, u 68, u 69, u 70, u 71, u 72, u 73, u 74, u 75, u 76, u 77, u 78], defers := [] } := ⟨fun k => a.tmps.getD k undef, h⟩
def jH (s : ByteArray) (w : World) : Nat → Act → World → Prop
  | 0, a, wr => ∃ (nn i : Nat) (l : List Int) (st : Int) (v y m p : Value), FrH s w a v (.int .i64 st) y (.int .i64 i) m p ∧ Hid (HRow s w wr nn i l st v) ∧ i = s.size
  | 1, a, wr => ∃ (nn i : Nat) (l : List Int) (st : Int) (v y m p : Value), FrH s w a v (.int .i64 st) y (.int .i64 i) m p ∧ Hid (HRow s w wr nn i l st v)
  | 2, a, wr => ∃ (nn i : Nat) (l : List Int) (st : Int) (v y m p : Value), FrH s w a v (.int .i64 st) y (.int .i64 i) m p ∧ Hid (HRow s w wr nn i l st v) ∧ i < s.size ∧ Hid (bt s i = 27)
  | 3, a, wr => ∃ (nn i : Nat) (l : List Int) (st : Int) (v y m p : Value), FrH s w a v (.int .i64 st) y (.int .i64 i) m p ∧ Hid (HRow s w wr nn i l st v) ∧ i < s.size ∧ Hid (bt s i < 32 ∧ bt s i ≠ 27)
  | 4, a, wr => ∃ (nn i : Nat) (l : List Int) (v y m p : Value), FrH s w a v (.int .i64 4) y (.int .i64 i) m p ∧ Hid (HRow s w wr nn i l 4 v) ∧ i < s.size ∧ Hid (32 ≤ bt s i)
  | 5, a, wr => ∃ (nn i : Nat) (l : List Int) (st st' p : Int) (m : Nat) (v y : Value), FrH s w a v (.int .i64 st') y (.int .i64 i) (.int .i64 m) (.int .i64 p) ∧ Hid (HRow s w wr nn i l st v) ∧ i < s.size ∧ Hid (Lay s i st st' p m)
  | 6, a, wr => ∃ (nn i : Nat) (l : List Int) (st : Int) (v x y m p : Value), FrH s w a v x y (.int .i64 i) m p ∧ Hid (HRow s w wr nn i l st v) ∧ i < s.size ∧ Hid ((pc s i st).2.2 = 0)
  | _, _, _ => False
def muH (s : ByteArray) (l : Nat) (a : Act) : Nat := 4 * (s.size - (intOf (a.tmps.getD 6 undef)).toNat) + (if l = 1 then 3 else if l = 2 ∨ l = 3 ∨ l = 4 then 2 else if l = 5 then 1 else 0)
theorem jH_lt {s : ByteArray} {w : World} : ∀ l a wr, jH s w l a wr → l < 7 := by
  intro l a wr h
  match l, h with
  | 0, _ => omega
  | 1, _ => omega
  | 2, _ => omega
  | 3, _ => omega
  | 4, _ => omega
  | 5, _ => omega
  | 6, _ => omega
  | (l + 7), h => exact absurd h (by simp [jH])
set_option maxHeartbeats 4000000 in
set_option maxRecDepth 100000 in
theorem iDecShift (s : ByteArray) (w : World) (hs : s.size ≤ 65536) (ht : TabAt w) :
    Calls Tryd.prog 10 #[.string s] w fun e w' => e = .returned (legV (hans s)) ∧ Below w.heap.size w w' := by
  obtain ⟨i0, hi, hz0, hz1, hz2⟩ := info_parts info5
  have HT := hide ht
  clear ht
  go_enter Tryd.func10, Tryd.ntmps10
  go_wp2
  apply wp_fall7 (jH s w) (fun l a _ => muH s l a)
  case h0 => rfl
  case h1 => rfl
  case h2 => rfl
  case h3 => rfl
  case h4 => rfl
  case h5 => rfl
  case h6 => rfl
  case hJ => exact jH_lt
  case first =>
    intro H
    go_wp2_with (at_make; refine wpList_make_own _ rfl _ _ 22 rfl w.heap.size 5 i0 (.int .u8 0) 1 Tryd.underlying22 hi hz0 hz1 .i64 .i64 _ s.size rfl rfl rfl ?b2 ?b3 ?b4 ?_)
    case b2 => rw [hz2]; omega
    case b3 => unfold maxLen; omega
    case b4 => simp
    intro w1 hown hgrow
    have hw1 := (made_below hgrow).size
    have hbl := ((Below.refl w.heap.size w).alloc (Nat.le_refl _) (.cells #[.int .i64 0, .int .i64 0, .string (strOfNums [])] 25)).trans ((made_below hgrow).mono (by simp))
    have hcl : w1.heap[w.heap.size]? = some (.cells #[.int .i64 0, .int .i64 0, .string (strOfNums [])] 25) := ((made_below hgrow).block _ (by simp)).trans (heap_alloc_new _ _)
    have HD : Hid (HRow s w w1 0 0 [] 0 (.slice (some ⟨w.heap.size + 1, 0, none⟩) 0 s.size)) := hide ⟨rfl, Nat.le_refl _, hown, hbl, hcl⟩
    clear hown hgrow hbl hcl
    go_wp2
    go_step3
    rename_i K hK
    exact hK _ _ (H _ _ ⟨0, 0, [], 0, _, _, _, _, rfl, HD⟩)
  case p0 =>
    intro a wr hJ
    obtain ⟨nn, i, l, st, v, y, m, p, HF, HD, rfl⟩ := hJ
    obtain ⟨u, rfl⟩ := HF.open
    clear HF
    go_hide hQ
    have HQ := hide hQ
    clear hQ
    obtain ⟨hd, hnn, hown, hbl, hcl⟩ := unhide HD
    have hl0 := (hst_bd s nn).2.2.2
    rw [hd] at hl0
    have hl2 : l.length ≤ s.size := hl0
    have htl := textL_le l
    have hw := hbl.size
    by_cases h0 : st = 0
    · subst h0
      have HA : Hid (hans s = legA (textL l)) := hide (hans_text hd hnn (Nat.lt_irrefl _))
      have HO := hide hown
      have HB := hide hbl
      have HC := hide hcl
      clear hd hown hbl hcl hl0 HD
      go_wp2_with fail
      refine (legOut_any w.heap.size _ (textL l) _ (unhide HO) (by omega)).mono ?_
      rintro e w3 ⟨rfl, hb3⟩
      have hc3 : w3.heap[w.heap.size]? = some (.cells #[.int .i64 0, .int .i64 0, .string (strOfNums [])] 25) := (hb3.block _ (Array.getElem?_eq_some_iff.1 (unhide HC)).1).trans (unhide HC)
      have HB3 := hide ((unhide HB).trans (hb3.mono (unhide HB).size))
      generalize hx : legA (textL l) = x at *
      obtain ⟨x0, x1, x2⟩ := x
      obtain ⟨c0, c1, c2, z0, z1, z2⟩ := store3 hc3
      obtain ⟨p0, p1, p2⟩ := leg_cells hc3 (.int .i64 x0) (.int .i64 x1) (.string (strOfNums x2))
      clear hb3 hc3 hx HO HB HC
      unfold legV
      go_wp2
      have e9 := unhide HQ
      subst e9
      simp only [jumps]
      refine bodyPost_ret (by simp [results, Tryd.results10, go_sem, p0, p1, p2]; try rfl) rfl ?_
      exact ⟨by rw [unhide HA]; rfl, below_set3 (unhide HB3) _ _ _⟩
    · have HA : Hid (hans s = (6, (s.size : Int), [])) := hide (hans_state hd hnn (Nat.lt_irrefl _) h0)
      have hq : (st != 0) = true := by simpa using h0
      obtain ⟨c0, c1, c2, z0, z1, z2⟩ := store3 hcl
      obtain ⟨p0, p1, p2⟩ := leg_cells hcl (.int .i64 6) (.int .i64 s.size) (.string { data := #[] })
      have HB3 := hide hbl
      clear hd hnn hown hbl hcl HD h0 hl0
      go_wp2
      have e9 := unhide HQ
      subst e9
      simp only [jumps]
      refine bodyPost_ret (by simp [results, Tryd.results10, go_sem, p0, p1, p2]; try rfl) rfl ?_
      exact ⟨by rw [unhide HA]; rfl, below_set3 (unhide HB3) _ _ _⟩
  case p1 =>
    intro a wr hJ
    obtain ⟨nn, i, l, st, v, y, m, p, HF, HD⟩ := hJ
    obtain ⟨u, rfl⟩ := HF.open
    clear HF
    go_hide hQ
    have HQ := hide hQ
    clear hQ
    have hbd := hst_bd s nn
    rw [(unhide HD).1] at hbd
    have hst0 : 0 ≤ st := hbd.1
    have hst4 : st ≤ 4 := hbd.2.1
    have hi1 : i ≤ s.size := hbd.2.2.1
    clear hbd
    by_cases he : i = s.size
    · have hq : ((i : Int) == (s.size : Int)) = true := by rw [beq_iff_eq]; omega
      have HE := hide he
      clear he
      go_wp2
      go_step3
      have e9 := unhide HQ
      subst e9
      refine ⟨⟨nn, i, l, st, _, _, _, _, rfl, HD, unhide HE⟩, ?_⟩
      simp [muH, intOf] <;> omega
    have hq : ((i : Int) == (s.size : Int)) = false := by rw [beq_eq_false_iff_ne]; omega
    have hlt : i < s.size := by omega
    have f1 : ∀ h, (s[i]'h).toNat = bt s i := fun h => bt_get s i h
    have hbt := bt_lt s i
    clear he
    by_cases h27 : bt s i = 27
    · have q27 : ((bt s i : Int) == 27) = true := by rw [beq_iff_eq]; omega
      have H27 := hide h27
      clear h27
      go_wp2
      go_step3
      have e9 := unhide HQ
      subst e9
      refine ⟨⟨nn, i, l, st, _, _, _, _, rfl, HD, hlt, H27⟩, ?_⟩
      simp [muH, intOf] <;> omega
    have q27 : ((bt s i : Int) == 27) = false := by rw [beq_eq_false_iff_ne]; omega
    by_cases h32 : bt s i < 32
    · have q32 : (bt s i : Int) < 32 := by omega
      have H32 := hide (And.intro h32 h27)
      clear h27 h32
      go_wp2
      go_step3
      have e9 := unhide HQ
      subst e9
      refine ⟨⟨nn, i, l, st, _, _, _, _, rfl, HD, hlt, H32⟩, ?_⟩
      simp [muH, intOf] <;> omega
    have q32 : (32 : Int) ≤ (bt s i : Int) := by omega
    have H32 : Hid (32 ≤ bt s i) := hide (by omega)
    clear h27 h32
    by_cases h4 : st = 4
    · subst h4
      go_wp2
      go_step3
      have e9 := unhide HQ
      subst e9
      refine ⟨⟨nn, i, l, _, _, _, _, rfl, HD, hlt, H32⟩, ?_⟩
      simp [muH, intOf] <;> omega
    · have q4 : (st == 4) = false := by rw [beq_eq_false_iff_ne]; exact h4
      have hst3 : st ≤ 3 := by omega
      have HL := hide (lay_single hst0 hst3 (unhide H32))
      clear h4 hst4
      go_wp2_with fail
      refine (single_any st (bt s i) hst0 hst3 hbt _).mono ?_
      rintro e w2 ⟨rfl, rfl⟩
      go_wp2
      go_step3
      have e9 := unhide HQ
      subst e9
      refine ⟨⟨nn, i, l, st, st, _, 1, _, _, rfl, HD, hlt, HL⟩, ?_⟩
      simp [muH, intOf] <;> omega
  case p2 =>
    intro a wr hJ
    obtain ⟨nn, i, l, st, v, y, m, p, HF, HD, hlt, H27⟩ := hJ
    obtain ⟨u, rfl⟩ := HF.open
    clear HF
    go_hide hQ
    have HQ := hide hQ
    clear hQ
    have hlt' : (i : Int) + 1 ≤ (s.size : Int) := by omega
    have hnb := nmAt_bd s i
    have HP := hide (pc_esc (s := s) (i := i) st (unhide H27))
    have CN := hide (fun W => named_at s i hlt W)
    obtain ⟨nm, hnm⟩ : ∃ nm, nmAt s i = nm := ⟨_, rfl⟩
    rw [hnm] at hnb HP CN
    obtain ⟨n1, n4, n2⟩ := hnb
    clear hnm
    go_wp2_with fail
    refine ((unhide CN) _).mono ?_
    rintro e w2 ⟨rfl, rfl⟩
    by_cases hn : nm = -1
    · subst hn
      have HP2 : Hid ((pc s i st).2.2 = 0) := hide (by rw [unhide HP, if_neg (by omega)])
      clear n2 CN
      go_wp2
      go_step3
      have e9 := unhide HQ
      subst e9
      refine ⟨⟨nn, i, l, st, _, _, _, _, _, rfl, HD, hlt, HP2⟩, ?_⟩
      simp [muH, intOf] <;> omega
    · have qn : (nm == -1) = false := by rw [beq_eq_false_iff_ne]; exact hn
      have h2 := n2 hn
      have HP2 : Hid (pc s i st = (-1, nm, 2)) := hide (by rw [unhide HP, if_pos hn])
      obtain ⟨hd, hnn, hown, hbl, hcl⟩ := unhide HD
      have HD2 : Hid (HRow s w wr (nn + 1) (i + 2) l nm _) := hide ⟨by rw [hst_succ hd hlt (unhide HP2) (by omega), if_neg (by omega)], by omega, hown, hbl, hcl⟩
      clear hd hnn hown hbl hcl n2 hn CN
      go_wp2
      go_step3
      have e9 := unhide HQ
      subst e9
      refine ⟨⟨nn + 1, i + 2, l, nm, _, _, _, _, rfl, HD2⟩, ?_⟩
      simp [muH, intOf] <;> omega
  case p3 =>
    intro a wr hJ
    obtain ⟨nn, i, l, st, v, y, m, p, HF, HD, hlt, H32⟩ := hJ
    obtain ⟨u, rfl⟩ := HF.open
    clear HF
    go_hide hQ
    have HQ := hide hQ
    clear hQ
    have f1 : ∀ h, (s[i]'h).toNat = bt s i := fun h => bt_get s i h
    have hbt := bt_lt s i
    have hw : wrap64 (bt s i : Int) = bt s i := by unfold wrap64; omega
    have HL := lay_ctrl (st := st) (unhide H32).1 (unhide H32).2
    by_cases h10 : bt s i = 10
    · have q10 : ((bt s i : Int) == 10) = true := by rw [beq_iff_eq]; omega
      rw [if_pos h10] at HL
      have HL2 := hide HL
      clear h10 HL
      go_wp2
      go_step3
      have e9 := unhide HQ
      subst e9
      refine ⟨⟨nn, i, l, st, 0, _, 1, _, _, rfl, HD, hlt, HL2⟩, ?_⟩
      simp [muH, intOf] <;> omega
    · have q10 : ((bt s i : Int) == 10) = false := by rw [beq_eq_false_iff_ne]; omega
      rw [if_neg h10] at HL
      have HL2 := hide HL
      clear h10 HL
      go_wp2
      go_step3
      have e9 := unhide HQ
      subst e9
      refine ⟨⟨nn, i, l, st, st, _, 1, _, _, rfl, HD, hlt, HL2⟩, ?_⟩
      simp [muH, intOf] <;> omega
  case p4 =>
    intro H2 a wr hJ
    obtain ⟨nn, i, l, v, y, m, p, HF, HD, hlt, H32⟩ := hJ
    obtain ⟨u, rfl⟩ := HF.open
    clear HF
    have HH := hide H2
    clear H2
    go_hide hQ
    have HQ := hide hQ
    clear hQ
    have hlt' : (i : Int) ≤ (s.size : Int) := by omega
    have HL := hide (lay_pair (unhide H32))
    go_wp2_with fail
    refine (pair_at s i hlt hs (unhide H32) _ ((unhide HT).below (unhide HD).2.2.2.1)).mono ?_
    rintro e w2 ⟨rfl, hb2⟩
    obtain ⟨hd, hnn, hown, hbl, hcl⟩ := unhide HD
    have HD2 : Hid (HRow s w w2 nn i l 4 _) := hide ⟨hd, hnn, ownsRow_below hown hb2, hbl.trans (hb2.mono hbl.size), (hb2.block _ (Array.getElem?_eq_some_iff.1 hcl).1).trans hcl⟩
    clear hd hnn hown hbl hcl hb2 HD
    go_wp2
    go_step3
    rename_i K hK
    refine hK _ _ ?_
    have e9 := unhide HQ
    subst e9
    refine wp_more ((unhide HH) _ _ ⟨nn, i, l, 4, 4, _, 2, _, _, rfl, HD2, hlt, HL⟩) (jumps_more fun _ _ _ x => ⟨x.1, Nat.lt_of_lt_of_le x.2 ?_⟩)
    simp [muH, intOf]
  case p5 =>
    intro a wr hJ
    obtain ⟨nn, i, l, st, st', p, m, v, y, HF, HD, hlt, HL⟩ := hJ
    obtain ⟨u, rfl⟩ := HF.open
    clear HF
    go_hide hQ
    have HQ := hide hQ
    clear hQ
    rcases unhide HL with ⟨hpt, hpc, hm⟩ | ⟨hpt, hpc⟩
    · obtain ⟨hd, hnn, hown, hbl, hcl⟩ := unhide HD
      have hbd := hst_bd s nn
      rw [hd] at hbd
      have hpb := pc_bd (s := s) (i := i) (st := st) hbd.1 hbd.2.1 hlt
      rw [hpc] at hpb
      have hl2 : l.length ≤ i := hbd.2.2.2
      have htl := textL_le l
      have him : i + m ≤ s.size := hpb.2.2.1
      have hp2 := (isPt_iff p).1 hpt
      have hp0 := hp2.1
      have hp1 := hp2.2.1
      have HS : Hid (hst s (nn + 1) = ⟨l ++ [p], st', i + m⟩) := hide (by rw [hst_succ hd hlt hpc hm, if_pos hp0])
      have HPT := hide hpt
      have HO := hide hown
      have HB := hide hbl
      have HC := hide hcl
      have hw := hbl.size
      have hm1 : 1 ≤ m := by omega
      clear hd hown hbl hcl hbd hpb hp2 hpc hm HL HD
      go_wp2_with fail
      refine (isPointI p _).mono ?_
      rintro e w2 ⟨rfl, rfl⟩
      have hpt2 := unhide HPT
      go_wp2_with fail
      refine (append_all w.heap.size _ (textL l) p (unhide HPT) _ (unhide HO) (by omega) (by omega)).mono ?_
      rintro e w3 ⟨v', rfl, ho3, hb3, hk3⟩
      have HD3 : Hid (HRow s w w3 (nn + 1) (i + m) (l ++ [p]) st' v') := hide ⟨unhide HS, by omega, by rw [textL_add1]; exact ho3, (unhide HB).trans hb3, hk3 _ _ (unhide HC) (notRow80 _ _ (by decide))⟩
      clear ho3 hb3 hk3
      go_wp2
      go_step3
      have e9 := unhide HQ
      subst e9
      refine ⟨⟨nn + 1, i + m, l ++ [p], st', _, _, _, _, rfl, HD3⟩, ?_⟩
      simp [muH, intOf] <;> omega
    · have HPC := hide hpc
      clear hpc HL
      go_wp2_with fail
      refine (isPointI p _).mono ?_
      rintro e w2 ⟨rfl, rfl⟩
      go_wp2
      go_step3
      have e9 := unhide HQ
      subst e9
      refine ⟨⟨nn, i, l, st, _, _, _, _, _, rfl, HD, hlt, HPC⟩, ?_⟩
      simp [muH, intOf] <;> omega
  case p6 =>
    intro a wr hJ
    obtain ⟨nn, i, l, st, v, x, y, m, p, HF, HD, hlt, HPC⟩ := hJ
    obtain ⟨u, rfl⟩ := HF.open
    clear HF
    go_hide hQ
    have HQ := hide hQ
    clear hQ
    obtain ⟨hd, hnn, hown, hbl, hcl⟩ := unhide HD
    have HA : Hid (hans s = (3, (i : Int), [])) := hide (hans_bad hd (by omega) hlt (unhide HPC))
    obtain ⟨c0, c1, c2, z0, z1, z2⟩ := store3 hcl
    obtain ⟨p0, p1, p2⟩ := leg_cells hcl (.int .i64 3) (.int .i64 i) (.string { data := #[] })
    have HB3 := hide hbl
    clear hd hnn hown hbl hcl HD HPC
    go_wp2
    have e9 := unhide HQ
    subst e9
    simp only [jumps]
    refine bodyPost_ret (by simp [results, Tryd.results10, go_sem, p0, p1, p2]; try rfl) rfl ?_
    exact ⟨by rw [unhide HA]; rfl, below_set3 (unhide HB3) _ _ _⟩
end Go.Proofs.YtohpifhpfijmcaaDoor
