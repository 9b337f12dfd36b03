/- Several texts in one. -/
import Derived.Test.YtiodngmbpnkoeaaDoorNPts
import Derived.Test.YtiodngmbpnkoeaaDoorMA
import Derived.Lib.AppendStr
import Derived.Lib.BufferRead
import Derived.Outline
/- utf8.AppendRune onto a row of bytes that the call owns. -/
namespace Go.Proofs.YtiodngmbpnkoeaaDoor
open Go.RowKit
theorem info5 : (Tryd.prog.info? 5).map (fun i => (i.zero, i.size, i.bytes)) = some (some (.int .u8 0), 1, 1) := by kernel_rfl
def runeCells (r : Int) : List Value := (Lib.encodeRuneZ r).map (Value.int .u8)
set_option maxHeartbeats 1000000 in
set_option maxRecDepth 100000 in
theorem app_one (B : Nat) (v : Value) (n : Nat) (xs : List Value) (r : Int) (h0 : 0 ≤ r) (h1 : r ≤ 127) (w : World) (hown : w.ownsRow B 5 1 v n xs) (hlen : n + 4 ≤ 140737488355328) (hBw : B ≤ w.heap.size) :
    Calls Tryd.prog 61 #[v, .int .i32 r] w fun e w' => ∃ v', e = .returned v' ∧ w'.ownsRow B 5 1 v' (n + 1) (xs ++ [.int .u8 (r)]) ∧ ∃ o, (w.alloc o).grownBy w' v.ownBlock := by
  obtain ⟨i0, hi, hz0, hz1, hz2⟩ := info_parts info5
  go_enter Tryd.func61, Tryd.ntmps61
  go_wp2_with (first | (at_builtin; refine wpList_append_own _ rfl _ _ 22 rfl B 5 i0 (.int .u8 0) 1 1 Tryd.underlying22 hi hz0 hz1 hz2 rfl (by decide) _ _ _ rfl (hown.alloc _) ⟨w.heap.size, 0, none⟩ 1 1 [.int .u8 (r)] rfl rfl ?c1 ?c2 ?c3 ?c4 ?c5 ?_) | go_in)
  case c1 =>
    intro j u hj
    match j, hj with
    | 0, hj => simp at hj; subst hj; simp [Addr.add]
    | (j + 1), hj => simp at hj
  case c2 => intro u hu; simp at hu; subst hu; rfl
  case c3 => unfold maxLen; omega
  case c4 => omega
  case c5 => simp; omega
  intro v' w2 hown' hgrow _
  go_wp2
  go_ret
  exact ⟨_, rfl, hown', _, hgrow⟩
set_option maxHeartbeats 1000000 in
set_option maxRecDepth 100000 in
theorem app_two (B : Nat) (v : Value) (n : Nat) (xs : List Value) (r : Int) (h0 : 128 ≤ r) (h1 : r ≤ 2047) (w : World) (hown : w.ownsRow B 5 1 v n xs) (hlen : n + 4 ≤ 140737488355328) (hBw : B ≤ w.heap.size) :
    Calls Tryd.prog 61 #[v, .int .i32 r] w fun e w' => ∃ v', e = .returned v' ∧ w'.ownsRow B 5 1 v' (n + 2) (xs ++ [.int .u8 (192 + r / 64), .int .u8 (128 + r % 64)]) ∧ ∃ o, (w.alloc o).grownBy w' v.ownBlock := by
  obtain ⟨i0, hi, hz0, hz1, hz2⟩ := info_parts info5
  go_enter Tryd.func61, Tryd.ntmps61
  go_wp2_with (first | (at_builtin; refine wpList_append_own _ rfl _ _ 22 rfl B 5 i0 (.int .u8 0) 1 1 Tryd.underlying22 hi hz0 hz1 hz2 rfl (by decide) _ _ _ rfl (hown.alloc _) ⟨w.heap.size, 0, none⟩ 2 2 [.int .u8 (192 + r / 64), .int .u8 (128 + r % 64)] rfl rfl ?c1 ?c2 ?c3 ?c4 ?c5 ?_) | go_in)
  case c1 =>
    intro j u hj
    match j, hj with
    | 0, hj => simp at hj; subst hj; simp [Addr.add]
    | 1, hj => simp at hj; subst hj; simp [Addr.add]
    | (j + 2), hj => simp at hj
  case c2 => intro u hu; simp at hu; rcases hu with rfl | rfl <;> rfl
  case c3 => unfold maxLen; omega
  case c4 => omega
  case c5 => simp; omega
  intro v' w2 hown' hgrow _
  go_wp2
  go_ret
  exact ⟨_, rfl, hown', _, hgrow⟩
set_option maxHeartbeats 1000000 in
set_option maxRecDepth 100000 in
theorem app_lo (B : Nat) (v : Value) (n : Nat) (xs : List Value) (r : Int) (h0 : 2048 ≤ r) (h1 : r < 55296) (w : World) (hown : w.ownsRow B 5 1 v n xs) (hlen : n + 4 ≤ 140737488355328) (hBw : B ≤ w.heap.size) :
    Calls Tryd.prog 61 #[v, .int .i32 r] w fun e w' => ∃ v', e = .returned v' ∧ w'.ownsRow B 5 1 v' (n + 3) (xs ++ [.int .u8 (224 + r / 4096), .int .u8 (128 + r / 64 % 64), .int .u8 (128 + r % 64)]) ∧ ∃ o, (w.alloc o).grownBy w' v.ownBlock := by
  obtain ⟨i0, hi, hz0, hz1, hz2⟩ := info_parts info5
  go_enter Tryd.func61, Tryd.ntmps61
  go_wp2_with (first | (at_builtin; refine wpList_append_own _ rfl _ _ 22 rfl B 5 i0 (.int .u8 0) 1 1 Tryd.underlying22 hi hz0 hz1 hz2 rfl (by decide) _ _ _ rfl (hown.alloc _) ⟨w.heap.size, 0, none⟩ 3 3 [.int .u8 (224 + r / 4096), .int .u8 (128 + r / 64 % 64), .int .u8 (128 + r % 64)] rfl rfl ?c1 ?c2 ?c3 ?c4 ?c5 ?_) | go_in)
  case c1 =>
    intro j u hj
    match j, hj with
    | 0, hj => simp at hj; subst hj; simp [Addr.add]
    | 1, hj => simp at hj; subst hj; simp [Addr.add]
    | 2, hj => simp at hj; subst hj; simp [Addr.add]
    | (j + 3), hj => simp at hj
  case c2 => intro u hu; simp at hu; rcases hu with rfl | rfl | rfl <;> rfl
  case c3 => unfold maxLen; omega
  case c4 => omega
  case c5 => simp; omega
  intro v' w2 hown' hgrow _
  go_wp2
  go_ret
  exact ⟨_, rfl, hown', _, hgrow⟩
set_option maxHeartbeats 1000000 in
set_option maxRecDepth 100000 in
theorem app_hi (B : Nat) (v : Value) (n : Nat) (xs : List Value) (r : Int) (h0 : 57343 < r) (h1 : r ≤ 65535) (w : World) (hown : w.ownsRow B 5 1 v n xs) (hlen : n + 4 ≤ 140737488355328) (hBw : B ≤ w.heap.size) :
    Calls Tryd.prog 61 #[v, .int .i32 r] w fun e w' => ∃ v', e = .returned v' ∧ w'.ownsRow B 5 1 v' (n + 3) (xs ++ [.int .u8 (224 + r / 4096), .int .u8 (128 + r / 64 % 64), .int .u8 (128 + r % 64)]) ∧ ∃ o, (w.alloc o).grownBy w' v.ownBlock := by
  obtain ⟨i0, hi, hz0, hz1, hz2⟩ := info_parts info5
  go_enter Tryd.func61, Tryd.ntmps61
  go_wp2_with (first | (at_builtin; refine wpList_append_own _ rfl _ _ 22 rfl B 5 i0 (.int .u8 0) 1 1 Tryd.underlying22 hi hz0 hz1 hz2 rfl (by decide) _ _ _ rfl (hown.alloc _) ⟨w.heap.size, 0, none⟩ 3 3 [.int .u8 (224 + r / 4096), .int .u8 (128 + r / 64 % 64), .int .u8 (128 + r % 64)] rfl rfl ?c1 ?c2 ?c3 ?c4 ?c5 ?_) | go_in)
  case c1 =>
    intro j u hj
    match j, hj with
    | 0, hj => simp at hj; subst hj; simp [Addr.add]
    | 1, hj => simp at hj; subst hj; simp [Addr.add]
    | 2, hj => simp at hj; subst hj; simp [Addr.add]
    | (j + 3), hj => simp at hj
  case c2 => intro u hu; simp at hu; rcases hu with rfl | rfl | rfl <;> rfl
  case c3 => unfold maxLen; omega
  case c4 => omega
  case c5 => simp; omega
  intro v' w2 hown' hgrow _
  go_wp2
  go_ret
  exact ⟨_, rfl, hown', _, hgrow⟩
set_option maxHeartbeats 1000000 in
set_option maxRecDepth 100000 in
theorem app_four (B : Nat) (v : Value) (n : Nat) (xs : List Value) (r : Int) (h0 : 65536 ≤ r) (h1 : r ≤ 1114111) (w : World) (hown : w.ownsRow B 5 1 v n xs) (hlen : n + 4 ≤ 140737488355328) (hBw : B ≤ w.heap.size) :
    Calls Tryd.prog 61 #[v, .int .i32 r] w fun e w' => ∃ v', e = .returned v' ∧ w'.ownsRow B 5 1 v' (n + 4) (xs ++ [.int .u8 (240 + r / 262144), .int .u8 (128 + r / 4096 % 64), .int .u8 (128 + r / 64 % 64), .int .u8 (128 + r % 64)]) ∧ ∃ o, (w.alloc o).grownBy w' v.ownBlock := by
  obtain ⟨i0, hi, hz0, hz1, hz2⟩ := info_parts info5
  go_enter Tryd.func61, Tryd.ntmps61
  go_wp2_with (first | (at_builtin; refine wpList_append_own _ rfl _ _ 22 rfl B 5 i0 (.int .u8 0) 1 1 Tryd.underlying22 hi hz0 hz1 hz2 rfl (by decide) _ _ _ rfl (hown.alloc _) ⟨w.heap.size, 0, none⟩ 4 4 [.int .u8 (240 + r / 262144), .int .u8 (128 + r / 4096 % 64), .int .u8 (128 + r / 64 % 64), .int .u8 (128 + r % 64)] rfl rfl ?c1 ?c2 ?c3 ?c4 ?c5 ?_) | go_in)
  case c1 =>
    intro j u hj
    match j, hj with
    | 0, hj => simp at hj; subst hj; simp [Addr.add]
    | 1, hj => simp at hj; subst hj; simp [Addr.add]
    | 2, hj => simp at hj; subst hj; simp [Addr.add]
    | 3, hj => simp at hj; subst hj; simp [Addr.add]
    | (j + 4), hj => simp at hj
  case c2 => intro u hu; simp at hu; rcases hu with rfl | rfl | rfl | rfl <;> rfl
  case c3 => unfold maxLen; omega
  case c4 => omega
  case c5 => simp; omega
  intro v' w2 hown' hgrow _
  go_wp2
  go_ret
  exact ⟨_, rfl, hown', _, hgrow⟩
theorem grown_belowA {B : Nat} {w w' : World} {v : Value} {o : Obj} {n : Nat} {xs : List Value} (hown : w.ownsRow B 5 1 v n xs) (hB : B ≤ w.heap.size) (h : (w.alloc o).grownBy w' v.ownBlock) : Below B w w' :=
  ((Below.refl B w).alloc hB o).grown h (by simp; omega) (fun k hk => (hown.lt k hk).1)
theorem append_any (B : Nat) (v : Value) (n : Nat) (xs : List Value) (r : Int) (hr : isPt r = true) (w : World) (hown : w.ownsRow B 5 1 v n xs) (hlen : n + 4 ≤ 140737488355328) (hBw : B ≤ w.heap.size) :
    Calls Tryd.prog 61 #[v, .int .i32 r] w fun e w' => ∃ v', e = .returned v' ∧ w'.ownsRow B 5 1 v' (n + (Lib.encodeRuneZ r).length) (xs ++ runeCells r) ∧ Below B w w' := by
  have hp := (isPt_iff r).1 hr
  by_cases h1 : r ≤ 127
  · refine (app_one B v n xs r hp.1 h1 w hown hlen hBw).mono fun e w' ⟨v', he, ho, _, hg⟩ => ⟨v', he, ?_, grown_belowA hown hBw hg⟩
    rw [runeCells, Lib.encodeRuneZ_one hp.1 h1]; exact ho
  by_cases h2 : r ≤ 2047
  · refine (app_two B v n xs r (by omega) h2 w hown hlen hBw).mono fun e w' ⟨v', he, ho, _, hg⟩ => ⟨v', he, ?_, grown_belowA hown hBw hg⟩
    rw [runeCells, Lib.encodeRuneZ_two (by omega) h2]; exact ho
  by_cases h3 : r < 55296
  · refine (app_lo B v n xs r (by omega) h3 w hown hlen hBw).mono fun e w' ⟨v', he, ho, _, hg⟩ => ⟨v', he, ?_, grown_belowA hown hBw hg⟩
    rw [runeCells, Lib.encodeRuneZ_three (.inl ⟨by omega, h3⟩)]; exact ho
  by_cases h4 : r ≤ 65535
  · refine (app_hi B v n xs r (by omega) h4 w hown hlen hBw).mono fun e w' ⟨v', he, ho, _, hg⟩ => ⟨v', he, ?_, grown_belowA hown hBw hg⟩
    rw [runeCells, Lib.encodeRuneZ_three (.inr ⟨by omega, h4⟩)]; exact ho
  · refine (app_four B v n xs r (by omega) (by omega) w hown hlen hBw).mono fun e w' ⟨v', he, ho, _, hg⟩ => ⟨v', he, ?_, grown_belowA hown hBw hg⟩
    rw [runeCells, Lib.encodeRuneZ_four (by omega) (by omega)]; exact ho
end Go.Proofs.YtiodngmbpnkoeaaDoor
/- TextOf of the program and of the specification answer with the bytes of the points. -/
namespace Go.Proofs.YtiodngmbpnkoeaaDoor
open Go.RowKit
def textL (l : List Int) : List Int := l.flatMap Lib.encodeRuneZ
theorem textL_snoc (l : List Int) (k : Nat) (h : k < l.length) : textL (l.take (k + 1)) = textL (l.take k) ++ Lib.encodeRuneZ (nth l k) := by
  have e : nth l k = l[k] := by simp [nth, List.getD, h]
  rw [List.take_succ_eq_append_getElem h, e]
  unfold textL
  rw [List.flatMap_append, List.flatMap_singleton]
theorem textL_le (l : List Int) : (textL l).length ≤ 4 * l.length := by
  induction l with
  | nil => simp [textL]
  | cons a t ih =>
    have h1 := (Lib.encodeRuneZ_length a).2
    have h2 : textL (a :: t) = Lib.encodeRuneZ a ++ textL t := by simp [textL]
    rw [h2, List.length_append, List.length_cons]
    omega
theorem textL_take (l : List Int) (k : Nat) : (textL (l.take k)).length ≤ 4 * k := by
  have h1 := textL_le (l.take k)
  have h2 : (l.take k).length ≤ k := List.length_take_le _ _
  omega
theorem conv_owned (w : World) (B : Nat) (v : Value) (n : Nat) (zs : List Int) (h : w.ownsRow B 5 1 v n (zs.map (Value.int .u8))) :
    (convert 22 9 v).run Tryd.prog w = .ok (.string (strOfNums zs)) w := by
  have hl : zs.length = n := by simpa using h.1
  rcases h.2 with ⟨rfl, hn⟩ | ⟨g, cap, cur, hv, hg, hh, hn, hm, hs, ht⟩
  · obtain rfl : zs = [] := List.length_eq_zero_iff.1 (by omega)
    exact Lib.run_convert_nil_bytes w 22 9 5 0 Tryd.underlying22 Tryd.underlying5 Tryd.underlying9
  · subst hv
    refine conv_of w g cap zs n hl fun i hi => ?_
    rw [h.cellAt i (by omega), List.getElem?_map]
    simp [List.getD, show i < zs.length by omega]
theorem strCells_nums (zs : List Int) (h : ∀ x ∈ zs, 0 ≤ x ∧ x < 256) : Lib.strCells (strOfNums zs) = zs.map (Value.int .u8) := by
  unfold Lib.strCells
  rw [strOfNums_data, List.map_map]
  apply List.map_congr_left
  intro x hx
  have := h x hx
  simp only [Function.comp]
  congr 1
  rw [UInt8.toNat_ofNat_of_lt' (by show x.toNat < 256; omega)]
  omega
theorem text_step {w wr w2 w3 : World} {s v' : Value} {l : List Int} {k : Nat} (hk : k < l.length) (hb : Below w.heap.size w wr) (hb2 : Below wr.heap.size wr w2)
    (ho2 : w2.ownsRow w.heap.size 5 1 s (textL (l.take k)).length ((textL (l.take k)).map (Value.int .u8)))
    (ho3 : w3.ownsRow w.heap.size 5 1 v' ((textL (l.take k)).length + (strOfNums (Lib.encodeRuneZ (nth l k))).size) ((textL (l.take k)).map (Value.int .u8) ++ Lib.strCells (strOfNums (Lib.encodeRuneZ (nth l k)))))
    (hg : w2.grownBy w3 s.ownBlock) : w3.ownsRow w.heap.size 5 1 v' (textL (l.take (k + 1))).length ((textL (l.take (k + 1))).map (Value.int .u8)) ∧ Below w.heap.size w w3 := by
  constructor
  · rw [textL_snoc l k hk, List.length_append, List.map_append]
    rw [strCells_nums _ (Lib.encodeRuneZ_byte _), strOfNums_size] at ho3
    exact ho3
  · exact (hb.trans (hb2.mono hb.size)).grown hg (Nat.le_trans hb.size hb2.size) (fun j hj => (ho2.lt j hj).1)
set_option maxHeartbeats 1000000 in
theorem l01Text_nil (a : Option Addr) (cap : Nat) (l : List Int) (w : World) (h0 : l.length = 0) :
    Calls Tryd.prog 21 #[.slice a l.length cap] w fun e w' => e = .returned (.string (strOfNums (textL l))) ∧ Below w.heap.size w w' := by
  obtain ⟨i0, hi, hz0, hz1, hz2⟩ := info_parts info5
  have H0 := hide h0
  clear h0
  have hl : l.length ≤ 600000 := by rw [unhide H0]; omega
  have HO0 : Hid ((w.alloc (.cells #[] 5)).ownsRow w.heap.size 5 1 (.slice (some ⟨w.heap.size, 0, none⟩) 0 0) (textL (l.take 0)).length ((textL (l.take 0)).map (Value.int .u8))) := hide (World.ownsRow_lit w #[] 0 (Nat.le_refl _) (by unfold maxLen; omega) rfl)
  have HB0 : Hid (Below w.heap.size w (w.alloc (.cells #[] 5))) := hide ((Below.refl _ _).alloc (Nat.le_refl _) _)
  go_enter Tryd.func21, Tryd.ntmps21
  go_wp2
  go_loopw [3, 4] (fun s i wr => ∃ k : Nat, k ≤ l.length ∧ i = .int .i64 k ∧ Hid (wr.ownsRow w.heap.size 5 1 s (textL (l.take k)).length ((textL (l.take k)).map (Value.int .u8))) ∧ Hid (Below w.heap.size w wr)) (fun _ i _ => l.length - (intOf i).toNat)
  case atStart => exact ⟨0, Nat.zero_le _, rfl, HO0, HB0⟩
  case round =>
    obtain ⟨k, hk, rfl, HO, HB⟩ := hrel
    clear HO0 HB0
    by_cases hlt : k < l.length
    · have := unhide H0; omega
    · obtain rfl : k = l.length := by omega
      have hcv := conv_owned wr _ _ _ _ (unhide HO)
      rw [List.take_length] at hcv
      go_wp2
      go_ret
      exact ⟨rfl, unhide HB⟩
set_option maxHeartbeats 1000000 in
theorem l01Text_at (b off cap : Nat) (l : List Int) (w : World) (hbs : b < w.heap.size) (hc : ∀ i, i < l.length → w.cell? ⟨b, off + i, none⟩ = some (.int .i64 (nth l i))) (hl : l.length ≤ 600000) :
    Calls Tryd.prog 21 #[.slice (some ⟨b, off, none⟩) l.length cap] w fun e w' => e = .returned (.string (strOfNums (textL l))) ∧ Below w.heap.size w w' := by
  obtain ⟨i0, hi, hz0, hz1, hz2⟩ := info_parts info5
  have HC := hide hc
  clear hc
  have HO0 : Hid ((w.alloc (.cells #[] 5)).ownsRow w.heap.size 5 1 (.slice (some ⟨w.heap.size, 0, none⟩) 0 0) (textL (l.take 0)).length ((textL (l.take 0)).map (Value.int .u8))) := hide (World.ownsRow_lit w #[] 0 (Nat.le_refl _) (by unfold maxLen; omega) rfl)
  have HB0 : Hid (Below w.heap.size w (w.alloc (.cells #[] 5))) := hide ((Below.refl _ _).alloc (Nat.le_refl _) _)
  go_enter Tryd.func21, Tryd.ntmps21
  go_wp2
  go_loopw [3, 4] (fun s i wr => ∃ k : Nat, k ≤ l.length ∧ i = .int .i64 k ∧ Hid (wr.ownsRow w.heap.size 5 1 s (textL (l.take k)).length ((textL (l.take k)).map (Value.int .u8))) ∧ Hid (Below w.heap.size w wr)) (fun _ i _ => l.length - (intOf i).toNat)
  case atStart => exact ⟨0, Nat.zero_le _, rfl, HO0, HB0⟩
  case round =>
    obtain ⟨k, hk, rfl, HO, HB⟩ := hrel
    clear HO0 HB0
    by_cases hlt : k < l.length
    · have c1 := ((unhide HB).cell (p := ⟨b, off + k, none⟩) hbs).trans ((unhide HC) k hlt)
      have hle := textL_take l k
      have hel := (Lib.encodeRuneZ_length (nth l k)).2
      have hsz : (strOfNums (Lib.encodeRuneZ (nth l k))).size ≤ 4 := by rw [strOfNums_size]; exact hel
      have hbse := (unhide HB).size
      go_wp2_with (first | (go_at_call 46; refine (write_any (nth l k) _).mono ?_; rintro e w2 ⟨rfl, hb2⟩; have HB2 := hide hb2; have hb2s := hb2.size; clear hb2; have HO2 := hide (ownsRow_below (unhide HO) (unhide HB2))) | (at_builtin; refine Lib.wpList_append_own_string _ rfl _ _ 22 9 rfl w.heap.size 5 i0 Tryd.underlying22 Tryd.underlying9 hi hz0 hz1 hz2 _ _ _ rfl (unhide HO2) _ rfl ?c1 ?c2 ?c3 ?_))
      case c1 => unfold maxLen; omega
      case c2 => omega
      case c3 => omega
      intro v' w3 hown' hgrow _
      have R := hide (text_step hlt (unhide HB) (unhide HB2) (unhide HO2) hown' hgrow)
      clear hown' hgrow
      go_wp2
      go_roundw
      case rel => exact ⟨k + 1, by omega, by go_num, hide (unhide R).1, hide (unhide R).2⟩
      case measure => simp [intOf]; omega
    · obtain rfl : k = l.length := by omega
      have hcv := conv_owned wr _ _ _ _ (unhide HO)
      rw [List.take_length] at hcv
      go_wp2
      go_ret
      exact ⟨rfl, unhide HB⟩
theorem l01Text (v : Value) (l : List Int) (w : World) (h : IntsAt w v l) (hl : l.length ≤ 600000) :
    Calls Tryd.prog 21 #[v] w fun e w' => e = .returned (.string (strOfNums (textL l))) ∧ Below w.heap.size w w' := by
  obtain ⟨a, cap, rfl, h⟩ := h
  rcases h with h | ⟨b, off, rfl, hbs, hc⟩
  · exact l01Text_nil a cap l w (by rw [h]; rfl)
  · exact l01Text_at b off cap l w hbs hc hl
end Go.Proofs.YtiodngmbpnkoeaaDoor
/- TextOf of the program, of the specification, and their law. -/
namespace Go.Proofs.YtiodngmbpnkoeaaDoor
open Go.RowKit
theorem isPt_broken : isPt 65533 = true := by decide
theorem enc_bad (p : Int) (h : isPt p = false) : Lib.encodeRuneZ 65533 = Lib.encodeRuneZ p := by
  have hn : ¬ (0 ≤ p ∧ p ≤ 1114111 ∧ (p < 55296 ∨ 57343 < p)) := fun hh => by rw [(isPt_iff p).2 hh] at h; cases h
  rw [Lib.encodeRuneZ_bad (r := p) (by omega), Lib.encodeRuneZ_three (r := 65533) (.inr (by omega))]
  rfl
theorem impl_step {w wr w2 : World} {v' : Value} {l : List Int} {k : Nat} {r : Int} (hk : k < l.length) (he : Lib.encodeRuneZ r = Lib.encodeRuneZ (nth l k)) (hb : Below w.heap.size w wr)
    (ho2 : w2.ownsRow w.heap.size 5 1 v' ((textL (l.take k)).length + (Lib.encodeRuneZ r).length) ((textL (l.take k)).map (Value.int .u8) ++ runeCells r))
    (hb2 : Below w.heap.size wr w2) : w2.ownsRow w.heap.size 5 1 v' (textL (l.take (k + 1))).length ((textL (l.take (k + 1))).map (Value.int .u8)) ∧ Below w.heap.size w w2 := by
  refine ⟨?_, hb.trans hb2⟩
  rw [textL_snoc l k hk, List.length_append, List.map_append, ← he]
  exact ho2
set_option maxHeartbeats 1000000 in
theorem implText_nil (a : Option Addr) (cap : Nat) (l : List Int) (w : World) (h0 : l.length = 0) :
    Calls Tryd.prog 44 #[.slice a l.length cap] w fun e w' => e = .returned (.string (strOfNums (textL l))) ∧ Below w.heap.size w w' := by
  obtain ⟨i0, hi, hz0, hz1, hz2⟩ := info_parts info5
  have H0 := hide h0
  clear h0
  have hl : l.length ≤ 600000 := by rw [unhide H0]; omega
  go_enter Tryd.func44, Tryd.ntmps44
  go_wp2_with (at_make; refine wpList_make_own _ rfl _ _ 22 rfl w.heap.size 5 i0 (.int .u8 0) 1 Tryd.underlying22 hi hz0 hz1 .i64 .i64 _ l.length rfl rfl rfl ?b2 ?b3 ?b4 ?_)
  case b2 => rw [hz2]; omega
  case b3 => unfold maxLen; omega
  case b4 => omega
  intro w1 hown hgrow
  have HO0 : Hid (w1.ownsRow w.heap.size 5 1 (.slice (some ⟨w.heap.size, 0, none⟩) 0 l.length) (textL (l.take 0)).length ((textL (l.take 0)).map (Value.int .u8))) := hide hown
  have HB0 := hide (made_below hgrow)
  clear hown hgrow
  go_wp2
  go_loopw [3, 11] (fun s i wr => ∃ k : Nat, k ≤ l.length ∧ i = .int .i64 k ∧ Hid (wr.ownsRow w.heap.size 5 1 s (textL (l.take k)).length ((textL (l.take k)).map (Value.int .u8))) ∧ Hid (Below w.heap.size w wr)) (fun _ i _ => l.length - (intOf i).toNat)
  case atStart => exact ⟨0, Nat.zero_le _, rfl, HO0, HB0⟩
  case round =>
    obtain ⟨k, hk, rfl, HO, HB⟩ := hrel
    clear HO0 HB0
    by_cases hlt : k < l.length
    · have := unhide H0; omega
    · obtain rfl : k = l.length := by omega
      have hcv := conv_owned wr _ _ _ _ (unhide HO)
      rw [List.take_length] at hcv
      go_wp2
      go_ret
      exact ⟨rfl, unhide HB⟩
set_option maxHeartbeats 1000000 in
theorem implText_at (b off cap : Nat) (l : List Int) (w : World) (hbs : b < w.heap.size) (hc : ∀ i, i < l.length → w.cell? ⟨b, off + i, none⟩ = some (.int .i64 (nth l i))) (hl : l.length ≤ 600000) :
    Calls Tryd.prog 44 #[.slice (some ⟨b, off, none⟩) l.length cap] w fun e w' => e = .returned (.string (strOfNums (textL l))) ∧ Below w.heap.size w w' := by
  obtain ⟨i0, hi, hz0, hz1, hz2⟩ := info_parts info5
  have HC := hide hc
  clear hc
  go_enter Tryd.func44, Tryd.ntmps44
  go_wp2_with (at_make; refine wpList_make_own _ rfl _ _ 22 rfl w.heap.size 5 i0 (.int .u8 0) 1 Tryd.underlying22 hi hz0 hz1 .i64 .i64 _ l.length rfl rfl rfl ?b2 ?b3 ?b4 ?_)
  case b2 => rw [hz2]; omega
  case b3 => unfold maxLen; omega
  case b4 => omega
  intro w1 hown hgrow
  have HO0 : Hid (w1.ownsRow w.heap.size 5 1 (.slice (some ⟨w.heap.size, 0, none⟩) 0 l.length) (textL (l.take 0)).length ((textL (l.take 0)).map (Value.int .u8))) := hide hown
  have HB0 := hide (made_below hgrow)
  clear hown hgrow
  go_wp2
  go_loopw [3, 11] (fun s i wr => ∃ k : Nat, k ≤ l.length ∧ i = .int .i64 k ∧ Hid (wr.ownsRow w.heap.size 5 1 s (textL (l.take k)).length ((textL (l.take k)).map (Value.int .u8))) ∧ Hid (Below w.heap.size w wr)) (fun _ i _ => l.length - (intOf i).toNat)
  case atStart => exact ⟨0, Nat.zero_le _, rfl, HO0, HB0⟩
  case round =>
    obtain ⟨k, hk, rfl, HO, HB⟩ := hrel
    clear HO0 HB0
    by_cases hlt : k < l.length
    · have c1 := ((unhide HB).cell (p := ⟨b, off + k, none⟩) hbs).trans ((unhide HC) k hlt)
      have hle := textL_take l k
      have hbse := (unhide HB).size
      cases hp : isPt (nth l k)
      · have HE := hide (enc_bad (nth l k) hp)
        have HP := hide isPt_broken
        go_wp2_with (first | (go_at_call 60; refine (isPointP (nth l k) _).mono ?_; rintro e w' ⟨rfl, rfl⟩) | (go_at_call 61; refine (append_any w.heap.size _ _ _ 65533 (unhide HP) _ (unhide HO) (by omega) (by omega)).mono ?_; rintro e w2 ⟨v', rfl, ho2, hb2⟩))
        have R := hide (impl_step hlt (unhide HE) (unhide HB) ho2 hb2)
        clear ho2 hb2
        go_wp2
        go_roundw
        case rel => exact ⟨k + 1, by omega, by go_num, hide (unhide R).1, hide (unhide R).2⟩
        case measure => simp [intOf]; omega
      · have HP := hide hp
        have hpb := (isPt_iff _).1 hp
        have hp0 := hpb.1
        have hp1 := hpb.2.1
        clear hpb
        go_wp2_with (first | (go_at_call 60; refine (isPointP (nth l k) _).mono ?_; rintro e w' ⟨rfl, rfl⟩) | (go_at_call 61; refine (append_any w.heap.size _ _ _ (nth l k) (unhide HP) _ (unhide HO) (by omega) (by omega)).mono ?_; rintro e w2 ⟨v', rfl, ho2, hb2⟩))
        have R := hide (impl_step hlt rfl (unhide HB) ho2 hb2)
        clear ho2 hb2
        go_wp2
        go_roundw
        case rel => exact ⟨k + 1, by omega, by go_num, hide (unhide R).1, hide (unhide R).2⟩
        case measure => simp [intOf]; omega
    · obtain rfl : k = l.length := by omega
      have hcv := conv_owned wr _ _ _ _ (unhide HO)
      rw [List.take_length] at hcv
      go_wp2
      go_ret
      exact ⟨rfl, unhide HB⟩
theorem implWritten (v : Value) (l : List Int) (w : World) (h : IntsAt w v l) (hl : l.length ≤ 600000) :
    Calls Tryd.prog 44 #[v] w fun e w' => e = .returned (.string (strOfNums (textL l))) ∧ Below w.heap.size w w' := by
  obtain ⟨a, cap, rfl, h⟩ := h
  rcases h with h | ⟨b, off, rfl, hbs, hc⟩
  · exact implText_nil a cap l w (by rw [h]; rfl)
  · exact implText_at b off cap l w hbs hc hl
theorem small_any (s : ByteArray) (w : World) (h : s.size ≤ 65536) : Calls Tryd.prog 20 #[.string s] w fun e w' => e = .returned (.string s) ∧ w' = w := by
  go_enter Tryd.func20, Tryd.ntmps20
  go_wp2
  go_ret
  exact ⟨rfl, rfl⟩
end Go.Proofs.YtiodngmbpnkoeaaDoor
