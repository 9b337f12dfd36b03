/- Several texts in one. -/
import Derived.Test.YtamigjljgepfiaaGreatDoorRows
import Derived.Test.YtamigjljgepfiaaGreatDoorMA
import Derived.WalkKit
import Derived.WalkLawsBesides
import Derived.WalkSpells
import Derived.Below
import Derived.Lib.RuneBytes
import Derived.Lib.SlBytesRow
import Derived.Lib.AppendStr
import Derived.Lib.BufferRead
import Derived.Outline
import Derived.Laws.RangeAny
import Derived.Lib.OthersKept
import Derived.Laws.Concat
import Derived.Deep.Cut
/- Points and how they are written: the program's and the specification's. -/
namespace Go.Proofs.YtamigjljgepfiaaGreatDoor
open Go.RowKit
def isPt (p : Int) : Bool := decide (0 ≤ p ∧ p ≤ 1114111 ∧ (p < 55296 ∨ 57343 < p))
theorem isPointS (p : Int) (w : World) :
    Calls Tryz.prog 47 #[.int .i64 p] w fun e w' => e = .returned (.bool (isPt p)) ∧ w' = w := by
  have hp : ¬ 0 ≤ p ∨ (0 ≤ p ∧ ¬ p ≤ 1114111) ∨ (0 ≤ p ∧ p ≤ 1114111 ∧ p < 55296) ∨ (0 ≤ p ∧ p ≤ 1114111 ∧ ¬ p < 55296 ∧ 57343 < p) ∨ (0 ≤ p ∧ p ≤ 1114111 ∧ ¬ p < 55296 ∧ ¬ 57343 < p) := by omega
  rcases hp with h1 | ⟨h1, h2⟩ | ⟨h1, h2, h3⟩ | ⟨h1, h2, h3, h4⟩ | ⟨h1, h2, h3, h4⟩
  all_goals
    go_enter Tryz.func47, Tryz.ntmps47
    go_wp2
    go_ret
    exact ⟨by simp [isPt]; omega, rfl⟩
theorem isPointP (p : Int) (w : World) :
    Calls Tryz.prog 84 #[.int .i64 p] w fun e w' => e = .returned (.bool (isPt p)) ∧ w' = w := by
  have hp : ¬ 0 ≤ p ∨ (0 ≤ p ∧ ¬ p ≤ 1114111) ∨ (0 ≤ p ∧ p ≤ 1114111 ∧ p < 55296) ∨ (0 ≤ p ∧ p ≤ 1114111 ∧ ¬ p < 55296 ∧ 57343 < p) ∨ (0 ≤ p ∧ p ≤ 1114111 ∧ ¬ p < 55296 ∧ ¬ 57343 < p) := by omega
  rcases hp with h1 | ⟨h1, h2⟩ | ⟨h1, h2, h3⟩ | ⟨h1, h2, h3, h4⟩ | ⟨h1, h2, h3, h4⟩
  all_goals
    go_enter Tryz.func84, Tryz.ntmps84
    go_wp2
    go_ret
    exact ⟨by simp [isPt]; omega, rfl⟩
theorem isPt_iff (p : Int) : isPt p = true ↔ 0 ≤ p ∧ p ≤ 1114111 ∧ (p < 55296 ∨ 57343 < p) := by simp [isPt]
theorem conv_of (w : World) (b cap : Nat) (zs : List Int) (n : Nat) (hn : zs.length = n) (hc : ∀ i, i < n → w.cell? ⟨b, i, none⟩ = some (.int .u8 (zs.getD i 0))) :
    (convert 31 9 (.slice (some ⟨b, 0, none⟩) n cap)).run Tryz.prog w = .ok (.string (strOfNums zs)) w :=
  run_convert_bytes_arg w 31 5 Tryz.underlying31 Tryz.underlying5 b 0 n cap zs hn (fun i hi => by rw [Nat.zero_add]; exact hc i hi) 9 Tryz.underlying9
theorem conv1 (w : World) (a : Int) : (convert 31 9 (.slice (some ⟨w.heap.size, 0, none⟩) 1 1)).run Tryz.prog (w.alloc (.cells #[.int .u8 a] 5)) = .ok (.string (strOfNums [a])) (w.alloc (.cells #[.int .u8 a] 5)) :=
  conv_of _ _ 1 [a] 1 rfl (fun i hi => by match i, hi with | 0, _ => simp)
theorem conv2 (w : World) (a b : Int) : (convert 31 9 (.slice (some ⟨w.heap.size, 0, none⟩) 2 2)).run Tryz.prog (w.alloc (.cells #[.int .u8 a, .int .u8 b] 5)) = .ok (.string (strOfNums [a, b])) (w.alloc (.cells #[.int .u8 a, .int .u8 b] 5)) :=
  conv_of _ _ 2 [a, b] 2 rfl (fun i hi => by match i, hi with | 0, _ => simp | 1, _ => simp)
theorem conv3 (w : World) (a b c : Int) : (convert 31 9 (.slice (some ⟨w.heap.size, 0, none⟩) 3 3)).run Tryz.prog (w.alloc (.cells #[.int .u8 a, .int .u8 b, .int .u8 c] 5)) = .ok (.string (strOfNums [a, b, c])) (w.alloc (.cells #[.int .u8 a, .int .u8 b, .int .u8 c] 5)) :=
  conv_of _ _ 3 [a, b, c] 3 rfl (fun i hi => by match i, hi with | 0, _ => simp | 1, _ => simp | 2, _ => simp)
theorem conv4 (w : World) (a b c d : Int) : (convert 31 9 (.slice (some ⟨w.heap.size, 0, none⟩) 4 4)).run Tryz.prog (w.alloc (.cells #[.int .u8 a, .int .u8 b, .int .u8 c, .int .u8 d] 5)) = .ok (.string (strOfNums [a, b, c, d])) (w.alloc (.cells #[.int .u8 a, .int .u8 b, .int .u8 c, .int .u8 d] 5)) :=
  conv_of _ _ 4 [a, b, c, d] 4 rfl (fun i hi => by match i, hi with | 0, _ => simp | 1, _ => simp | 2, _ => simp | 3, _ => simp)
theorem ret_str {a b : List Int} (h : a = b) : Ending.returned (.string (strOfNums a)) = .returned (.string (strOfNums b)) := by rw [h]
set_option maxHeartbeats 400000 in
theorem write_one (p : Int) (w : World) (h0 : 0 ≤ p) (h1 : p < 128) :
    Calls Tryz.prog 48 #[.int .i64 p] w fun e w' => e = .returned (.string (strOfNums (Lib.encodeRuneZ p))) ∧ Below w.heap.size w w' := by
  have hp : isPt p = true := (isPt_iff p).2 (by omega)
  have hcv := conv1
  go_enter Tryz.func48, Tryz.ntmps48
  go_wp2_with (go_at_call 47; refine (isPointS p _).mono ?_; rintro e w' ⟨rfl, rfl⟩)
  go_ret
  exact ⟨ret_str (Lib.encodeRuneZ_one h0 (by omega)).symm, (Below.refl _ _).alloc (Nat.le_refl _) _⟩
set_option maxHeartbeats 400000 in
theorem write_two (p : Int) (w : World) (h0 : 128 ≤ p) (h1 : p < 2048) :
    Calls Tryz.prog 48 #[.int .i64 p] w fun e w' => e = .returned (.string (strOfNums (Lib.encodeRuneZ p))) ∧ Below w.heap.size w w' := by
  have hp : isPt p = true := (isPt_iff p).2 (by omega)
  have h2 : ¬ p < 128 := by omega
  have hcv := conv2
  go_enter Tryz.func48, Tryz.ntmps48
  go_wp2_with (go_at_call 47; refine (isPointS p _).mono ?_; rintro e w' ⟨rfl, rfl⟩)
  go_ret
  exact ⟨ret_str (Lib.encodeRuneZ_two h0 (by omega)).symm, (Below.refl _ _).alloc (Nat.le_refl _) _⟩
set_option maxHeartbeats 400000 in
theorem write_lo (p : Int) (w : World) (h0 : 2048 ≤ p) (h1 : p < 55296) :
    Calls Tryz.prog 48 #[.int .i64 p] w fun e w' => e = .returned (.string (strOfNums (Lib.encodeRuneZ p))) ∧ Below w.heap.size w w' := by
  have hp : isPt p = true := (isPt_iff p).2 (by omega)
  have h2 : ¬ p < 128 := by omega
  have hcv := conv3
  go_enter Tryz.func48, Tryz.ntmps48
  go_wp2_with (go_at_call 47; refine (isPointS p _).mono ?_; rintro e w' ⟨rfl, rfl⟩)
  go_ret
  exact ⟨ret_str (Lib.encodeRuneZ_three (.inl ⟨h0, h1⟩)).symm, (Below.refl _ _).alloc (Nat.le_refl _) _⟩
set_option maxHeartbeats 400000 in
theorem write_hi (p : Int) (w : World) (h0 : 57343 < p) (h1 : p < 65536) :
    Calls Tryz.prog 48 #[.int .i64 p] w fun e w' => e = .returned (.string (strOfNums (Lib.encodeRuneZ p))) ∧ Below w.heap.size w w' := by
  have hp : isPt p = true := (isPt_iff p).2 (by omega)
  have h2 : ¬ p < 128 := by omega
  have h3 : ¬ p < 2048 := by omega
  have hcv := conv3
  go_enter Tryz.func48, Tryz.ntmps48
  go_wp2_with (go_at_call 47; refine (isPointS p _).mono ?_; rintro e w' ⟨rfl, rfl⟩)
  go_ret
  exact ⟨ret_str (Lib.encodeRuneZ_three (.inr ⟨h0, by omega⟩)).symm, (Below.refl _ _).alloc (Nat.le_refl _) _⟩
set_option maxHeartbeats 400000 in
theorem write_four (p : Int) (w : World) (h0 : 65536 ≤ p) (h1 : p ≤ 1114111) :
    Calls Tryz.prog 48 #[.int .i64 p] w fun e w' => e = .returned (.string (strOfNums (Lib.encodeRuneZ p))) ∧ Below w.heap.size w w' := by
  have hp : isPt p = true := (isPt_iff p).2 (by omega)
  have h2 : ¬ p < 128 := by omega
  have h3 : ¬ p < 2048 := by omega
  have hcv := conv4
  go_enter Tryz.func48, Tryz.ntmps48
  go_wp2_with (go_at_call 47; refine (isPointS p _).mono ?_; rintro e w' ⟨rfl, rfl⟩)
  go_ret
  exact ⟨ret_str (Lib.encodeRuneZ_four h0 h1).symm, (Below.refl _ _).alloc (Nat.le_refl _) _⟩
set_option maxHeartbeats 400000 in
theorem write_bad (p : Int) (w : World) (hb : p < 0 ∨ (55296 ≤ p ∧ p ≤ 57343) ∨ 1114111 < p) :
    Calls Tryz.prog 48 #[.int .i64 p] w fun e w' => e = .returned (.string (strOfNums (Lib.encodeRuneZ p))) ∧ Below w.heap.size w w' := by
  have hp : isPt p = false := by simp [isPt]; omega
  have HB := hide hb
  clear hb
  have hcv := conv3
  go_enter Tryz.func48, Tryz.ntmps48
  go_wp2_with (go_at_call 47; refine (isPointS p _).mono ?_; rintro e w' ⟨rfl, rfl⟩)
  go_ret
  exact ⟨ret_str (by rw [Lib.encodeRuneZ_bad (unhide HB)]), (Below.refl _ _).alloc (Nat.le_refl _) _⟩
theorem write_any (p : Int) (w : World) :
    Calls Tryz.prog 48 #[.int .i64 p] w fun e w' => e = .returned (.string (strOfNums (Lib.encodeRuneZ p))) ∧ Below w.heap.size w w' := by
  by_cases hb : p < 0 ∨ (55296 ≤ p ∧ p ≤ 57343) ∨ 1114111 < p
  · exact write_bad p w hb
  by_cases h1 : p < 128
  · exact write_one p w (by omega) h1
  by_cases h2 : p < 2048
  · exact write_two p w (by omega) h2
  by_cases h3 : p < 55296
  · exact write_lo p w (by omega) h3
  by_cases h4 : p < 65536
  · exact write_hi p w (by omega) h4
  exact write_four p w (by omega) (by omega)
end Go.Proofs.YtamigjljgepfiaaGreatDoor
/- utf8.AppendRune onto a row of bytes that the call owns. -/
namespace Go.Proofs.YtamigjljgepfiaaGreatDoor
open Go.RowKit
theorem info5 : (Tryz.prog.info? 5).map (fun i => (i.zero, i.size, i.bytes)) = some (some (.int .u8 0), 1, 1) := by kernel_rfl
def runeCells (r : Int) : List Value := (Lib.encodeRuneZ r).map (Value.int .u8)
theorem grown_belowA {B : Nat} {w w' : World} {v : Value} {o : Obj} {n : Nat} {xs : List Value} (hown : w.ownsRow B 5 1 v n xs) (hB : B ≤ w.heap.size) (h : (w.alloc o).grownBy w' v.ownBlock) : Below B w w' :=
  ((Below.refl B w).alloc hB o).grown h (by simp; omega) (fun k hk => (hown.lt k hk).1)
end Go.Proofs.YtamigjljgepfiaaGreatDoor
/- TextOf of the program and of the specification answer with the bytes of the points. -/
namespace Go.Proofs.YtamigjljgepfiaaGreatDoor
open Go.RowKit
def textL (l : List Int) : List Int := l.flatMap Lib.encodeRuneZ
theorem textL_snoc (l : List Int) (k : Nat) (h : k < l.length) : textL (l.take (k + 1)) = textL (l.take k) ++ Lib.encodeRuneZ (nth l k) := by
  have e : nth l k = l[k] := by simp [nth, List.getD, h]
  rw [List.take_succ_eq_append_getElem h, e]
  unfold textL
  rw [List.flatMap_append, List.flatMap_singleton]
theorem textL_le (l : List Int) : (textL l).length ≤ 4 * l.length := by
  induction l with
  | nil => simp [textL]
  | cons a t ih =>
    have h1 := (Lib.encodeRuneZ_length a).2
    have h2 : textL (a :: t) = Lib.encodeRuneZ a ++ textL t := by simp [textL]
    rw [h2, List.length_append, List.length_cons]
    omega
theorem textL_take (l : List Int) (k : Nat) : (textL (l.take k)).length ≤ 4 * k := by
  have h1 := textL_le (l.take k)
  have h2 : (l.take k).length ≤ k := List.length_take_le _ _
  omega
theorem conv_owned (w : World) (B : Nat) (v : Value) (n : Nat) (zs : List Int) (h : w.ownsRow B 5 1 v n (zs.map (Value.int .u8))) :
    (convert 31 9 v).run Tryz.prog w = .ok (.string (strOfNums zs)) w := by
  have hl : zs.length = n := by simpa using h.1
  rcases h.2 with ⟨rfl, hn⟩ | ⟨g, cap, cur, hv, hg, hh, hn, hm, hs, ht⟩
  · obtain rfl : zs = [] := List.length_eq_zero_iff.1 (by omega)
    exact Lib.run_convert_nil_bytes w 31 9 5 0 Tryz.underlying31 Tryz.underlying5 Tryz.underlying9
  · subst hv
    refine conv_of w g cap zs n hl fun i hi => ?_
    rw [h.cellAt i (by omega), List.getElem?_map]
    simp [List.getD, show i < zs.length by omega]
theorem strCells_nums (zs : List Int) (h : ∀ x ∈ zs, 0 ≤ x ∧ x < 256) : Lib.strCells (strOfNums zs) = zs.map (Value.int .u8) := by
  unfold Lib.strCells
  rw [strOfNums_data, List.map_map]
  apply List.map_congr_left
  intro x hx
  have := h x hx
  simp only [Function.comp]
  congr 1
  rw [UInt8.toNat_ofNat_of_lt' (by show x.toNat < 256; omega)]
  omega
theorem text_step {w wr w2 w3 : World} {s v' : Value} {l : List Int} {k : Nat} (hk : k < l.length) (hb : Below w.heap.size w wr) (hb2 : Below wr.heap.size wr w2)
    (ho2 : w2.ownsRow w.heap.size 5 1 s (textL (l.take k)).length ((textL (l.take k)).map (Value.int .u8)))
    (ho3 : w3.ownsRow w.heap.size 5 1 v' ((textL (l.take k)).length + (strOfNums (Lib.encodeRuneZ (nth l k))).size) ((textL (l.take k)).map (Value.int .u8) ++ Lib.strCells (strOfNums (Lib.encodeRuneZ (nth l k)))))
    (hg : w2.grownBy w3 s.ownBlock) : w3.ownsRow w.heap.size 5 1 v' (textL (l.take (k + 1))).length ((textL (l.take (k + 1))).map (Value.int .u8)) ∧ Below w.heap.size w w3 := by
  constructor
  · rw [textL_snoc l k hk, List.length_append, List.map_append]
    rw [strCells_nums _ (Lib.encodeRuneZ_byte _), strOfNums_size] at ho3
    exact ho3
  · exact (hb.trans (hb2.mono hb.size)).grown hg (Nat.le_trans hb.size hb2.size) (fun j hj => (ho2.lt j hj).1)
end Go.Proofs.YtamigjljgepfiaaGreatDoor
/- The points of a text by the model's own reading, and what the specification's reading comes to. No walk. -/
namespace Go.Proofs.YtamigjljgepfiaaGreatDoor
open Go.RowKit
def bt (s : ByteArray) (i : Nat) : Nat := (s.get! i).toNat
theorem bt_lt (s : ByteArray) (i : Nat) : bt s i < 256 := (s.get! i).toNat_lt
theorem bt_get (s : ByteArray) (i : Nat) (h : i < s.size) : (s[i]'h).toNat = bt s i := by
  unfold bt
  simp [ByteArray.get!, getElem!_pos, h]
  rfl
/-- The model's reading, its bytes as numbers. -/
def dec (size pos b0 b1 b2 b3 : Nat) : Nat × Nat :=
  if b0 < 128 then (b0, 1)
  else if b0 / 32 = 6 ∧ pos + 1 < size ∧ b1 / 64 = 2 then (if 128 ≤ (b0 % 32) * 64 + b1 % 64 then ((b0 % 32) * 64 + b1 % 64, 2) else (65533, 1))
  else if b0 / 16 = 14 ∧ pos + 1 < size ∧ b1 / 64 = 2 ∧ pos + 2 < size ∧ b2 / 64 = 2 then
    (if 2048 ≤ (b0 % 16) * 4096 + (b1 % 64) * 64 + b2 % 64 ∧ ¬ (55296 ≤ (b0 % 16) * 4096 + (b1 % 64) * 64 + b2 % 64 ∧ (b0 % 16) * 4096 + (b1 % 64) * 64 + b2 % 64 ≤ 57343) then ((b0 % 16) * 4096 + (b1 % 64) * 64 + b2 % 64, 3) else (65533, 1))
  else if b0 / 8 = 30 ∧ pos + 1 < size ∧ b1 / 64 = 2 ∧ pos + 2 < size ∧ b2 / 64 = 2 ∧ pos + 3 < size ∧ b3 / 64 = 2 then
    (if 65536 ≤ (b0 % 8) * 262144 + (b1 % 64) * 4096 + (b2 % 64) * 64 + b3 % 64 ∧ (b0 % 8) * 262144 + (b1 % 64) * 4096 + (b2 % 64) * 64 + b3 % 64 ≤ 1114111 then ((b0 % 8) * 262144 + (b1 % 64) * 4096 + (b2 % 64) * 64 + b3 % 64, 4) else (65533, 1))
  else (65533, 1)
def decRaw (size pos b0 b1 b2 b3 : Nat) : Nat × Nat :=
  if b0 < 0x80 then (b0, 1)
  else if b0 / 32 == 6 && (decide (pos + 1 < size) && b1 / 64 == 2) then
    (if (b0 % 32) * 64 + b1 % 64 ≥ 0x80 then ((b0 % 32) * 64 + b1 % 64, 2) else (Utf8.runeError, 1))
  else if b0 / 16 == 14 && (decide (pos + 1 < size) && b1 / 64 == 2) && (decide (pos + 2 < size) && b2 / 64 == 2) then
    (if (b0 % 16) * 4096 + (b1 % 64) * 64 + b2 % 64 ≥ 0x800 && Utf8.valid (((b0 % 16) * 4096 + (b1 % 64) * 64 + b2 % 64 : Nat) : Int) then ((b0 % 16) * 4096 + (b1 % 64) * 64 + b2 % 64, 3) else (Utf8.runeError, 1))
  else if b0 / 8 == 30 && (decide (pos + 1 < size) && b1 / 64 == 2) && (decide (pos + 2 < size) && b2 / 64 == 2) && (decide (pos + 3 < size) && b3 / 64 == 2) then
    (if (b0 % 8) * 262144 + (b1 % 64) * 4096 + (b2 % 64) * 64 + b3 % 64 ≥ 0x10000 && Utf8.valid (((b0 % 8) * 262144 + (b1 % 64) * 4096 + (b2 % 64) * 64 + b3 % 64 : Nat) : Int) then ((b0 % 8) * 262144 + (b1 % 64) * 4096 + (b2 % 64) * 64 + b3 % 64, 4) else (Utf8.runeError, 1))
  else (Utf8.runeError, 1)
theorem decode_raw (s : ByteArray) (pos : Nat) : Utf8.decode s pos = decRaw s.size pos (bt s pos) (bt s (pos + 1)) (bt s (pos + 2)) (bt s (pos + 3)) := rfl
theorem valid_iff (c : Nat) : Utf8.valid (c : Int) = true ↔ c < 55296 ∨ (57344 ≤ c ∧ c ≤ 1114111) := by
  unfold Utf8.valid
  simp only [Bool.or_eq_true, Bool.and_eq_true, decide_eq_true_eq]
  omega
theorem ifc {α : Type} {p q : Prop} [Decidable p] [Decidable q] {a b c d : α} (h : p ↔ q) (h1 : a = c) (h2 : b = d) : (if p then a else b) = (if q then c else d) := by
  subst h1 h2
  by_cases hp : p
  · rw [if_pos hp, if_pos (h.1 hp)]
  · rw [if_neg hp, if_neg (fun hq => hp (h.2 hq))]
theorem raw_dec (size pos b0 b1 b2 b3 : Nat) : decRaw size pos b0 b1 b2 b3 = dec size pos b0 b1 b2 b3 := by
  unfold decRaw dec
  refine ifc Iff.rfl rfl (ifc ?_ rfl (ifc ?_ (ifc ?_ rfl rfl) (ifc ?_ (ifc ?_ rfl rfl) rfl)))
  · simp only [Bool.and_eq_true, decide_eq_true_eq, beq_iff_eq]
  · simp only [Bool.and_eq_true, decide_eq_true_eq, beq_iff_eq, and_assoc]
  · simp only [Bool.and_eq_true, decide_eq_true_eq, valid_iff]
    omega
  · simp only [Bool.and_eq_true, decide_eq_true_eq, beq_iff_eq, and_assoc]
  · simp only [Bool.and_eq_true, decide_eq_true_eq, valid_iff]
    omega
theorem decode_dec (s : ByteArray) (pos : Nat) : Utf8.decode s pos = dec s.size pos (bt s pos) (bt s (pos + 1)) (bt s (pos + 2)) (bt s (pos + 3)) :=
  (decode_raw s pos).trans (raw_dec _ _ _ _ _ _)
/-- The point at a place, and how many bytes it has. -/
def dP (s : ByteArray) (pos : Nat) : Nat := (Utf8.decode s pos).1
def dN (s : ByteArray) (pos : Nat) : Nat := (Utf8.decode s pos).2
theorem dec_one {size pos b0 b1 b2 b3 : Nat} (h : b0 < 128) : dec size pos b0 b1 b2 b3 = (b0, 1) := by unfold dec; rw [if_pos h]
theorem dec_two {size pos b0 b1 b2 b3 : Nat} (h : 194 ≤ b0) (h' : b0 < 224) (hs : pos + 1 < size) (c1 : 128 ≤ b1) (c1' : b1 ≤ 191) : dec size pos b0 b1 b2 b3 = ((b0 % 32) * 64 + b1 % 64, 2) := by
  unfold dec
  rw [if_neg (by omega), if_pos (by omega), if_pos (by omega)]
theorem dec_three {size pos b0 b1 b2 b3 : Nat} (h : 224 ≤ b0) (h' : b0 < 240) (hs : pos + 2 < size) (c1 : 128 ≤ b1) (c1' : b1 ≤ 191) (c2 : 128 ≤ b2) (c2' : b2 ≤ 191) : dec size pos b0 b1 b2 b3 =
    if 2048 ≤ (b0 % 16) * 4096 + (b1 % 64) * 64 + b2 % 64 ∧ ¬ (55296 ≤ (b0 % 16) * 4096 + (b1 % 64) * 64 + b2 % 64 ∧ (b0 % 16) * 4096 + (b1 % 64) * 64 + b2 % 64 ≤ 57343) then ((b0 % 16) * 4096 + (b1 % 64) * 64 + b2 % 64, 3) else (65533, 1) := by
  unfold dec
  rw [if_neg (by omega), if_neg (by omega), if_pos (by omega)]
theorem dec_four {size pos b0 b1 b2 b3 : Nat} (h : 240 ≤ b0) (h' : b0 < 245) (hs : pos + 3 < size) (c1 : 128 ≤ b1) (c1' : b1 ≤ 191) (c2 : 128 ≤ b2) (c2' : b2 ≤ 191) (c3 : 128 ≤ b3) (c3' : b3 ≤ 191) : dec size pos b0 b1 b2 b3 =
    if 65536 ≤ (b0 % 8) * 262144 + (b1 % 64) * 4096 + (b2 % 64) * 64 + b3 % 64 ∧ (b0 % 8) * 262144 + (b1 % 64) * 4096 + (b2 % 64) * 64 + b3 % 64 ≤ 1114111 then ((b0 % 8) * 262144 + (b1 % 64) * 4096 + (b2 % 64) * 64 + b3 % 64, 4) else (65533, 1) := by
  unfold dec
  rw [if_neg (by omega), if_neg (by omega), if_neg (by omega), if_pos (by omega)]
/-- Where no writing begins. -/
theorem dec_bad {size pos b0 b1 b2 b3 : Nat} (hb : b0 < 256)
    (h : (128 ≤ b0 ∧ b0 < 194) ∨ 245 ≤ b0 ∨ (194 ≤ b0 ∧ b0 < 224 ∧ (size ≤ pos + 1 ∨ b1 < 128 ∨ 191 < b1)) ∨ (224 ≤ b0 ∧ b0 < 240 ∧ (size ≤ pos + 2 ∨ b1 < 128 ∨ 191 < b1 ∨ b2 < 128 ∨ 191 < b2)) ∨
      (240 ≤ b0 ∧ b0 < 245 ∧ (size ≤ pos + 3 ∨ b1 < 128 ∨ 191 < b1 ∨ b2 < 128 ∨ 191 < b2 ∨ b3 < 128 ∨ 191 < b3))) : dec size pos b0 b1 b2 b3 = (65533, 1) := by
  unfold dec
  rw [if_neg (by omega)]
  by_cases t1 : b0 / 32 = 6 ∧ pos + 1 < size ∧ b1 / 64 = 2
  · rw [if_pos t1, if_neg (by omega)]
  rw [if_neg t1]
  by_cases t2 : b0 / 16 = 14 ∧ pos + 1 < size ∧ b1 / 64 = 2 ∧ pos + 2 < size ∧ b2 / 64 = 2
  · omega
  rw [if_neg t2]
  by_cases t3 : b0 / 8 = 30 ∧ pos + 1 < size ∧ b1 / 64 = 2 ∧ pos + 2 < size ∧ b2 / 64 = 2 ∧ pos + 3 < size ∧ b3 / 64 = 2
  · rw [if_pos t3, if_neg (by omega)]
  rw [if_neg t3]
theorem dec_bd (size pos b0 b1 b2 b3 : Nat) (hp : pos < size) : 1 ≤ (dec size pos b0 b1 b2 b3).2 ∧ pos + (dec size pos b0 b1 b2 b3).2 ≤ size ∧ (dec size pos b0 b1 b2 b3).1 ≤ 1114111 := by
  unfold dec
  repeat' split
  all_goals simp only []
  all_goals omega
theorem dN_bd (s : ByteArray) (pos : Nat) (hp : pos < s.size) : 1 ≤ dN s pos ∧ pos + dN s pos ≤ s.size ∧ dP s pos ≤ 1114111 := by
  unfold dN dP; rw [decode_dec]; exact dec_bd _ _ _ _ _ _ hp
/-- What has been read after n rounds, and the place behind it. -/
def steps (s : ByteArray) : Nat → List Int × Nat
  | 0 => ([], 0)
  | n + 1 => if (steps s n).2 < s.size then ((steps s n).1 ++ [(dP s (steps s n).2 : Int)], (steps s n).2 + dN s (steps s n).2) else steps s n
def pts (s : ByteArray) : List Int := (steps s s.size).1
theorem steps_le (s : ByteArray) (n : Nat) : (steps s n).2 ≤ s.size ∧ (steps s n).1.length ≤ (steps s n).2 := by
  induction n with
  | zero => simp [steps]
  | succ n ih =>
    unfold steps
    split
    · rename_i h
      have := dN_bd s _ h
      simp only [List.length_append, List.length_singleton]
      omega
    · exact ih
theorem steps_stop (s : ByteArray) (n m : Nat) (h : s.size ≤ (steps s n).2) : (steps s (n + m)) = steps s n := by
  induction m with
  | zero => rfl
  | succ m ih =>
    rw [← Nat.add_assoc]
    show (if (steps s (n + m)).2 < s.size then _ else steps s (n + m)) = _
    rw [ih, if_neg (by omega)]
theorem steps_go (s : ByteArray) (n : Nat) : n ≤ (steps s n).2 ∨ s.size ≤ (steps s n).2 := by
  induction n with
  | zero => simp [steps]
  | succ n ih =>
    unfold steps
    split
    · rename_i h
      have := dN_bd s _ h
      simp only []
      omega
    · rename_i h
      exact .inr (by omega)
theorem steps_pts (s : ByteArray) (n : Nat) (h : s.size ≤ (steps s n).2) : (steps s n).1 = pts s := by
  have hs : s.size ≤ (steps s s.size).2 := by rcases steps_go s s.size with h | h <;> exact h
  unfold pts
  have a := steps_stop s n s.size h
  have b := steps_stop s s.size n hs
  rw [Nat.add_comm] at b
  rw [← a, b]
theorem steps_next (s : ByteArray) (n : Nat) (h : (steps s n).2 < s.size) : steps s (n + 1) = ((steps s n).1 ++ [(dP s (steps s n).2 : Int)], (steps s n).2 + dN s (steps s n).2) := by
  show (if (steps s n).2 < s.size then _ else _) = _
  rw [if_pos h]
end Go.Proofs.YtamigjljgepfiaaGreatDoor
/- The specification's reading of one point answers as the model's own. -/
namespace Go.Proofs.YtamigjljgepfiaaGreatDoor
open Go.RowKit
theorem wrap_bt (s : ByteArray) (i : Nat) : ∀ h, wrap64 (((s[i]'h).toNat : Nat) : Int) = (bt s i : Int) := by
  intro h
  rw [bt_get s i h]
  have := bt_lt s i
  unfold wrap64; omega
theorem ret3 {a b c d : Int} {ok : Bool} (h1 : a = c) (h2 : b = d) : Ending.returned (.tuple #[.int .i64 a, .int .i64 b, .bool ok]) = .returned (.tuple #[.int .i64 c, .int .i64 d, .bool ok]) := by rw [h1, h2]
/-- What the loop has made of the first k bytes. -/
def acc (s : ByteArray) (pos m : Nat) : Nat → Nat
  | 0 => bt s pos % m
  | k + 1 => acc s pos m k * 64 + bt s (pos + (k + 1)) % 64
/-- The bytes 1 to k go on. -/
def Goes (s : ByteArray) (pos k : Nat) : Prop := ∀ j, 1 ≤ j → j ≤ k → 128 ≤ bt s (pos + j) ∧ bt s (pos + j) ≤ 191
theorem Goes.succ {s : ByteArray} {pos k : Nat} (h : Goes s pos k) (h1 : 128 ≤ bt s (pos + (k + 1))) (h2 : bt s (pos + (k + 1)) ≤ 191) : Goes s pos (k + 1) := by
  intro j hj1 hj2
  by_cases e : j = k + 1
  · subst e; exact ⟨h1, h2⟩
  · exact h j hj1 (by omega)
theorem acc_bd (s : ByteArray) (pos m k : Nat) (hm : 0 < m) (hm2 : m ≤ 32) (hk : k ≤ 3) : acc s pos m k ≤ 8388607 := by
  have h0 : bt s pos % m < m := Nat.mod_lt _ hm
  have e0 : acc s pos m 0 = bt s pos % m := rfl
  have e1 : acc s pos m 1 = acc s pos m 0 * 64 + bt s (pos + 1) % 64 := rfl
  have e2 : acc s pos m 2 = acc s pos m 1 * 64 + bt s (pos + 2) % 64 := rfl
  have e3 : acc s pos m 3 = acc s pos m 2 * 64 + bt s (pos + 3) % 64 := rfl
  obtain rfl | rfl | rfl | rfl : k = 0 ∨ k = 1 ∨ k = 2 ∨ k = 3 := by omega
  all_goals omega
theorem broken_of {s : ByteArray} {pos : Nat} (h : dec s.size pos (bt s pos) (bt s (pos + 1)) (bt s (pos + 2)) (bt s (pos + 3)) = (65533, 1)) : (65533 : Int) = (dP s pos : Int) ∧ (1 : Int) = (dN s pos : Int) := by
  unfold dP dN; rw [decode_dec, h]; exact ⟨rfl, rfl⟩
theorem read_of {s : ByteArray} {pos c n : Nat} (h : dec s.size pos (bt s pos) (bt s (pos + 1)) (bt s (pos + 2)) (bt s (pos + 3)) = (c, n)) : (c : Int) = (dP s pos : Int) ∧ (n : Int) = (dN s pos : Int) := by
  unfold dP dN; rw [decode_dec, h]; exact ⟨rfl, rfl⟩
/-- The three answers: a point, how many bytes, and a word that the caller drops. -/
def Ok3 (p n : Int) (e : Ending) : Prop := ∃ ok, e = .returned (.tuple #[.int .i64 p, .int .i64 n, .bool ok])
theorem ok3 {a b p n : Int} {ok : Bool} (h : a = p ∧ b = n) : Ok3 p n (.returned (.tuple #[.int .i64 a, .int .i64 b, .bool ok])) := ⟨ok, by rw [h.1, h.2]⟩
theorem enc_two {q : Int} (h0 : 128 ≤ q) (h1 : q < 2048) : isPt q = true ∧ (strOfNums (Lib.encodeRuneZ q)).size = 2 := by
  refine ⟨(isPt_iff q).2 (by omega), ?_⟩
  rw [strOfNums_size, Lib.encodeRuneZ_two h0 (by omega)]; rfl
theorem enc_size (q : Int) (h : isPt q = true) : (strOfNums (Lib.encodeRuneZ q)).size = if q < 128 then 1 else if q < 2048 then 2 else if q < 65536 then 3 else 4 := by
  have hp := (isPt_iff q).1 h
  rw [strOfNums_size]
  by_cases h1 : q < 128
  · rw [if_pos h1, Lib.encodeRuneZ_one hp.1 (by omega)]; rfl
  rw [if_neg h1]
  by_cases h2 : q < 2048
  · rw [if_pos h2, Lib.encodeRuneZ_two (by omega) (by omega)]; rfl
  rw [if_neg h2]
  by_cases h3 : q < 65536
  · rw [if_pos h3, Lib.encodeRuneZ_three (by omega)]; rfl
  rw [if_neg h3, Lib.encodeRuneZ_four (by omega) (by omega)]; rfl
theorem stop_two {s : ByteArray} {pos k : Nat} (hk : k < 1) (h0 : 194 ≤ bt s pos) (h1 : bt s pos < 224) (t : bt s (pos + (k + 1)) < 128 ∨ 191 < bt s (pos + (k + 1))) :
    dec s.size pos (bt s pos) (bt s (pos + 1)) (bt s (pos + 2)) (bt s (pos + 3)) = (65533, 1) := by
  match k, hk, t with
  | 0, _, t =>
    have t' : bt s (pos + 1) < 128 ∨ 191 < bt s (pos + 1) := t
    exact dec_bad (bt_lt _ _) (by omega)
theorem stop_three {s : ByteArray} {pos k : Nat} (hk : k < 2) (h0 : 224 ≤ bt s pos) (h1 : bt s pos < 240) (t : bt s (pos + (k + 1)) < 128 ∨ 191 < bt s (pos + (k + 1))) :
    dec s.size pos (bt s pos) (bt s (pos + 1)) (bt s (pos + 2)) (bt s (pos + 3)) = (65533, 1) := by
  match k, hk, t with
  | 0, _, t =>
    have t' : bt s (pos + 1) < 128 ∨ 191 < bt s (pos + 1) := t
    exact dec_bad (bt_lt _ _) (by omega)
  | 1, _, t =>
    have t' : bt s (pos + 2) < 128 ∨ 191 < bt s (pos + 2) := t
    exact dec_bad (bt_lt _ _) (by omega)
theorem stop_four {s : ByteArray} {pos k : Nat} (hk : k < 3) (h0 : 240 ≤ bt s pos) (h1 : bt s pos < 245) (t : bt s (pos + (k + 1)) < 128 ∨ 191 < bt s (pos + (k + 1))) :
    dec s.size pos (bt s pos) (bt s (pos + 1)) (bt s (pos + 2)) (bt s (pos + 3)) = (65533, 1) := by
  match k, hk, t with
  | 0, _, t =>
    have t' : bt s (pos + 1) < 128 ∨ 191 < bt s (pos + 1) := t
    exact dec_bad (bt_lt _ _) (by omega)
  | 1, _, t =>
    have t' : bt s (pos + 2) < 128 ∨ 191 < bt s (pos + 2) := t
    exact dec_bad (bt_lt _ _) (by omega)
  | 2, _, t =>
    have t' : bt s (pos + 3) < 128 ∨ 191 < bt s (pos + 3) := t
    exact dec_bad (bt_lt _ _) (by omega)
theorem end_two {s : ByteArray} {pos q : Nat} (h0 : 194 ≤ bt s pos) (h1 : bt s pos < 224) (hsz : pos + 1 < s.size) (hg : Goes s pos 1) (hq : q = acc s pos 32 1) :
    ((q : Int) = (dP s pos : Int) ∧ ((2 : Nat) : Int) = (dN s pos : Int)) ∧ 128 ≤ q ∧ q < 2048 := by
  have z1 := hg 1 (by omega) (by omega)
  have ha : acc s pos 32 1 = bt s pos % 32 * 64 + bt s (pos + 1) % 64 := rfl
  have hd : dec s.size pos (bt s pos) (bt s (pos + 1)) (bt s (pos + 2)) (bt s (pos + 3)) = _ := dec_two h0 h1 hsz z1.1 z1.2
  rw [ha] at hq
  rw [← hq] at hd
  exact ⟨read_of hd, by omega, by omega⟩
theorem end_three {s : ByteArray} {pos q : Nat} (h0 : 224 ≤ bt s pos) (h1 : bt s pos < 240) (hsz : pos + 2 < s.size) (hg : Goes s pos 2) (hq : q = acc s pos 16 2) :
    q ≤ 65535 ∧ ((2048 ≤ q ∧ ¬ (55296 ≤ q ∧ q ≤ 57343)) → ((q : Int) = (dP s pos : Int) ∧ ((3 : Nat) : Int) = (dN s pos : Int))) ∧
      (¬ (2048 ≤ q ∧ ¬ (55296 ≤ q ∧ q ≤ 57343)) → ((65533 : Int) = (dP s pos : Int) ∧ (1 : Int) = (dN s pos : Int))) := by
  have z1 := hg 1 (by omega) (by omega)
  have z2 := hg 2 (by omega) (by omega)
  have ha : acc s pos 16 2 = (bt s pos % 16 * 64 + bt s (pos + 1) % 64) * 64 + bt s (pos + 2) % 64 := rfl
  have hd : dec s.size pos (bt s pos) (bt s (pos + 1)) (bt s (pos + 2)) (bt s (pos + 3)) = _ := dec_three h0 h1 hsz z1.1 z1.2 z2.1 z2.2
  have e : q = bt s pos % 16 * 4096 + bt s (pos + 1) % 64 * 64 + bt s (pos + 2) % 64 := by rw [hq, ha]; omega
  rw [← e] at hd
  refine ⟨by omega, fun ok => read_of (by rw [hd, if_pos ok]), fun ok => broken_of (by rw [hd, if_neg ok])⟩
theorem end_four {s : ByteArray} {pos q : Nat} (h0 : 240 ≤ bt s pos) (h1 : bt s pos < 245) (hsz : pos + 3 < s.size) (hg : Goes s pos 3) (hq : q = acc s pos 8 3) :
    q ≤ 2097151 ∧ ((65536 ≤ q ∧ q ≤ 1114111) → ((q : Int) = (dP s pos : Int) ∧ ((4 : Nat) : Int) = (dN s pos : Int))) ∧
      (¬ (65536 ≤ q ∧ q ≤ 1114111) → ((65533 : Int) = (dP s pos : Int) ∧ (1 : Int) = (dN s pos : Int))) := by
  have z1 := hg 1 (by omega) (by omega)
  have z2 := hg 2 (by omega) (by omega)
  have z3 := hg 3 (by omega) (by omega)
  have ha : acc s pos 8 3 = ((bt s pos % 8 * 64 + bt s (pos + 1) % 64) * 64 + bt s (pos + 2) % 64) * 64 + bt s (pos + 3) % 64 := rfl
  have hd : dec s.size pos (bt s pos) (bt s (pos + 1)) (bt s (pos + 2)) (bt s (pos + 3)) = _ := dec_four h0 h1 hsz z1.1 z1.2 z2.1 z2.2 z3.1 z3.2
  have e : q = bt s pos % 8 * 262144 + bt s (pos + 1) % 64 * 4096 + bt s (pos + 2) % 64 * 64 + bt s (pos + 3) % 64 := by rw [hq, ha]; omega
  rw [← e] at hd
  refine ⟨by omega, fun ok => read_of (by rw [hd, if_pos ok]), fun ok => broken_of (by rw [hd, if_neg ok])⟩
theorem not3 {q : Nat} (hpt : isPt (q : Int) = true) (h : ¬ (2048 ≤ q ∧ ¬ (55296 ≤ q ∧ q ≤ 57343))) : (((strOfNums (Lib.encodeRuneZ (q : Int))).size : Int) != 3) = true := by
  have hpb := (isPt_iff _).1 hpt
  rw [enc_size _ hpt, bne_iff_ne]
  repeat' split
  all_goals omega
theorem not4 {q : Nat} (hpt : isPt (q : Int) = true) (h : ¬ (65536 ≤ q ∧ q ≤ 1114111)) : (((strOfNums (Lib.encodeRuneZ (q : Int))).size : Int) != 4) = true := by
  have hpb := (isPt_iff _).1 hpt
  rw [enc_size _ hpt, bne_iff_ne]
  repeat' split
  all_goals omega
theorem yes3 {q : Nat} (h : q ≤ 65535) (ok : 2048 ≤ q ∧ ¬ (55296 ≤ q ∧ q ≤ 57343)) : isPt (q : Int) = true ∧ (((strOfNums (Lib.encodeRuneZ (q : Int))).size : Int) != 3) = false := by
  have hpt : isPt (q : Int) = true := (isPt_iff _).2 (by omega)
  refine ⟨hpt, ?_⟩
  rw [enc_size _ hpt, if_neg (by omega), if_neg (by omega), if_pos (by omega)]; rfl
theorem yes4 {q : Nat} (ok : 65536 ≤ q ∧ q ≤ 1114111) : isPt (q : Int) = true ∧ (((strOfNums (Lib.encodeRuneZ (q : Int))).size : Int) != 4) = false := by
  have hpt : isPt (q : Int) = true := (isPt_iff _).2 (by omega)
  refine ⟨hpt, ?_⟩
  rw [enc_size _ hpt, if_neg (by omega), if_neg (by omega), if_neg (by omega)]; rfl
theorem yes2 {q : Nat} (h0 : 128 ≤ q) (h1 : q < 2048) : isPt (q : Int) = true ∧ (((strOfNums (Lib.encodeRuneZ (q : Int))).size : Int) != 2) = false := by
  have hpt : isPt (q : Int) = true := (isPt_iff _).2 (by omega)
  refine ⟨hpt, ?_⟩
  rw [enc_size _ hpt, if_neg (by omega), if_pos (by omega)]; rfl
set_option maxHeartbeats 1000000 in
set_option maxRecDepth 100000 in
theorem next_one (s : ByteArray) (pos : Nat) (w : World) (hp : pos < s.size) (hb : bt s pos < 128) :
    Calls Tryz.prog 26 #[.string s, .int .i64 pos] w fun e w' => Ok3 (dP s pos) (dN s pos) e ∧ Below w.heap.size w w' := by
  have f0 := wrap_bt s pos
  have b0 : (bt s pos : Int) < 128 := by omega
  have HR := hide (read_of (dec_one (size := s.size) (pos := pos) (b1 := bt s (pos + 1)) (b2 := bt s (pos + 2)) (b3 := bt s (pos + 3)) hb))
  go_enter Tryz.func26, Tryz.ntmps26
  go_wp2
  go_ret3
  exact ⟨ok3 ⟨(f0 hp).trans (unhide HR).1, (unhide HR).2⟩, Below.refl _ _⟩
set_option maxHeartbeats 1000000 in
set_option maxRecDepth 100000 in
theorem next_bad (s : ByteArray) (pos : Nat) (w : World) (hp : pos < s.size) (hb : (128 ≤ bt s pos ∧ bt s pos < 194) ∨ 245 ≤ bt s pos) :
    Calls Tryz.prog 26 #[.string s, .int .i64 pos] w fun e w' => Ok3 (dP s pos) (dN s pos) e ∧ Below w.heap.size w w' := by
  have f0 := wrap_bt s pos
  have HR := hide (broken_of (s := s) (pos := pos) (dec_bad (bt_lt _ _) (by omega)))
  rcases hb with ⟨h1, h2⟩ | h1
  · have b0 : (128 : Int) ≤ (bt s pos : Int) := by omega
    have b1 : (bt s pos : Int) < 194 := by omega
    have b2 : (bt s pos : Int) < 224 := by omega
    have b3 : (bt s pos : Int) < 240 := by omega
    clear h1 h2
    go_enter Tryz.func26, Tryz.ntmps26
    go_wp2
    go_ret3
    exact ⟨ok3 (unhide HR), Below.refl _ _⟩
  · have b0 : (245 : Int) ≤ (bt s pos : Int) := by omega
    have b1 : (240 : Int) ≤ (bt s pos : Int) := by omega
    have b2 : (224 : Int) ≤ (bt s pos : Int) := by omega
    have b3 : (194 : Int) ≤ (bt s pos : Int) := by omega
    have b4 : (128 : Int) ≤ (bt s pos : Int) := by omega
    clear h1
    go_enter Tryz.func26, Tryz.ntmps26
    go_wp2
    go_ret3
    exact ⟨ok3 (unhide HR), Below.refl _ _⟩
set_option maxHeartbeats 1000000 in
set_option maxRecDepth 100000 in
theorem next_two (s : ByteArray) (pos : Nat) (w : World) (hp : pos < s.size) (hs : s.size ≤ 1048576) (h0 : 194 ≤ bt s pos) (h1 : bt s pos < 224) :
    Calls Tryz.prog 26 #[.string s, .int .i64 pos] w fun e w' => Ok3 (dP s pos) (dN s pos) e ∧ Below w.heap.size w w' := by
  have f0 := wrap_bt s pos
  have g0 : (194 : Int) ≤ (bt s pos : Int) := by omega
  have g1 : (bt s pos : Int) < 224 := by omega
  have g2 : (128 : Int) ≤ (bt s pos : Int) := by omega
  have H0 := hide h0
  have H1 := hide h1
  clear h0 h1
  by_cases hsz : pos + 1 < s.size
  · go_enter Tryz.func26, Tryz.ntmps26
    go_wp2
    go_loop [9, 10] (fun p i => ∃ k q : Nat, k ≤ 1 ∧ i = .int .i64 (k + 1) ∧ p = .int .i64 q ∧ q ≤ 8388607 ∧ Hid (q = acc s pos 32 k) ∧ Hid (Goes s pos k)) (fun _ i => 2 - (intOf i).toNat)
    case atStart => exact ⟨0, bt s pos % 32, by omega, by go_num, by go_num, by omega, hide rfl, hide (fun j hj1 hj2 => by omega)⟩
    case round =>
      obtain ⟨k, q, hk, rfl, rfl, hq, HQ, HG⟩ := hrel
      clear f0
      by_cases hlt : k < 1
      · have f1 := wrap_bt s (pos + (k + 1))
        have hbt := bt_lt s (pos + (k + 1))
        by_cases t1 : bt s (pos + (k + 1)) < 128
        · have HR := hide (broken_of (stop_two hlt (unhide H0) (unhide H1) (.inl t1)))
          have t1' : (bt s (pos + (k + 1)) : Int) < 128 := by omega
          clear t1
          go_wp2
          go_ret3
          exact ⟨ok3 (unhide HR), Below.refl _ _⟩
        · by_cases t2 : 191 < bt s (pos + (k + 1))
          · have HR := hide (broken_of (stop_two hlt (unhide H0) (unhide H1) (.inr t2)))
            have t1' : (128 : Int) ≤ (bt s (pos + (k + 1)) : Int) := by omega
            have t2' : (191 : Int) < (bt s (pos + (k + 1)) : Int) := by omega
            clear t1 t2
            go_wp2
            go_ret3
            exact ⟨ok3 (unhide HR), Below.refl _ _⟩
          · have HG' := hide ((unhide HG).succ (by omega) (by omega))
            have HQ' : Hid (q * 64 + bt s (pos + (k + 1)) % 64 = acc s pos 32 (k + 1)) := hide (by rw [unhide HQ]; rfl)
            have hbd := acc_bd s pos 32 (k + 1) (by omega) (by omega) (by omega)
            rw [← unhide HQ'] at hbd
            have t1' : (128 : Int) ≤ (bt s (pos + (k + 1)) : Int) := by omega
            have t2' : (bt s (pos + (k + 1)) : Int) ≤ 191 := by omega
            clear t1 t2 HQ HG
            go_wp2
            go_round
            case rel => exact ⟨k + 1, q * 64 + bt s (pos + (k + 1)) % 64, by omega, by go_num, by go_num, hbd, HQ', HG'⟩
            case measure => simp [intOf]; omega
      · obtain rfl : k = 1 := by omega
        have he := end_two (unhide H0) (unhide H1) hsz (unhide HG) (unhide HQ)
        obtain ⟨hpt, hs2⟩ := yes2 he.2.1 he.2.2
        have HR := hide he.1
        clear he HQ HG
        go_wp2_with (first | (go_at_call 47; refine (isPointS (q : Int) _).mono ?_; rintro e w1 ⟨rfl, rfl⟩) | (go_at_call 48; refine (write_any (q : Int) _).mono ?_; rintro e w2 ⟨rfl, hb2⟩))
        go_ret3
        exact ⟨ok3 (unhide HR), hb2⟩
  · have HR := hide (broken_of (s := s) (pos := pos) (dec_bad (bt_lt _ _) (by have := unhide H0; have := unhide H1; omega)))
    have hsz' : (s.size : Int) ≤ (pos : Int) + 1 := by omega
    go_enter Tryz.func26, Tryz.ntmps26
    go_wp2
    go_ret3
    exact ⟨ok3 (unhide HR), Below.refl _ _⟩
set_option maxHeartbeats 1000000 in
set_option maxRecDepth 100000 in
theorem next_three (s : ByteArray) (pos : Nat) (w : World) (hp : pos < s.size) (hs : s.size ≤ 1048576) (h0 : 224 ≤ bt s pos) (h1 : bt s pos < 240) :
    Calls Tryz.prog 26 #[.string s, .int .i64 pos] w fun e w' => Ok3 (dP s pos) (dN s pos) e ∧ Below w.heap.size w w' := by
  have f0 := wrap_bt s pos
  have g0 : (224 : Int) ≤ (bt s pos : Int) := by omega
  have g1 : (bt s pos : Int) < 240 := by omega
  have g2 : (128 : Int) ≤ (bt s pos : Int) := by omega
  have g3 : (194 : Int) ≤ (bt s pos : Int) := by omega
  have H0 := hide h0
  have H1 := hide h1
  clear h0 h1
  by_cases hsz : pos + 2 < s.size
  · go_enter Tryz.func26, Tryz.ntmps26
    go_wp2
    go_loop [9, 10] (fun p i => ∃ k q : Nat, k ≤ 2 ∧ i = .int .i64 (k + 1) ∧ p = .int .i64 q ∧ q ≤ 8388607 ∧ Hid (q = acc s pos 16 k) ∧ Hid (Goes s pos k)) (fun _ i => 3 - (intOf i).toNat)
    case atStart => exact ⟨0, bt s pos % 16, by omega, by go_num, by go_num, by omega, hide rfl, hide (fun j hj1 hj2 => by omega)⟩
    case round =>
      obtain ⟨k, q, hk, rfl, rfl, hq, HQ, HG⟩ := hrel
      clear f0
      by_cases hlt : k < 2
      · have f1 := wrap_bt s (pos + (k + 1))
        have hbt := bt_lt s (pos + (k + 1))
        by_cases t1 : bt s (pos + (k + 1)) < 128
        · have HR := hide (broken_of (stop_three hlt (unhide H0) (unhide H1) (.inl t1)))
          have t1' : (bt s (pos + (k + 1)) : Int) < 128 := by omega
          clear t1
          go_wp2
          go_ret3
          exact ⟨ok3 (unhide HR), Below.refl _ _⟩
        · by_cases t2 : 191 < bt s (pos + (k + 1))
          · have HR := hide (broken_of (stop_three hlt (unhide H0) (unhide H1) (.inr t2)))
            have t1' : (128 : Int) ≤ (bt s (pos + (k + 1)) : Int) := by omega
            have t2' : (191 : Int) < (bt s (pos + (k + 1)) : Int) := by omega
            clear t1 t2
            go_wp2
            go_ret3
            exact ⟨ok3 (unhide HR), Below.refl _ _⟩
          · have HG' := hide ((unhide HG).succ (by omega) (by omega))
            have HQ' : Hid (q * 64 + bt s (pos + (k + 1)) % 64 = acc s pos 16 (k + 1)) := hide (by rw [unhide HQ]; rfl)
            have hbd := acc_bd s pos 16 (k + 1) (by omega) (by omega) (by omega)
            rw [← unhide HQ'] at hbd
            have t1' : (128 : Int) ≤ (bt s (pos + (k + 1)) : Int) := by omega
            have t2' : (bt s (pos + (k + 1)) : Int) ≤ 191 := by omega
            clear t1 t2 HQ HG
            go_wp2
            go_round
            case rel => exact ⟨k + 1, q * 64 + bt s (pos + (k + 1)) % 64, by omega, by go_num, by go_num, hbd, HQ', HG'⟩
            case measure => simp [intOf]; omega
      · obtain rfl : k = 2 := by omega
        have he := end_three (unhide H0) (unhide H1) hsz (unhide HG) (unhide HQ)
        by_cases ok : 2048 ≤ q ∧ ¬ (55296 ≤ q ∧ q ≤ 57343)
        · obtain ⟨hpt, hs2⟩ := yes3 he.1 ok
          have HR := hide (he.2.1 ok)
          clear he HQ HG ok
          go_wp2_with (first | (go_at_call 47; refine (isPointS (q : Int) _).mono ?_; rintro e w1 ⟨rfl, rfl⟩) | (go_at_call 48; refine (write_any (q : Int) _).mono ?_; rintro e w2 ⟨rfl, hb2⟩))
          go_ret3
          exact ⟨ok3 (unhide HR), hb2⟩
        · have HR := hide (he.2.2 ok)
          cases hpt : isPt (q : Int)
          · clear he HQ HG ok
            go_wp2_with (first | (go_at_call 47; refine (isPointS (q : Int) _).mono ?_; rintro e w1 ⟨rfl, rfl⟩) | (go_at_call 48; refine (write_any (q : Int) _).mono ?_; rintro e w2 ⟨rfl, hb2⟩))
            go_ret3
            exact ⟨ok3 (unhide HR), Below.refl _ _⟩
          · have hs2 := not3 hpt ok
            clear he HQ HG ok
            go_wp2_with (first | (go_at_call 47; refine (isPointS (q : Int) _).mono ?_; rintro e w1 ⟨rfl, rfl⟩) | (go_at_call 48; refine (write_any (q : Int) _).mono ?_; rintro e w2 ⟨rfl, hb2⟩))
            go_ret3
            exact ⟨ok3 (unhide HR), hb2⟩
  · have HR := hide (broken_of (s := s) (pos := pos) (dec_bad (bt_lt _ _) (by have := unhide H0; have := unhide H1; omega)))
    have hsz' : (s.size : Int) ≤ (pos : Int) + 2 := by omega
    go_enter Tryz.func26, Tryz.ntmps26
    go_wp2
    go_ret3
    exact ⟨ok3 (unhide HR), Below.refl _ _⟩
set_option maxHeartbeats 1000000 in
set_option maxRecDepth 100000 in
theorem next_four (s : ByteArray) (pos : Nat) (w : World) (hp : pos < s.size) (hs : s.size ≤ 1048576) (h0 : 240 ≤ bt s pos) (h1 : bt s pos < 245) :
    Calls Tryz.prog 26 #[.string s, .int .i64 pos] w fun e w' => Ok3 (dP s pos) (dN s pos) e ∧ Below w.heap.size w w' := by
  have f0 := wrap_bt s pos
  have g0 : (240 : Int) ≤ (bt s pos : Int) := by omega
  have g1 : (bt s pos : Int) < 245 := by omega
  have g2 : (128 : Int) ≤ (bt s pos : Int) := by omega
  have g3 : (194 : Int) ≤ (bt s pos : Int) := by omega
  have g4 : (224 : Int) ≤ (bt s pos : Int) := by omega
  have H0 := hide h0
  have H1 := hide h1
  clear h0 h1
  by_cases hsz : pos + 3 < s.size
  · go_enter Tryz.func26, Tryz.ntmps26
    go_wp2
    go_loop [9, 10] (fun p i => ∃ k q : Nat, k ≤ 3 ∧ i = .int .i64 (k + 1) ∧ p = .int .i64 q ∧ q ≤ 8388607 ∧ Hid (q = acc s pos 8 k) ∧ Hid (Goes s pos k)) (fun _ i => 4 - (intOf i).toNat)
    case atStart => exact ⟨0, bt s pos % 8, by omega, by go_num, by go_num, by omega, hide rfl, hide (fun j hj1 hj2 => by omega)⟩
    case round =>
      obtain ⟨k, q, hk, rfl, rfl, hq, HQ, HG⟩ := hrel
      clear f0
      by_cases hlt : k < 3
      · have f1 := wrap_bt s (pos + (k + 1))
        have hbt := bt_lt s (pos + (k + 1))
        by_cases t1 : bt s (pos + (k + 1)) < 128
        · have HR := hide (broken_of (stop_four hlt (unhide H0) (unhide H1) (.inl t1)))
          have t1' : (bt s (pos + (k + 1)) : Int) < 128 := by omega
          clear t1
          go_wp2
          go_ret3
          exact ⟨ok3 (unhide HR), Below.refl _ _⟩
        · by_cases t2 : 191 < bt s (pos + (k + 1))
          · have HR := hide (broken_of (stop_four hlt (unhide H0) (unhide H1) (.inr t2)))
            have t1' : (128 : Int) ≤ (bt s (pos + (k + 1)) : Int) := by omega
            have t2' : (191 : Int) < (bt s (pos + (k + 1)) : Int) := by omega
            clear t1 t2
            go_wp2
            go_ret3
            exact ⟨ok3 (unhide HR), Below.refl _ _⟩
          · have HG' := hide ((unhide HG).succ (by omega) (by omega))
            have HQ' : Hid (q * 64 + bt s (pos + (k + 1)) % 64 = acc s pos 8 (k + 1)) := hide (by rw [unhide HQ]; rfl)
            have hbd := acc_bd s pos 8 (k + 1) (by omega) (by omega) (by omega)
            rw [← unhide HQ'] at hbd
            have t1' : (128 : Int) ≤ (bt s (pos + (k + 1)) : Int) := by omega
            have t2' : (bt s (pos + (k + 1)) : Int) ≤ 191 := by omega
            clear t1 t2 HQ HG
            go_wp2
            go_round
            case rel => exact ⟨k + 1, q * 64 + bt s (pos + (k + 1)) % 64, by omega, by go_num, by go_num, hbd, HQ', HG'⟩
            case measure => simp [intOf]; omega
      · obtain rfl : k = 3 := by omega
        have he := end_four (unhide H0) (unhide H1) hsz (unhide HG) (unhide HQ)
        by_cases ok : 65536 ≤ q ∧ q ≤ 1114111
        · obtain ⟨hpt, hs2⟩ := yes4 ok
          have HR := hide (he.2.1 ok)
          clear he HQ HG ok
          go_wp2_with (first | (go_at_call 47; refine (isPointS (q : Int) _).mono ?_; rintro e w1 ⟨rfl, rfl⟩) | (go_at_call 48; refine (write_any (q : Int) _).mono ?_; rintro e w2 ⟨rfl, hb2⟩))
          go_ret3
          exact ⟨ok3 (unhide HR), hb2⟩
        · have HR := hide (he.2.2 ok)
          cases hpt : isPt (q : Int)
          · clear he HQ HG ok
            go_wp2_with (first | (go_at_call 47; refine (isPointS (q : Int) _).mono ?_; rintro e w1 ⟨rfl, rfl⟩) | (go_at_call 48; refine (write_any (q : Int) _).mono ?_; rintro e w2 ⟨rfl, hb2⟩))
            go_ret3
            exact ⟨ok3 (unhide HR), Below.refl _ _⟩
          · have hs2 := not4 hpt ok
            clear he HQ HG ok
            go_wp2_with (first | (go_at_call 47; refine (isPointS (q : Int) _).mono ?_; rintro e w1 ⟨rfl, rfl⟩) | (go_at_call 48; refine (write_any (q : Int) _).mono ?_; rintro e w2 ⟨rfl, hb2⟩))
            go_ret3
            exact ⟨ok3 (unhide HR), hb2⟩
  · have HR := hide (broken_of (s := s) (pos := pos) (dec_bad (bt_lt _ _) (by have := unhide H0; have := unhide H1; omega)))
    have hsz' : (s.size : Int) ≤ (pos : Int) + 3 := by omega
    go_enter Tryz.func26, Tryz.ntmps26
    go_wp2
    go_ret3
    exact ⟨ok3 (unhide HR), Below.refl _ _⟩
theorem next_any (s : ByteArray) (pos : Nat) (w : World) (hp : pos < s.size) (hs : s.size ≤ 1048576) :
    Calls Tryz.prog 26 #[.string s, .int .i64 pos] w fun e w' => Ok3 (dP s pos) (dN s pos) e ∧ Below w.heap.size w w' := by
  by_cases h1 : bt s pos < 128
  · exact next_one s pos w hp h1
  by_cases h2 : bt s pos < 194 ∨ 245 ≤ bt s pos
  · exact next_bad s pos w hp (by omega)
  by_cases h3 : bt s pos < 224
  · exact next_two s pos w hp hs (by omega) h3
  by_cases h4 : bt s pos < 240
  · exact next_three s pos w hp hs (by omega) h4
  exact next_four s pos w hp hs (by omega) (by omega)
end Go.Proofs.YtamigjljgepfiaaGreatDoor
/- PointsOf of the program and of the specification answer with the points that the model's own reading gives. -/
namespace Go.Proofs.YtamigjljgepfiaaGreatDoor
open Go.RowKit
theorem owned_alloc {w : World} {base : Nat} {e : TypeId} {v : Value} {n : Nat} {xs : List Value} (h : w.ownsRow base e 1 v n xs) (o : Obj) : (w.alloc o).ownsRow base e 1 v n xs :=
  ownsRow_below h ((Below.refl _ _).alloc (Nat.le_refl _) o)
/-- One round: the point that was read is behind the others. -/
theorem pts_step {s : ByteArray} {n pos : Nat} {L : List Int} (h : steps s n = (L, pos)) (hp : pos < s.size) : steps s (n + 1) = (L ++ [(dP s pos : Int)], pos + dN s pos) := by
  have := steps_next s n (by rw [h]; exact hp)
  rw [h] at this
  exact this
theorem row_step {w wr w1 w2 : World} {base : Nat} {v v' : Value} {L : List Int} {p : Int} {o : Obj} (hb : Below base w wr) (hb1 : Below base wr w1) (hB : base ≤ w1.heap.size)
    (ho : w1.ownsRow base 2 1 v L.length (L.map (Value.int .i64)))
    (ho2 : w2.ownsRow base 2 1 v' (L.length + 1) (L.map (Value.int .i64) ++ [.int .i64 p])) (hg : (w1.alloc o).grownBy w2 v.ownBlock) :
    w2.ownsRow base 2 1 v' (L ++ [p]).length ((L ++ [p]).map (Value.int .i64)) ∧ Below base w w2 := by
  refine ⟨?_, ((hb.trans hb1).alloc hB o).grown hg (by simp; omega) (fun j hj => (ho.lt j hj).1)⟩
  rw [List.length_append, List.map_append]
  exact ho2
set_option maxHeartbeats 1000000 in
theorem l01Points (s : ByteArray) (w : World) (hs : s.size ≤ 131072) :
    Calls Tryz.prog 9 #[.string s] w fun e w' => ∃ v, e = .returned v ∧ w'.ownsRow w.heap.size 2 1 v (pts s).length ((pts s).map (Value.int .i64)) ∧ Below w.heap.size w w' := by
  obtain ⟨i0, hi, hz0, hz1, hz2⟩ := info_parts info2
  have HO0 : Hid ((w.alloc (.cells #[] 2)).ownsRow w.heap.size 2 1 (.slice (some ⟨w.heap.size, 0, none⟩) 0 0) ([] : List Int).length (([] : List Int).map (Value.int .i64))) := hide (World.ownsRow_lit w #[] 0 (Nat.le_refl _) (by unfold maxLen; omega) rfl)
  have HB0 : Hid (Below w.heap.size w (w.alloc (.cells #[] 2))) := hide ((Below.refl _ _).alloc (Nat.le_refl _) _)
  go_enter Tryz.func9, Tryz.ntmps9
  go_wp2
  go_loopw [3, 4] (fun v i wr => ∃ (n : Nat) (L : List Int) (pos : Nat), Hid (steps s n = (L, pos)) ∧ i = .int .i64 pos ∧ pos ≤ s.size ∧ L.length ≤ pos ∧ Hid (wr.ownsRow w.heap.size 2 1 v L.length (L.map (Value.int .i64))) ∧ Hid (Below w.heap.size w wr)) (fun _ i _ => s.size - (intOf i).toNat)
  case atStart => exact ⟨0, [], 0, hide rfl, rfl, by omega, by simp, HO0, HB0⟩
  case round =>
    obtain ⟨n, L, pos, HS, rfl, hpos, hL, HO, HB⟩ := hrel
    clear HO0 HB0
    by_cases hlt : pos < s.size
    · have hbd := dN_bd s pos hlt
      have d1 := hbd.1
      have d2 := hbd.2.1
      have hBs := (unhide HB).size
      have HS' := hide (pts_step (unhide HS) hlt)
      clear hbd
      go_wp2_with (first | (go_at_call 26; refine (next_any s pos _ hlt (by omega)).mono ?_; rintro e w1 ⟨⟨ok, rfl⟩, hb1⟩; have hb1s := hb1.size; have HB1 := hide hb1; clear hb1; have HO1 := hide (ownsRow_below (unhide HO) (unhide HB1))) | (at_builtin; refine wpList_append_own _ rfl _ _ 27 rfl w.heap.size 2 i0 (.int .i64 0) 1 8 Tryz.underlying27 hi hz0 hz1 hz2 rfl (by decide) _ _ _ rfl (owned_alloc (unhide HO1) _) ⟨w1.heap.size, 0, none⟩ 1 1 [.int .i64 (dP s pos)] rfl rfl ?c1 ?c2 ?c3 ?c4 ?c5 ?_))
      case c1 => exact cell_one_new _ _ _
      case c2 => intro u hu; simp at hu; subst hu; rfl
      case c3 => unfold maxLen; omega
      case c4 => omega
      case c5 => simp; omega
      intro v' w2 hown' hgrow _
      have R := hide (row_step (unhide HB) ((unhide HB1).mono hBs) (by omega) (unhide HO1) hown' hgrow)
      clear hown' hgrow
      go_wp2
      go_roundw
      case rel => exact ⟨n + 1, L ++ [(dP s pos : Int)], pos + dN s pos, HS', by go_num, by omega, by simp; omega, hide (unhide R).1, hide (unhide R).2⟩
      case measure => simp [intOf]; omega
    · go_wp2
      go_ret
      have e := steps_pts s n (by rw [unhide HS]; show s.size ≤ pos; omega)
      rw [unhide HS] at e
      have e' : L = pts s := e
      exact ⟨_, rfl, by rw [← e']; exact unhide HO, unhide HB⟩
/-- The points of a text: none where it is too long. -/
def ptsOut (s : ByteArray) : List Int := if 65536 < s.size then [] else pts s
theorem pts_le (s : ByteArray) : (pts s).length ≤ s.size := by have := steps_le s s.size; unfold pts; omega
theorem ptsOut_le (s : ByteArray) : (ptsOut s).length ≤ 65536 := by
  unfold ptsOut
  split
  · simp
  · have := pts_le s; omega
end Go.Proofs.YtamigjljgepfiaaGreatDoor
/- PointsOf of the program, and the law. -/
namespace Go.Proofs.YtamigjljgepfiaaGreatDoor
open Go.RowKit
theorem owned_iterAt {w : World} {base K pos : Nat} {e : TypeId} {v : Value} {n : Nat} {xs : List Value} {s : ByteArray} (h : w.ownsRow base e 1 v n xs) (hk : w.heap[K]? = some (.stringIter s pos)) (pos' : Nat) : (w.iterAt K s pos').ownsRow base e 1 v n xs := by
  refine ⟨h.1, ?_⟩
  rcases h.2 with h' | ⟨g, cap, cur, hv, hg, hh, r⟩
  · exact .inl h'
  · have hne : g ≠ K := by intro e; rw [e, hk] at hh; cases hh
    exact .inr ⟨g, cap, cur, hv, hg, (Lib.iterAt_other w K g s pos' hne).trans hh, r⟩
/-- The iterator behind an append to a row of the call's own. -/
theorem iter_grown {w w2 : World} {base K pos : Nat} {e : TypeId} {v : Value} {n : Nat} {xs : List Value} {s : ByteArray} {o : Obj} (ho : w.ownsRow base e 1 v n xs) (hk : w.heap[K]? = some (.stringIter s pos)) (hg : (w.alloc o).grownBy w2 v.ownBlock) : w2.heap[K]? = some (.stringIter s pos) := by
  have hlt : K < w.heap.size := (Array.getElem?_eq_some_iff.1 hk).1
  have hne : some K ≠ v.ownBlock := by
    intro e
    rcases ho.2 with ⟨rfl, _⟩ | ⟨g, cap, cur, rfl, hg, hh, r⟩
    · cases e
    · simp only [Value.ownBlock, Option.some.injEq] at e
      rw [← e, hk] at hh; cases hh
  rw [hg.block K (by simp; omega) hne, Below.heap_alloc w o K hlt]
  exact hk
set_option maxRecDepth 100000 in
set_option maxHeartbeats 1000000 in
theorem implPoints (s : ByteArray) (w : World) (hs : s.size ≤ 65536) :
    Calls Tryz.prog 13 #[.string s] w fun e w' => ∃ v, e = .returned v ∧ w'.ownsRow w.heap.size 2 1 v (pts s).length ((pts s).map (Value.int .i64)) ∧ Below w.heap.size w w' := by
  obtain ⟨i0, hi, hz0, hz1, hz2⟩ := info_parts info2
  go_enter Tryz.func13, Tryz.ntmps13
  go_wp2_with (at_make; refine wpList_make_own _ rfl _ _ 27 rfl w.heap.size 2 i0 (.int .i64 0) 1 Tryz.underlying27 hi hz0 hz1 .i64 .i64 _ s.size rfl rfl rfl ?b2 ?b3 ?b4 ?_)
  case b2 => rw [hz2]; omega
  case b3 => unfold maxLen; omega
  case b4 => omega
  intro w1 hown hgrow
  have hw1 := (made_below hgrow).size
  have HO0 : Hid ((w1.iter s 0).ownsRow w.heap.size 2 1 (.slice (some ⟨w.heap.size, 0, none⟩) 0 s.size) ([] : List Int).length (([] : List Int).map (Value.int .i64))) := hide (owned_alloc hown _)
  have HB0 : Hid (Below w.heap.size w (w1.iter s 0)) := hide ((made_below hgrow).alloc hw1 _)
  have HI0 : Hid ((w1.iter s 0).heap[w1.heap.size]? = some (.stringIter s 0)) := hide (World.iter_heap w1 s 0)
  clear hown hgrow
  go_wp2
  go_loopw [3] (fun v wr => ∃ (n : Nat) (L : List Int) (pos : Nat), Hid (steps s n = (L, pos)) ∧ pos ≤ s.size ∧ L.length ≤ pos ∧ Hid (wr.heap[w1.heap.size]? = some (.stringIter s pos)) ∧ Hid (wr.ownsRow w.heap.size 2 1 v L.length (L.map (Value.int .i64))) ∧ Hid (Below w.heap.size w wr)) (fun _ wr => s.size - wr.iterPos w1.heap.size)
  case atStart => exact ⟨0, [], 0, hide rfl, by omega, by simp, HI0, HO0, HB0⟩
  case round =>
    obtain ⟨n, L, pos, HS, hpos, hL, HI, HO, HB⟩ := hrel
    clear HO0 HB0 HI0
    have HM := hide (iterPos_of (unhide HI))
    by_cases hlt : pos < s.size
    · have hbd := dN_bd s pos hlt
      have d1 := hbd.1
      have d2 := hbd.2.1
      have d3 := hbd.2.2
      have hBs := (unhide HB).size
      have HS' := hide (pts_step (unhide HS) hlt)
      have hnx : ∀ ty, (Instr.next (.pointer (some ⟨w1.heap.size, 0, none⟩)) true ty).run Tryz.prog wr = .ok (.tuple #[.bool true, .int .i64 pos, .int .i32 (dP s pos)]) (wr.iterAt w1.heap.size s (pos + dN s pos)) := fun ty => Lib.run_next_any_at wr _ s pos ty (unhide HI) hlt
      obtain ⟨w2, hw2⟩ : ∃ w2, wr.iterAt w1.heap.size s (pos + dN s pos) = w2 := ⟨_, rfl⟩
      rw [hw2] at hnx
      have HI2 : Hid (w2.heap[w1.heap.size]? = some (.stringIter s (pos + dN s pos))) := hide (by rw [← hw2]; exact Lib.iterAt_heap wr _ s pos _ (unhide HI))
      have HO2 : Hid (w2.ownsRow w.heap.size 2 1 _ L.length (L.map (Value.int .i64))) := hide (by rw [← hw2]; exact owned_iterAt (unhide HO) (unhide HI) _)
      have HB2 : Hid (Below w.heap.size wr w2) := hide (by rw [← hw2]; exact Lib.below_iterAt (Below.refl _ _) hw1 _ _)
      have hs2 : wr.heap.size ≤ w2.heap.size := (unhide HB2).size
      clear hbd hw2
      go_wp2_with (at_builtin; refine wpList_append_own _ rfl _ _ 27 rfl w.heap.size 2 i0 (.int .i64 0) 1 8 Tryz.underlying27 hi hz0 hz1 hz2 rfl (by decide) _ _ _ rfl (owned_alloc (unhide HO2) _) ⟨w2.heap.size, 0, none⟩ 1 1 [.int .i64 (dP s pos)] rfl rfl ?c1 ?c2 ?c3 ?c4 ?c5 ?_)
      case c1 => exact cell_one_new _ _ _
      case c2 => intro u hu; simp at hu; subst hu; rfl
      case c3 => unfold maxLen; omega
      case c4 => omega
      case c5 => simp; omega
      intro v' w3 hown' hgrow _
      have HI3 := hide (iter_grown (unhide HO2) (unhide HI2) hgrow)
      have R := hide (row_step (unhide HB) (unhide HB2) (by omega) (unhide HO2) hown' hgrow)
      have HM3 := hide (iterPos_of (unhide HI3))
      clear hown' hgrow
      go_wp2
      go_roundw
      case rel => exact ⟨n + 1, L ++ [(dP s pos : Int)], pos + dN s pos, HS', by omega, by simp; omega, HI3, hide (unhide R).1, hide (unhide R).2⟩
      case measure => rw [unhide HM, unhide HM3]; omega
    · have hnx : ∀ ty, (Instr.next (.pointer (some ⟨w1.heap.size, 0, none⟩)) true ty).run Tryz.prog wr = .ok (.tuple #[.bool false]) wr := fun ty => Lib.run_next_end_at wr _ s pos ty (unhide HI) hlt
      go_wp2
      go_ret
      have e := steps_pts s n (by rw [unhide HS]; show s.size ≤ pos; omega)
      rw [unhide HS] at e
      have e' : L = pts s := e
      exact ⟨_, rfl, by rw [← e']; exact unhide HO, unhide HB⟩
theorem implPointsOf (s : ByteArray) (w : World) (hs : s.size ≤ 1048576) :
    Calls Tryz.prog 13 #[.string s] w fun e w' => ∃ v, e = .returned v ∧ w'.ownsRow w.heap.size 2 1 v (ptsOut s).length ((ptsOut s).map (Value.int .i64)) ∧ Below w.heap.size w w' := by
  by_cases hb : 65536 < s.size
  · go_enter Tryz.func13, Tryz.ntmps13
    go_wp2
    go_ret
    refine ⟨_, rfl, ?_, Below.refl _ _⟩
    have e : ptsOut s = [] := by unfold ptsOut; rw [if_pos hb]
    rw [e]
    exact World.ownsRow_nil _ _ _ _
  · have e : ptsOut s = pts s := by unfold ptsOut; rw [if_neg hb]
    rw [e]
    exact implPoints s w (by omega)
end Go.Proofs.YtamigjljgepfiaaGreatDoor
/- Marks written into a slice that the call owns, and found there again. -/
namespace Go.Proofs.YtamigjljgepfiaaGreatDoor
open Go.RowKit
/-- c, c + 1, .. in the first k places of l. -/
def markL (l : List Int) (c : Int) (k : Nat) : List Int := (List.range k).map (fun i : Nat => c + (i : Int)) ++ l.drop k
theorem markL_zero (l : List Int) (c : Int) : markL l c 0 = l := by simp [markL]
theorem markL_length (l : List Int) (c : Int) (k : Nat) (h : k ≤ l.length) : (markL l c k).length = l.length := by simp [markL]; omega
theorem markL_set (l : List Int) (c : Int) (k : Nat) (h : k < l.length) (f : Int → Value) : ((markL l c k).map f).set k (f (c + k)) = (markL l c (k + 1)).map f := by
  rw [← List.map_set]
  congr 1
  unfold markL
  have hk : ((List.range k).map (fun i : Nat => c + (i : Int))).length = k := by simp
  rw [List.set_append_right _ _ (by omega), hk, Nat.sub_self, List.drop_eq_getElem_cons h, List.set_cons_zero, List.range_succ, List.map_append, List.append_assoc]
  rfl
theorem markL_all (l : List Int) (c : Int) : markL l c l.length = (List.range l.length).map (fun i : Nat => c + (i : Int)) := by simp [markL]
def seqL (c : Int) (n : Nat) : List Int := (List.range n).map (fun i : Nat => c + (i : Int))
theorem seqL_length (c : Int) (n : Nat) : (seqL c n).length = n := by simp [seqL]
theorem nth_seqL (c : Int) (n k : Nat) (h : k < n) : nth (seqL c n) k = c + k := by simp [nth, seqL, List.getD, h]
theorem owned_slice {w : World} {base : Nat} {e : TypeId} {v : Value} {n : Nat} {xs : List Value} (h : w.ownsRow base e 1 v n xs) (hn : 0 < n) : ∃ g cap, v = .slice (some ⟨g, 0, none⟩) n cap ∧ base ≤ g := by
  rcases h.2 with ⟨_, h0⟩ | ⟨g, cap, cur, hv, hg, _⟩
  · omega
  · exact ⟨g, cap, hv, hg⟩
theorem owned_nil {w : World} {base : Nat} {e : TypeId} {v : Value} {n : Nat} {xs : List Value} (h : w.ownsRow base e 1 v n xs) : ∃ a cap, v = .slice a n cap := by
  rcases h.2 with ⟨hv, h0⟩ | ⟨g, cap, cur, hv, hg, _⟩
  · subst h0; exact ⟨_, _, hv⟩
  · exact ⟨_, _, hv⟩
end Go.Proofs.YtamigjljgepfiaaGreatDoor
/- The points of a text beside the marks of rows (imports alone). -/
namespace Go.Proofs.YtamigjljgepfiaaGreatDoor
end Go.Proofs.YtamigjljgepfiaaGreatDoor
/- Rows of texts: read, held against each other, written over by marks that are texts. -/
namespace Go.Proofs.YtamigjljgepfiaaGreatDoor
open Go.RowKit
def nthS (l : List ByteArray) (i : Nat) : ByteArray := l.getD i ⟨#[]⟩
/-- A slice value that holds just the texts l. -/
def StrsAt (w : World) (v : Value) (l : List ByteArray) : Prop :=
  ∃ a cap, v = .slice a l.length cap ∧ (l = [] ∨ ∃ b off, a = some ⟨b, off, none⟩ ∧ b < w.heap.size ∧ ∀ i, i < l.length → w.cell? ⟨b, off + i, none⟩ = some (.string (nthS l i)))
theorem StrsAt.below {w w' : World} {v : Value} {l : List ByteArray} (h : StrsAt w v l) (hb : Below w.heap.size w w') : StrsAt w' v l := by
  obtain ⟨a, cap, rfl, h⟩ := h
  refine ⟨a, cap, rfl, ?_⟩
  rcases h with h | ⟨b, off, rfl, hbs, hc⟩
  · exact .inl h
  · exact .inr ⟨b, off, rfl, Nat.lt_of_lt_of_le hbs hb.size, fun i hi => (hb.cell (p := ⟨b, off + i, none⟩) hbs).trans (hc i hi)⟩
theorem StrsAt.owned {w : World} {base : Nat} {v : Value} {l : List ByteArray} {n : Nat} (h : w.ownsRow base 9 1 v n (l.map Value.string)) : StrsAt w v l := by
  have hl : l.length = n := by simpa using h.1
  rcases h.2 with ⟨hv, hn⟩ | ⟨g, cap, cur, hv, hg, hh, hn, hm, hs, ht⟩
  · exact ⟨none, 0, by rw [hv, hl, hn], .inl (List.length_eq_zero_iff.1 (by omega))⟩
  · subst hv
    refine ⟨some ⟨g, 0, none⟩, cap, by rw [hl], .inr ⟨g, 0, rfl, (Array.getElem?_eq_some_iff.1 hh).1, fun i hi => ?_⟩⟩
    have hc := h.cellAt i (by omega)
    rw [Nat.zero_add, hc, List.getElem?_map]
    simp [nthS, List.getD, hi]
theorem info9 : (Tryz.prog.info? 9).map (fun i => (i.zero, i.size, i.bytes)) = some (some (.string ⟨#[]⟩), 1, 16) := by kernel_rfl
/-- The digits of a number ahead of others. -/
def dgs : Nat → Nat → List Int → List Int
  | 0, _, o => o
  | f + 1, k, o => if k = 0 then o else dgs f (k / 10) ((48 + ((k % 10 : Nat) : Int)) :: o)
theorem dgs_step (f k : Nat) (o : List Int) (h : k ≠ 0) : dgs (f + 1) k o = dgs f (k / 10) ((48 + ((k % 10 : Nat) : Int)) :: o) := if_neg h
theorem dgs_zero (f : Nat) (o : List Int) : dgs f 0 o = o := by cases f <;> rfl
/-- The text that marks place k. -/
def mtx (k : Nat) : ByteArray := strOfNums ([109] ++ dgs k k [])
theorem str_plus (A B : List Int) : strOfNums A ++ strOfNums B = strOfNums (A ++ B) := by
  unfold strOfNums
  apply ByteArray.ext
  simp [ByteArray.data_append]
theorem str_add (A B : List Int) (h : A.length + B.length ≤ 100000000) (W : World) : (Op.stringOp .add (strOfNums A) (strOfNums B)).run Tryz.prog W = .ok (.string (strOfNums (A ++ B))) W := by
  rw [run_string_add_sum W _ _ (by rw [strOfNums_size, strOfNums_size]; omega), str_plus]
theorem al1 (w : World) (a : Obj) : Below w.heap.size w (w.alloc a) := (Below.refl _ _).alloc (Nat.le_refl _) _
end Go.Proofs.YtamigjljgepfiaaGreatDoor
/- Rows of texts: two that are alike, marks written and found again. -/
namespace Go.Proofs.YtamigjljgepfiaaGreatDoor
open Go.RowKit
theorem owned_ltS {w : World} {base g : Nat} {e : TypeId} {n cap m : Nat} {xs : List Value} (h : w.ownsRow base e 1 (.slice (some ⟨g, 0, none⟩) n cap) m xs) : g < w.heap.size := (h.lt g rfl).2
theorem str_ne (a : ByteArray) (W : World) : (binOp .neq 9 (.string a) (.string a)).run Tryz.prog W = .ok (.bool false) W := by
  simp [go_sem]
/-- The marks of the places c, c + 1, .. in the first k places of l. -/
def mrkS (l : List ByteArray) (c k : Nat) : List ByteArray := (List.range k).map (fun i => mtx (c + i)) ++ l.drop k
theorem mrkS_zero (l : List ByteArray) (c : Nat) : mrkS l c 0 = l := by simp [mrkS]
theorem mrkS_length (l : List ByteArray) (c k : Nat) (h : k ≤ l.length) : (mrkS l c k).length = l.length := by simp [mrkS]; omega
theorem mrkS_set (l : List ByteArray) (c k : Nat) (h : k < l.length) (f : ByteArray → Value) : ((mrkS l c k).map f).set k (f (mtx (c + k))) = (mrkS l c (k + 1)).map f := by
  rw [← List.map_set]
  congr 1
  unfold mrkS
  have hk : ((List.range k).map (fun i => mtx (c + i))).length = k := by simp
  rw [List.set_append_right _ _ (by omega), hk, Nat.sub_self, List.drop_eq_getElem_cons h, List.set_cons_zero, List.range_succ, List.map_append, List.append_assoc]
  rfl
def seqS (c n : Nat) : List ByteArray := (List.range n).map (fun i => mtx (c + i))
theorem mrkS_all (l : List ByteArray) (c : Nat) : mrkS l c l.length = seqS c l.length := by simp [mrkS, seqS]
theorem seqS_length (c n : Nat) : (seqS c n).length = n := by simp [seqS]
theorem nth_seqS (c n k : Nat) (h : k < n) : nthS (seqS c n) k = mtx (c + k) := by simp [nthS, seqS, List.getD, h]
theorem owned_seqS {w : World} {base : Nat} {v : Value} {n c : Nat} (h : w.ownsRow base 9 1 v n ((seqS c n).map Value.string)) : StrsAt w v (seqS c n) := StrsAt.owned h
end Go.Proofs.YtamigjljgepfiaaGreatDoor
/- TextOf of the program, of the specification, and their law. -/
namespace Go.Proofs.YtamigjljgepfiaaGreatDoor
open Go.RowKit
theorem isPt_broken : isPt 65533 = true := by decide
theorem enc_bad (p : Int) (h : isPt p = false) : Lib.encodeRuneZ 65533 = Lib.encodeRuneZ p := by
  have hn : ¬ (0 ≤ p ∧ p ≤ 1114111 ∧ (p < 55296 ∨ 57343 < p)) := fun hh => by rw [(isPt_iff p).2 hh] at h; cases h
  rw [Lib.encodeRuneZ_bad (r := p) (by omega), Lib.encodeRuneZ_three (r := 65533) (.inr (by omega))]
  rfl
theorem impl_step {w wr w2 : World} {v' : Value} {l : List Int} {k : Nat} {r : Int} (hk : k < l.length) (he : Lib.encodeRuneZ r = Lib.encodeRuneZ (nth l k)) (hb : Below w.heap.size w wr)
    (ho2 : w2.ownsRow w.heap.size 5 1 v' ((textL (l.take k)).length + (Lib.encodeRuneZ r).length) ((textL (l.take k)).map (Value.int .u8) ++ runeCells r))
    (hb2 : Below w.heap.size wr w2) : w2.ownsRow w.heap.size 5 1 v' (textL (l.take (k + 1))).length ((textL (l.take (k + 1))).map (Value.int .u8)) ∧ Below w.heap.size w w2 := by
  refine ⟨?_, hb.trans hb2⟩
  rw [textL_snoc l k hk, List.length_append, List.map_append, ← he]
  exact ho2
end Go.Proofs.YtamigjljgepfiaaGreatDoor
/- The points of the text of points are these points. No walk. -/
namespace Go.Proofs.YtamigjljgepfiaaGreatDoor
open Go.RowKit
theorem dec_pt (size pos b0 b1 b2 b3 : Nat) (hb : b0 < 256) : isPt ((dec size pos b0 b1 b2 b3).1 : Int) = true := by
  rw [isPt_iff]
  unfold dec
  repeat' split
  all_goals simp only []
  all_goals omega
theorem dP_pt (s : ByteArray) (pos : Nat) : isPt (dP s pos : Int) = true := by
  unfold dP; rw [decode_dec]; exact dec_pt _ _ _ _ _ _ (bt_lt _ _)
theorem steps_pt (s : ByteArray) (n : Nat) : ∀ x ∈ (steps s n).1, isPt x = true := by
  induction n with
  | zero => simp [steps]
  | succ n ih =>
    unfold steps
    split
    · intro x hx
      simp only [List.mem_append, List.mem_singleton] at hx
      rcases hx with hx | hx
      · exact ih x hx
      · rw [hx]; exact dP_pt _ _
    · exact ih
theorem pts_pt (s : ByteArray) : ∀ x ∈ pts s, isPt x = true := steps_pt s s.size
theorem bt_nums (zs : List Int) (i : Nat) (hi : i < zs.length) (hz : ∀ x ∈ zs, 0 ≤ x ∧ x < 256) : (bt (strOfNums zs) i : Int) = zs[i] := by
  have hs : i < (strOfNums zs).size := by rw [strOfNums_size]; exact hi
  rw [← bt_get _ i hs]
  have hd : (strOfNums zs)[i] = UInt8.ofNat (zs[i]).toNat := by
    show (strOfNums zs).data[i] = _
    simp [strOfNums]
  rw [hd]
  have := hz zs[i] (List.getElem_mem hi)
  rw [UInt8.toNat_ofNat_of_lt' (by show _ < 256; omega)]
  omega
theorem textL_byte (l : List Int) : ∀ x ∈ textL l, 0 ≤ x ∧ x < 256 := by
  intro x hx
  unfold textL at hx
  rw [List.mem_flatMap] at hx
  obtain ⟨p, _, hp⟩ := hx
  exact Lib.encodeRuneZ_byte p x hp
/-- The bytes of the text from the k-th point on begin with those of that point. -/
theorem textL_at (l : List Int) (k : Nat) (hk : k < l.length) (j : Nat) (hj : j < (Lib.encodeRuneZ (nth l k)).length) :
    (bt (strOfNums (textL l)) ((textL (l.take k)).length + j) : Int) = (Lib.encodeRuneZ (nth l k))[j] ∧ (textL (l.take k)).length + j < (strOfNums (textL l)).size := by
  have e : textL l = textL (l.take k) ++ (Lib.encodeRuneZ (nth l k) ++ textL (l.drop (k + 1))) := by
    have h1 : l = l.take (k + 1) ++ l.drop (k + 1) := (List.take_append_drop _ _).symm
    conv => lhs; rw [h1]
    unfold textL
    rw [List.flatMap_append]
    have h2 := textL_snoc l k hk
    unfold textL at h2
    rw [h2, List.append_assoc]
  have hlen : (textL (l.take k)).length + j < (textL l).length := by
    rw [e]; simp; omega
  refine ⟨?_, by rw [strOfNums_size]; exact hlen⟩
  rw [bt_nums (textL l) _ hlen (textL_byte l)]
  have : (textL l)[(textL (l.take k)).length + j]? = some ((Lib.encodeRuneZ (nth l k))[j]) := by
    rw [e, List.getElem?_append_right (by omega), Nat.add_sub_cancel_left, List.getElem?_append_left hj, List.getElem?_eq_getElem hj]
  rw [List.getElem?_eq_getElem hlen] at this
  exact Option.some.inj this
theorem read_back (l : List Int) (k : Nat) (hk : k < l.length) (hp : isPt (nth l k) = true) :
    (dP (strOfNums (textL l)) (textL (l.take k)).length : Int) = nth l k ∧ dN (strOfNums (textL l)) (textL (l.take k)).length = (Lib.encodeRuneZ (nth l k)).length := by
  have hat := textL_at l k hk
  have hb := (isPt_iff _).1 hp
  generalize nth l k = p at *
  generalize (textL (l.take k)).length = pos at *
  generalize strOfNums (textL l) = s at *
  unfold dP dN
  rw [decode_dec]
  by_cases h1 : p < 128
  · have e := Lib.encodeRuneZ_one hb.1 (show p ≤ 127 by omega)
    rw [e] at hat ⊢
    have a0 := (hat 0 (by simp)).1
    simp only [Nat.add_zero, List.getElem_cons_zero] at a0
    rw [dec_one (by omega)]
    exact ⟨a0, rfl⟩
  by_cases h2 : p < 2048
  · have e := Lib.encodeRuneZ_two (show 128 ≤ p by omega) (show p ≤ 2047 by omega)
    rw [e] at hat ⊢
    have a0 := (hat 0 (by simp)).1
    have a1 := hat 1 (by simp)
    simp only [Nat.add_zero, List.getElem_cons_zero, List.getElem_cons_succ] at a0 a1
    rw [dec_two (by omega) (by omega) a1.2 (by omega) (by omega)]
    exact ⟨by omega, rfl⟩
  by_cases h3 : p < 65536
  · have e := Lib.encodeRuneZ_three (show (2048 ≤ p ∧ p < 55296) ∨ (57343 < p ∧ p ≤ 65535) by omega)
    rw [e] at hat ⊢
    have a0 := (hat 0 (by simp)).1
    have a1 := (hat 1 (by simp)).1
    have a2 := hat 2 (by simp)
    simp only [Nat.add_zero, List.getElem_cons_zero, List.getElem_cons_succ] at a0 a1 a2
    rw [dec_three (by omega) (by omega) a2.2 (by omega) (by omega) (by omega) (by omega), if_pos (by omega)]
    exact ⟨by omega, rfl⟩
  · have e := Lib.encodeRuneZ_four (show 65536 ≤ p by omega) hb.2.1
    rw [e] at hat ⊢
    have a0 := (hat 0 (by simp)).1
    have a1 := (hat 1 (by simp)).1
    have a2 := (hat 2 (by simp)).1
    have a3 := hat 3 (by simp)
    simp only [Nat.add_zero, List.getElem_cons_zero, List.getElem_cons_succ] at a0 a1 a2 a3
    rw [dec_four (by omega) (by omega) a3.2 (by omega) (by omega) (by omega) (by omega) (by omega) (by omega), if_pos (by omega)]
    exact ⟨by omega, rfl⟩
theorem steps_text (l : List Int) (hl : ∀ x ∈ l, isPt x = true) (n : Nat) (hn : n ≤ l.length) : steps (strOfNums (textL l)) n = (l.take n, (textL (l.take n)).length) := by
  induction n with
  | zero => simp [steps, textL]
  | succ n ih =>
    have ih' := ih (by omega)
    have hk : n < l.length := by omega
    have hp : isPt (nth l n) = true := hl _ (by simp [nth, List.getD, hk])
    have hr := read_back l n hk hp
    have hlt : (steps (strOfNums (textL l)) n).2 < (strOfNums (textL l)).size := by
      rw [ih']
      have h1 := (Lib.encodeRuneZ_length (nth l n)).1
      have := (textL_at l n hk 0 (by omega)).2
      simpa using this
    rw [steps_next _ n hlt, ih']
    simp only []
    rw [hr.1, hr.2, textL_snoc l n hk, List.length_append, List.take_succ_eq_append_getElem hk]
    simp [nth, List.getD, hk]
theorem pts_text (l : List Int) (hl : ∀ x ∈ l, isPt x = true) : pts (strOfNums (textL l)) = l := by
  have h := steps_text l hl l.length (Nat.le_refl _)
  rw [List.take_length] at h
  have := steps_pts (strOfNums (textL l)) l.length (by rw [h, strOfNums_size]; exact Nat.le_refl _)
  rw [h] at this
  exact this.symm
end Go.Proofs.YtamigjljgepfiaaGreatDoor
