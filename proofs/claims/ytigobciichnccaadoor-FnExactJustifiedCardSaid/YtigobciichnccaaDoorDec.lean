/- The points of a text by the model's own reading, and what the specification's reading comes to. No walk. -/
import Derived.Test.YtigobciichnccaaDoorBase
import Derived.Laws.RangeAny
import Derived.Lib.RuneBytes
namespace Go.Proofs.YtigobciichnccaaDoor
open Go.RowKit
def bt (s : ByteArray) (i : Nat) : Nat := (s.get! i).toNat
theorem bt_lt (s : ByteArray) (i : Nat) : bt s i < 256 := (s.get! i).toNat_lt
theorem bt_get (s : ByteArray) (i : Nat) (h : i < s.size) : (s[i]'h).toNat = bt s i := by
  unfold bt
  simp [ByteArray.get!, getElem!_pos, h]
  rfl
/-- The model's reading, its bytes as numbers. -/
def dec (size pos b0 b1 b2 b3 : Nat) : Nat × Nat :=
  if b0 < 128 then (b0, 1)
  else if b0 / 32 = 6 ∧ pos + 1 < size ∧ b1 / 64 = 2 then (if 128 ≤ (b0 % 32) * 64 + b1 % 64 then ((b0 % 32) * 64 + b1 % 64, 2) else (65533, 1))
  else if b0 / 16 = 14 ∧ pos + 1 < size ∧ b1 / 64 = 2 ∧ pos + 2 < size ∧ b2 / 64 = 2 then
    (if 2048 ≤ (b0 % 16) * 4096 + (b1 % 64) * 64 + b2 % 64 ∧ ¬ (55296 ≤ (b0 % 16) * 4096 + (b1 % 64) * 64 + b2 % 64 ∧ (b0 % 16) * 4096 + (b1 % 64) * 64 + b2 % 64 ≤ 57343) then ((b0 % 16) * 4096 + (b1 % 64) * 64 + b2 % 64, 3) else (65533, 1))
  else if b0 / 8 = 30 ∧ pos + 1 < size ∧ b1 / 64 = 2 ∧ pos + 2 < size ∧ b2 / 64 = 2 ∧ pos + 3 < size ∧ b3 / 64 = 2 then
    (if 65536 ≤ (b0 % 8) * 262144 + (b1 % 64) * 4096 + (b2 % 64) * 64 + b3 % 64 ∧ (b0 % 8) * 262144 + (b1 % 64) * 4096 + (b2 % 64) * 64 + b3 % 64 ≤ 1114111 then ((b0 % 8) * 262144 + (b1 % 64) * 4096 + (b2 % 64) * 64 + b3 % 64, 4) else (65533, 1))
  else (65533, 1)
def decRaw (size pos b0 b1 b2 b3 : Nat) : Nat × Nat :=
  if b0 < 0x80 then (b0, 1)
  else if b0 / 32 == 6 && (decide (pos + 1 < size) && b1 / 64 == 2) then
    (if (b0 % 32) * 64 + b1 % 64 ≥ 0x80 then ((b0 % 32) * 64 + b1 % 64, 2) else (Utf8.runeError, 1))
  else if b0 / 16 == 14 && (decide (pos + 1 < size) && b1 / 64 == 2) && (decide (pos + 2 < size) && b2 / 64 == 2) then
    (if (b0 % 16) * 4096 + (b1 % 64) * 64 + b2 % 64 ≥ 0x800 && Utf8.valid (((b0 % 16) * 4096 + (b1 % 64) * 64 + b2 % 64 : Nat) : Int) then ((b0 % 16) * 4096 + (b1 % 64) * 64 + b2 % 64, 3) else (Utf8.runeError, 1))
  else if b0 / 8 == 30 && (decide (pos + 1 < size) && b1 / 64 == 2) && (decide (pos + 2 < size) && b2 / 64 == 2) && (decide (pos + 3 < size) && b3 / 64 == 2) then
    (if (b0 % 8) * 262144 + (b1 % 64) * 4096 + (b2 % 64) * 64 + b3 % 64 ≥ 0x10000 && Utf8.valid (((b0 % 8) * 262144 + (b1 % 64) * 4096 + (b2 % 64) * 64 + b3 % 64 : Nat) : Int) then ((b0 % 8) * 262144 + (b1 % 64) * 4096 + (b2 % 64) * 64 + b3 % 64, 4) else (Utf8.runeError, 1))
  else (Utf8.runeError, 1)
theorem decode_raw (s : ByteArray) (pos : Nat) : Utf8.decode s pos = decRaw s.size pos (bt s pos) (bt s (pos + 1)) (bt s (pos + 2)) (bt s (pos + 3)) := rfl
theorem valid_iff (c : Nat) : Utf8.valid (c : Int) = true ↔ c < 55296 ∨ (57344 ≤ c ∧ c ≤ 1114111) := by
  unfold Utf8.valid
  simp only [Bool.or_eq_true, Bool.and_eq_true, decide_eq_true_eq]
  omega
theorem ifc {α : Type} {p q : Prop} [Decidable p] [Decidable q] {a b c d : α} (h : p ↔ q) (h1 : a = c) (h2 : b = d) : (if p then a else b) = (if q then c else d) := by
  subst h1 h2
  by_cases hp : p
  · rw [if_pos hp, if_pos (h.1 hp)]
  · rw [if_neg hp, if_neg (fun hq => hp (h.2 hq))]
theorem raw_dec (size pos b0 b1 b2 b3 : Nat) : decRaw size pos b0 b1 b2 b3 = dec size pos b0 b1 b2 b3 := by
  unfold decRaw dec
  refine ifc Iff.rfl rfl (ifc ?_ rfl (ifc ?_ (ifc ?_ rfl rfl) (ifc ?_ (ifc ?_ rfl rfl) rfl)))
  · simp only [Bool.and_eq_true, decide_eq_true_eq, beq_iff_eq]
  · simp only [Bool.and_eq_true, decide_eq_true_eq, beq_iff_eq, and_assoc]
  · simp only [Bool.and_eq_true, decide_eq_true_eq, valid_iff]
    omega
  · simp only [Bool.and_eq_true, decide_eq_true_eq, beq_iff_eq, and_assoc]
  · simp only [Bool.and_eq_true, decide_eq_true_eq, valid_iff]
    omega
theorem decode_dec (s : ByteArray) (pos : Nat) : Utf8.decode s pos = dec s.size pos (bt s pos) (bt s (pos + 1)) (bt s (pos + 2)) (bt s (pos + 3)) :=
  (decode_raw s pos).trans (raw_dec _ _ _ _ _ _)
/-- The point at a place, and how many bytes it has. -/
def dP (s : ByteArray) (pos : Nat) : Nat := (Utf8.decode s pos).1
def dN (s : ByteArray) (pos : Nat) : Nat := (Utf8.decode s pos).2
theorem dec_one {size pos b0 b1 b2 b3 : Nat} (h : b0 < 128) : dec size pos b0 b1 b2 b3 = (b0, 1) := by unfold dec; rw [if_pos h]
theorem dec_two {size pos b0 b1 b2 b3 : Nat} (h : 194 ≤ b0) (h' : b0 < 224) (hs : pos + 1 < size) (c1 : 128 ≤ b1) (c1' : b1 ≤ 191) : dec size pos b0 b1 b2 b3 = ((b0 % 32) * 64 + b1 % 64, 2) := by
  unfold dec
  rw [if_neg (by omega), if_pos (by omega), if_pos (by omega)]
theorem dec_three {size pos b0 b1 b2 b3 : Nat} (h : 224 ≤ b0) (h' : b0 < 240) (hs : pos + 2 < size) (c1 : 128 ≤ b1) (c1' : b1 ≤ 191) (c2 : 128 ≤ b2) (c2' : b2 ≤ 191) : dec size pos b0 b1 b2 b3 =
    if 2048 ≤ (b0 % 16) * 4096 + (b1 % 64) * 64 + b2 % 64 ∧ ¬ (55296 ≤ (b0 % 16) * 4096 + (b1 % 64) * 64 + b2 % 64 ∧ (b0 % 16) * 4096 + (b1 % 64) * 64 + b2 % 64 ≤ 57343) then ((b0 % 16) * 4096 + (b1 % 64) * 64 + b2 % 64, 3) else (65533, 1) := by
  unfold dec
  rw [if_neg (by omega), if_neg (by omega), if_pos (by omega)]
theorem dec_four {size pos b0 b1 b2 b3 : Nat} (h : 240 ≤ b0) (h' : b0 < 245) (hs : pos + 3 < size) (c1 : 128 ≤ b1) (c1' : b1 ≤ 191) (c2 : 128 ≤ b2) (c2' : b2 ≤ 191) (c3 : 128 ≤ b3) (c3' : b3 ≤ 191) : dec size pos b0 b1 b2 b3 =
    if 65536 ≤ (b0 % 8) * 262144 + (b1 % 64) * 4096 + (b2 % 64) * 64 + b3 % 64 ∧ (b0 % 8) * 262144 + (b1 % 64) * 4096 + (b2 % 64) * 64 + b3 % 64 ≤ 1114111 then ((b0 % 8) * 262144 + (b1 % 64) * 4096 + (b2 % 64) * 64 + b3 % 64, 4) else (65533, 1) := by
  unfold dec
  rw [if_neg (by omega), if_neg (by omega), if_neg (by omega), if_pos (by omega)]
/-- Where no writing begins. -/
theorem dec_bad {size pos b0 b1 b2 b3 : Nat} (hb : b0 < 256)
    (h : (128 ≤ b0 ∧ b0 < 194) ∨ 245 ≤ b0 ∨ (194 ≤ b0 ∧ b0 < 224 ∧ (size ≤ pos + 1 ∨ b1 < 128 ∨ 191 < b1)) ∨ (224 ≤ b0 ∧ b0 < 240 ∧ (size ≤ pos + 2 ∨ b1 < 128 ∨ 191 < b1 ∨ b2 < 128 ∨ 191 < b2)) ∨
      (240 ≤ b0 ∧ b0 < 245 ∧ (size ≤ pos + 3 ∨ b1 < 128 ∨ 191 < b1 ∨ b2 < 128 ∨ 191 < b2 ∨ b3 < 128 ∨ 191 < b3))) : dec size pos b0 b1 b2 b3 = (65533, 1) := by
  unfold dec
  rw [if_neg (by omega)]
  by_cases t1 : b0 / 32 = 6 ∧ pos + 1 < size ∧ b1 / 64 = 2
  · rw [if_pos t1, if_neg (by omega)]
  rw [if_neg t1]
  by_cases t2 : b0 / 16 = 14 ∧ pos + 1 < size ∧ b1 / 64 = 2 ∧ pos + 2 < size ∧ b2 / 64 = 2
  · omega
  rw [if_neg t2]
  by_cases t3 : b0 / 8 = 30 ∧ pos + 1 < size ∧ b1 / 64 = 2 ∧ pos + 2 < size ∧ b2 / 64 = 2 ∧ pos + 3 < size ∧ b3 / 64 = 2
  · rw [if_pos t3, if_neg (by omega)]
  rw [if_neg t3]
theorem dec_bd (size pos b0 b1 b2 b3 : Nat) (hp : pos < size) : 1 ≤ (dec size pos b0 b1 b2 b3).2 ∧ pos + (dec size pos b0 b1 b2 b3).2 ≤ size ∧ (dec size pos b0 b1 b2 b3).1 ≤ 1114111 := by
  unfold dec
  repeat' split
  all_goals simp only []
  all_goals omega
theorem dN_bd (s : ByteArray) (pos : Nat) (hp : pos < s.size) : 1 ≤ dN s pos ∧ pos + dN s pos ≤ s.size ∧ dP s pos ≤ 1114111 := by
  unfold dN dP; rw [decode_dec]; exact dec_bd _ _ _ _ _ _ hp
/-- What has been read after n rounds, and the place behind it. -/
def steps (s : ByteArray) : Nat → List Int × Nat
  | 0 => ([], 0)
  | n + 1 => if (steps s n).2 < s.size then ((steps s n).1 ++ [(dP s (steps s n).2 : Int)], (steps s n).2 + dN s (steps s n).2) else steps s n
def pts (s : ByteArray) : List Int := (steps s s.size).1
theorem steps_le (s : ByteArray) (n : Nat) : (steps s n).2 ≤ s.size ∧ (steps s n).1.length ≤ (steps s n).2 := by
  induction n with
  | zero => simp [steps]
  | succ n ih =>
    unfold steps
    split
    · rename_i h
      have := dN_bd s _ h
      simp only [List.length_append, List.length_singleton]
      omega
    · exact ih
theorem steps_stop (s : ByteArray) (n m : Nat) (h : s.size ≤ (steps s n).2) : (steps s (n + m)) = steps s n := by
  induction m with
  | zero => rfl
  | succ m ih =>
    rw [← Nat.add_assoc]
    show (if (steps s (n + m)).2 < s.size then _ else steps s (n + m)) = _
    rw [ih, if_neg (by omega)]
theorem steps_go (s : ByteArray) (n : Nat) : n ≤ (steps s n).2 ∨ s.size ≤ (steps s n).2 := by
  induction n with
  | zero => simp [steps]
  | succ n ih =>
    unfold steps
    split
    · rename_i h
      have := dN_bd s _ h
      simp only []
      omega
    · rename_i h
      exact .inr (by omega)
theorem steps_pts (s : ByteArray) (n : Nat) (h : s.size ≤ (steps s n).2) : (steps s n).1 = pts s := by
  have hs : s.size ≤ (steps s s.size).2 := by rcases steps_go s s.size with h | h <;> exact h
  unfold pts
  have a := steps_stop s n s.size h
  have b := steps_stop s s.size n hs
  rw [Nat.add_comm] at b
  rw [← a, b]
theorem steps_next (s : ByteArray) (n : Nat) (h : (steps s n).2 < s.size) : steps s (n + 1) = ((steps s n).1 ++ [(dP s (steps s n).2 : Int)], (steps s n).2 + dN s (steps s n).2) := by
  show (if (steps s n).2 < s.size then _ else _) = _
  rw [if_pos h]
end Go.Proofs.YtigobciichnccaaDoor
