/- Several texts in one. -/
import Derived.Test.YtbaedapnikhdgaaGreatDoorBase
import Derived.Laws.RangeAny
import Derived.Lib.RuneBytes
import Derived.WalkKit
import Derived.Test.YtbaedapnikhdgaaGreatDoorRows
import Derived.BigQuiet
import Derived.Deep.QuietTactic
import Derived.Deep.RegionWith
import Derived.Handy
import Derived.WalkLawsBesides
import Derived.WalkSpells
import Derived.Below
import Derived.Lib.SlBytesRow
import Derived.Lib.OthersKept
/- The points of a text by the model's own reading, and what the specification's reading comes to. No walk. -/
namespace Go.Proofs.YtbaedapnikhdgaaGreatDoor
open Go.RowKit
def bt (s : ByteArray) (i : Nat) : Nat := (s.get! i).toNat
theorem bt_lt (s : ByteArray) (i : Nat) : bt s i < 256 := (s.get! i).toNat_lt
theorem bt_get (s : ByteArray) (i : Nat) (h : i < s.size) : (s[i]'h).toNat = bt s i := by
  unfold bt
  simp [ByteArray.get!, getElem!_pos, h]
  rfl
/-- The model's reading, its bytes as numbers. -/
def dec (size pos b0 b1 b2 b3 : Nat) : Nat × Nat :=
  if b0 < 128 then (b0, 1)
  else if b0 / 32 = 6 ∧ pos + 1 < size ∧ b1 / 64 = 2 then (if 128 ≤ (b0 % 32) * 64 + b1 % 64 then ((b0 % 32) * 64 + b1 % 64, 2) else (65533, 1))
  else if b0 / 16 = 14 ∧ pos + 1 < size ∧ b1 / 64 = 2 ∧ pos + 2 < size ∧ b2 / 64 = 2 then
    (if 2048 ≤ (b0 % 16) * 4096 + (b1 % 64) * 64 + b2 % 64 ∧ ¬ (55296 ≤ (b0 % 16) * 4096 + (b1 % 64) * 64 + b2 % 64 ∧ (b0 % 16) * 4096 + (b1 % 64) * 64 + b2 % 64 ≤ 57343) then ((b0 % 16) * 4096 + (b1 % 64) * 64 + b2 % 64, 3) else (65533, 1))
  else if b0 / 8 = 30 ∧ pos + 1 < size ∧ b1 / 64 = 2 ∧ pos + 2 < size ∧ b2 / 64 = 2 ∧ pos + 3 < size ∧ b3 / 64 = 2 then
    (if 65536 ≤ (b0 % 8) * 262144 + (b1 % 64) * 4096 + (b2 % 64) * 64 + b3 % 64 ∧ (b0 % 8) * 262144 + (b1 % 64) * 4096 + (b2 % 64) * 64 + b3 % 64 ≤ 1114111 then ((b0 % 8) * 262144 + (b1 % 64) * 4096 + (b2 % 64) * 64 + b3 % 64, 4) else (65533, 1))
  else (65533, 1)
def decRaw (size pos b0 b1 b2 b3 : Nat) : Nat × Nat :=
  if b0 < 0x80 then (b0, 1)
  else if b0 / 32 == 6 && (decide (pos + 1 < size) && b1 / 64 == 2) then
    (if (b0 % 32) * 64 + b1 % 64 ≥ 0x80 then ((b0 % 32) * 64 + b1 % 64, 2) else (Utf8.runeError, 1))
  else if b0 / 16 == 14 && (decide (pos + 1 < size) && b1 / 64 == 2) && (decide (pos + 2 < size) && b2 / 64 == 2) then
    (if (b0 % 16) * 4096 + (b1 % 64) * 64 + b2 % 64 ≥ 0x800 && Utf8.valid (((b0 % 16) * 4096 + (b1 % 64) * 64 + b2 % 64 : Nat) : Int) then ((b0 % 16) * 4096 + (b1 % 64) * 64 + b2 % 64, 3) else (Utf8.runeError, 1))
  else if b0 / 8 == 30 && (decide (pos + 1 < size) && b1 / 64 == 2) && (decide (pos + 2 < size) && b2 / 64 == 2) && (decide (pos + 3 < size) && b3 / 64 == 2) then
    (if (b0 % 8) * 262144 + (b1 % 64) * 4096 + (b2 % 64) * 64 + b3 % 64 ≥ 0x10000 && Utf8.valid (((b0 % 8) * 262144 + (b1 % 64) * 4096 + (b2 % 64) * 64 + b3 % 64 : Nat) : Int) then ((b0 % 8) * 262144 + (b1 % 64) * 4096 + (b2 % 64) * 64 + b3 % 64, 4) else (Utf8.runeError, 1))
  else (Utf8.runeError, 1)
theorem decode_raw (s : ByteArray) (pos : Nat) : Utf8.decode s pos = decRaw s.size pos (bt s pos) (bt s (pos + 1)) (bt s (pos + 2)) (bt s (pos + 3)) := rfl
theorem valid_iff (c : Nat) : Utf8.valid (c : Int) = true ↔ c < 55296 ∨ (57344 ≤ c ∧ c ≤ 1114111) := by
  unfold Utf8.valid
  simp only [Bool.or_eq_true, Bool.and_eq_true, decide_eq_true_eq]
  omega
theorem ifc {α : Type} {p q : Prop} [Decidable p] [Decidable q] {a b c d : α} (h : p ↔ q) (h1 : a = c) (h2 : b = d) : (if p then a else b) = (if q then c else d) := by
  subst h1 h2
  by_cases hp : p
  · rw [if_pos hp, if_pos (h.1 hp)]
  · rw [if_neg hp, if_neg (fun hq => hp (h.2 hq))]
theorem raw_dec (size pos b0 b1 b2 b3 : Nat) : decRaw size pos b0 b1 b2 b3 = dec size pos b0 b1 b2 b3 := by
  unfold decRaw dec
  refine ifc Iff.rfl rfl (ifc ?_ rfl (ifc ?_ (ifc ?_ rfl rfl) (ifc ?_ (ifc ?_ rfl rfl) rfl)))
  · simp only [Bool.and_eq_true, decide_eq_true_eq, beq_iff_eq]
  · simp only [Bool.and_eq_true, decide_eq_true_eq, beq_iff_eq, and_assoc]
  · simp only [Bool.and_eq_true, decide_eq_true_eq, valid_iff]
    omega
  · simp only [Bool.and_eq_true, decide_eq_true_eq, beq_iff_eq, and_assoc]
  · simp only [Bool.and_eq_true, decide_eq_true_eq, valid_iff]
    omega
theorem decode_dec (s : ByteArray) (pos : Nat) : Utf8.decode s pos = dec s.size pos (bt s pos) (bt s (pos + 1)) (bt s (pos + 2)) (bt s (pos + 3)) :=
  (decode_raw s pos).trans (raw_dec _ _ _ _ _ _)
/-- The point at a place, and how many bytes it has. -/
def dP (s : ByteArray) (pos : Nat) : Nat := (Utf8.decode s pos).1
def dN (s : ByteArray) (pos : Nat) : Nat := (Utf8.decode s pos).2
theorem dec_one {size pos b0 b1 b2 b3 : Nat} (h : b0 < 128) : dec size pos b0 b1 b2 b3 = (b0, 1) := by unfold dec; rw [if_pos h]
theorem dec_two {size pos b0 b1 b2 b3 : Nat} (h : 194 ≤ b0) (h' : b0 < 224) (hs : pos + 1 < size) (c1 : 128 ≤ b1) (c1' : b1 ≤ 191) : dec size pos b0 b1 b2 b3 = ((b0 % 32) * 64 + b1 % 64, 2) := by
  unfold dec
  rw [if_neg (by omega), if_pos (by omega), if_pos (by omega)]
theorem dec_three {size pos b0 b1 b2 b3 : Nat} (h : 224 ≤ b0) (h' : b0 < 240) (hs : pos + 2 < size) (c1 : 128 ≤ b1) (c1' : b1 ≤ 191) (c2 : 128 ≤ b2) (c2' : b2 ≤ 191) : dec size pos b0 b1 b2 b3 =
    if 2048 ≤ (b0 % 16) * 4096 + (b1 % 64) * 64 + b2 % 64 ∧ ¬ (55296 ≤ (b0 % 16) * 4096 + (b1 % 64) * 64 + b2 % 64 ∧ (b0 % 16) * 4096 + (b1 % 64) * 64 + b2 % 64 ≤ 57343) then ((b0 % 16) * 4096 + (b1 % 64) * 64 + b2 % 64, 3) else (65533, 1) := by
  unfold dec
  rw [if_neg (by omega), if_neg (by omega), if_pos (by omega)]
theorem dec_four {size pos b0 b1 b2 b3 : Nat} (h : 240 ≤ b0) (h' : b0 < 245) (hs : pos + 3 < size) (c1 : 128 ≤ b1) (c1' : b1 ≤ 191) (c2 : 128 ≤ b2) (c2' : b2 ≤ 191) (c3 : 128 ≤ b3) (c3' : b3 ≤ 191) : dec size pos b0 b1 b2 b3 =
    if 65536 ≤ (b0 % 8) * 262144 + (b1 % 64) * 4096 + (b2 % 64) * 64 + b3 % 64 ∧ (b0 % 8) * 262144 + (b1 % 64) * 4096 + (b2 % 64) * 64 + b3 % 64 ≤ 1114111 then ((b0 % 8) * 262144 + (b1 % 64) * 4096 + (b2 % 64) * 64 + b3 % 64, 4) else (65533, 1) := by
  unfold dec
  rw [if_neg (by omega), if_neg (by omega), if_neg (by omega), if_pos (by omega)]
/-- Where no writing begins. -/
theorem dec_bad {size pos b0 b1 b2 b3 : Nat} (hb : b0 < 256)
    (h : (128 ≤ b0 ∧ b0 < 194) ∨ 245 ≤ b0 ∨ (194 ≤ b0 ∧ b0 < 224 ∧ (size ≤ pos + 1 ∨ b1 < 128 ∨ 191 < b1)) ∨ (224 ≤ b0 ∧ b0 < 240 ∧ (size ≤ pos + 2 ∨ b1 < 128 ∨ 191 < b1 ∨ b2 < 128 ∨ 191 < b2)) ∨
      (240 ≤ b0 ∧ b0 < 245 ∧ (size ≤ pos + 3 ∨ b1 < 128 ∨ 191 < b1 ∨ b2 < 128 ∨ 191 < b2 ∨ b3 < 128 ∨ 191 < b3))) : dec size pos b0 b1 b2 b3 = (65533, 1) := by
  unfold dec
  rw [if_neg (by omega)]
  by_cases t1 : b0 / 32 = 6 ∧ pos + 1 < size ∧ b1 / 64 = 2
  · rw [if_pos t1, if_neg (by omega)]
  rw [if_neg t1]
  by_cases t2 : b0 / 16 = 14 ∧ pos + 1 < size ∧ b1 / 64 = 2 ∧ pos + 2 < size ∧ b2 / 64 = 2
  · omega
  rw [if_neg t2]
  by_cases t3 : b0 / 8 = 30 ∧ pos + 1 < size ∧ b1 / 64 = 2 ∧ pos + 2 < size ∧ b2 / 64 = 2 ∧ pos + 3 < size ∧ b3 / 64 = 2
  · rw [if_pos t3, if_neg (by omega)]
  rw [if_neg t3]
theorem dec_bd (size pos b0 b1 b2 b3 : Nat) (hp : pos < size) : 1 ≤ (dec size pos b0 b1 b2 b3).2 ∧ pos + (dec size pos b0 b1 b2 b3).2 ≤ size ∧ (dec size pos b0 b1 b2 b3).1 ≤ 1114111 := by
  unfold dec
  repeat' split
  all_goals simp only []
  all_goals omega
theorem dN_bd (s : ByteArray) (pos : Nat) (hp : pos < s.size) : 1 ≤ dN s pos ∧ pos + dN s pos ≤ s.size ∧ dP s pos ≤ 1114111 := by
  unfold dN dP; rw [decode_dec]; exact dec_bd _ _ _ _ _ _ hp
/-- What has been read after n rounds, and the place behind it. -/
def steps (s : ByteArray) : Nat → List Int × Nat
  | 0 => ([], 0)
  | n + 1 => if (steps s n).2 < s.size then ((steps s n).1 ++ [(dP s (steps s n).2 : Int)], (steps s n).2 + dN s (steps s n).2) else steps s n
def pts (s : ByteArray) : List Int := (steps s s.size).1
theorem steps_le (s : ByteArray) (n : Nat) : (steps s n).2 ≤ s.size ∧ (steps s n).1.length ≤ (steps s n).2 := by
  induction n with
  | zero => simp [steps]
  | succ n ih =>
    unfold steps
    split
    · rename_i h
      have := dN_bd s _ h
      simp only [List.length_append, List.length_singleton]
      omega
    · exact ih
theorem steps_stop (s : ByteArray) (n m : Nat) (h : s.size ≤ (steps s n).2) : (steps s (n + m)) = steps s n := by
  induction m with
  | zero => rfl
  | succ m ih =>
    rw [← Nat.add_assoc]
    show (if (steps s (n + m)).2 < s.size then _ else steps s (n + m)) = _
    rw [ih, if_neg (by omega)]
theorem steps_go (s : ByteArray) (n : Nat) : n ≤ (steps s n).2 ∨ s.size ≤ (steps s n).2 := by
  induction n with
  | zero => simp [steps]
  | succ n ih =>
    unfold steps
    split
    · rename_i h
      have := dN_bd s _ h
      simp only []
      omega
    · rename_i h
      exact .inr (by omega)
theorem steps_pts (s : ByteArray) (n : Nat) (h : s.size ≤ (steps s n).2) : (steps s n).1 = pts s := by
  have hs : s.size ≤ (steps s s.size).2 := by rcases steps_go s s.size with h | h <;> exact h
  unfold pts
  have a := steps_stop s n s.size h
  have b := steps_stop s s.size n hs
  rw [Nat.add_comm] at b
  rw [← a, b]
theorem steps_next (s : ByteArray) (n : Nat) (h : (steps s n).2 < s.size) : steps s (n + 1) = ((steps s n).1 ++ [(dP s (steps s n).2 : Int)], (steps s n).2 + dN s (steps s n).2) := by
  show (if (steps s n).2 < s.size then _ else _) = _
  rw [if_pos h]
end Go.Proofs.YtbaedapnikhdgaaGreatDoor
/- Stretches of points of one value: there is one list of them. No Go in sight. -/
namespace Go.Proofs.YtbaedapnikhdgaaGreatDoor
abbrev Sp := Int × Int × Int
/-- No span ahead has this value. -/
def headNe (t : List Sp) (v : Int) : Prop := ∀ r ∈ t.head?, r.2.2 ≠ v
/-- The spans, the last one first, are the longest stretches of one value of the points 0 .. b - 1. -/
def RunsR (f : Int → Int) : List Sp → Int → Prop
  | [], b => b = 0
  | (x, y, v) :: t, b => y + 1 = b ∧ x ≤ y ∧ (∀ p, x ≤ p → p ≤ y → f p = v) ∧ RunsR f t x ∧ headNe t v
theorem runs_nonneg (f : Int → Int) : ∀ (l : List Sp) (b : Int), RunsR f l b → 0 ≤ b ∧ (l = [] → b = 0)
  | [], b, h => by
    have h' : b = 0 := h
    omega
  | (x, y, v) :: t, b, h => by
    obtain ⟨h1, h2, _, h4, _⟩ := h
    have := (runs_nonneg f t x h4).1
    exact ⟨by omega, fun e => by cases e⟩
theorem runs_one (f : Int → Int) : ∀ (l l' : List Sp) (b : Int), RunsR f l b → RunsR f l' b → l = l'
  | [], [], _, _, _ => rfl
  | [], (x, y, v) :: t, b, h, h' => by
    have hb : b = 0 := h
    obtain ⟨h1, h2, _, h4, _⟩ := h'
    have := (runs_nonneg f t x h4).1
    omega
  | (x, y, v) :: t, [], b, h, h' => by
    have hb : b = 0 := h'
    obtain ⟨h1, h2, _, h4, _⟩ := h
    have := (runs_nonneg f t x h4).1
    omega
  | (x, y, v) :: t, (x', y', v') :: t', b, h, h' => by
    obtain ⟨h1, h2, h3, h4, h5⟩ := h
    obtain ⟨k1, k2, k3, k4, k5⟩ := h'
    have hy : y = y' := by omega
    subst hy
    have hv : v = v' := by rw [← h3 y h2 (Int.le_refl _), ← k3 y k2 (Int.le_refl _)]
    subst hv
    have gap : ∀ (a c : Int) (s : List Sp), a < c → c ≤ y → 0 ≤ a → (∀ p, a ≤ p → p ≤ y → f p = v) → RunsR f s c → headNe s v → False := by
      intro a c s hac hcy ha hf hs hn
      match s, hs, hn with
      | [], hs, _ => have : c = 0 := hs; omega
      | (p, q, u) :: r, hs, hn =>
        obtain ⟨s1, s2, s3, _, _⟩ := hs
        have hu : u = v := by rw [← s3 q s2 (Int.le_refl _), hf q (by omega) (by omega)]
        exact hn (p, q, u) (by simp) hu
    have hx : x = x' := by
      by_cases e : x < x'
      · exact (gap x x' t' e k2 (runs_nonneg f t x h4).1 h3 k4 k5).elim
      · by_cases e' : x' < x
        · exact (gap x' x t e' h2 (runs_nonneg f t' x' k4).1 k3 h4 h5).elim
        · omega
    subst hx
    rw [runs_one f t t' x h4 k4]
/-- One more span. -/
theorem runs_new {f : Int → Int} {t : List Sp} {x y v : Int} (h : RunsR f t x) (hxy : x ≤ y) (hv : ∀ p, x ≤ p → p ≤ y → f p = v) (hn : headNe t v) : RunsR f ((x, y, v) :: t) (y + 1) :=
  ⟨rfl, hxy, hv, h, hn⟩
/-- The last span goes on. -/
theorem runs_on {f : Int → Int} {t : List Sp} {x y v b : Int} (h : RunsR f ((x, y, v) :: t) b) (y' : Int) (hy : b ≤ y') (hv : ∀ p, b ≤ p → p ≤ y' → f p = v) : RunsR f ((x, y', v) :: t) (y' + 1) := by
  obtain ⟨h1, h2, h3, h4, h5⟩ := h
  refine ⟨rfl, by omega, fun p hp1 hp2 => ?_, h4, h5⟩
  by_cases e : p ≤ y
  · exact h3 p hp1 e
  · exact hv p (by omega) hp2
theorem headNe_nil (v : Int) : headNe [] v := fun r h => by simp at h
theorem headNe_cons (r : Sp) (t : List Sp) (v : Int) (h : r.2.2 ≠ v) : headNe (r :: t) v := by
  intro r' h'
  simp at h'
  rw [← h']; exact h
end Go.Proofs.YtbaedapnikhdgaaGreatDoor
/- Right spans, their points, and sets of points as spans: there is one set. No Go in sight. -/
namespace Go.Proofs.YtbaedapnikhdgaaGreatDoor
def gx (L : List Sp) (i : Nat) : Sp := L.getD i (0, 0, 0)
theorem drop_gx (L : List Sp) (k : Nat) (h : k < L.length) : L.drop k = gx L k :: L.drop (k + 1) := by
  rw [List.drop_eq_getElem_cons h]
  simp [gx, List.getD, h]
/-- Spans rise behind e, each right. -/
def okFrom : Int → List Sp → Bool
  | _, [] => true
  | e, r :: t => decide (e < r.1) && decide (r.1 ≤ r.2.1) && decide (r.2.1 ≤ 32767) && okFrom r.2.1 t
def right (L : List Sp) : Bool := decide (L.length ≤ 1000) && okFrom (-1) L
def faultOf (L : List Sp) : Int := if right L = true then 0 else 1
/-- Where the span ahead of the k-th one ends. -/
def endAt (L : List Sp) : Nat → Int
  | 0 => -1
  | k + 1 => (gx L k).2.1
def okAt (L : List Sp) (k : Nat) : Bool := okFrom (endAt L k) (L.drop k)
theorem okAt_zero (L : List Sp) : okAt L 0 = okFrom (-1) L := rfl
theorem okAt_end (L : List Sp) (k : Nat) (h : ¬ k < L.length) : okAt L k = true := by
  unfold okAt
  rw [List.drop_eq_nil_of_le (by omega)]
  rfl
theorem okAt_step (L : List Sp) (k : Nat) (h : k < L.length) : okAt L k = (decide (endAt L k < (gx L k).1) && decide ((gx L k).1 ≤ (gx L k).2.1) && decide ((gx L k).2.1 ≤ 32767) && okAt L (k + 1)) := by
  unfold okAt
  rw [drop_gx L k h]
  rfl
theorem okFrom_all {e : Int} {L : List Sp} (h : okFrom e L = true) (he : -1 ≤ e) : ∀ i, i < L.length → e < (gx L i).1 ∧ (gx L i).1 ≤ (gx L i).2.1 ∧ (gx L i).2.1 ≤ 32767 := by
  induction L generalizing e with
  | nil => intro i hi; simp at hi
  | cons r t ih =>
    simp only [okFrom, Bool.and_eq_true, decide_eq_true_eq] at h
    obtain ⟨⟨⟨h1, h2⟩, h3⟩, h4⟩ := h
    intro i hi
    match i with
    | 0 => exact ⟨h1, h2, h3⟩
    | i + 1 =>
      have := ih h4 (by omega) i (by simpa using hi)
      have e2 : gx (r :: t) (i + 1) = gx t i := by simp [gx]
      rw [e2]
      exact ⟨by omega, this.2⟩
theorem right_ok {L : List Sp} (h : right L = true) : L.length ≤ 1000 ∧ okFrom (-1) L = true := by
  simpa [right] using h
theorem right_all {L : List Sp} (h : right L = true) (i : Nat) (hi : i < L.length) : 0 ≤ (gx L i).1 ∧ (gx L i).1 ≤ (gx L i).2.1 ∧ (gx L i).2.1 ≤ 32767 := by
  have := okFrom_all (right_ok h).2 (by omega) i hi
  exact ⟨by omega, this.2⟩
theorem okFrom_next {e : Int} {L : List Sp} (h : okFrom e L = true) : ∀ i, i + 1 < L.length → (gx L i).2.1 < (gx L (i + 1)).1 := by
  induction L generalizing e with
  | nil => intro i hi; simp at hi
  | cons r t ih =>
    simp only [okFrom, Bool.and_eq_true, decide_eq_true_eq] at h
    obtain ⟨⟨⟨h1, h2⟩, h3⟩, h4⟩ := h
    intro i hi
    match i with
    | 0 =>
      match t, h4, hi with
      | s :: u, h4, _ =>
        simp only [okFrom, Bool.and_eq_true, decide_eq_true_eq] at h4
        exact h4.1.1.1
    | i + 1 =>
      have := ih h4 i (by simpa using hi)
      simpa [gx] using this
theorem right_next {L : List Sp} (h : right L = true) (i : Nat) (hi : i + 1 < L.length) : (gx L i).2.1 < (gx L (i + 1)).1 := okFrom_next (right_ok h).2 i hi
/-- One of the spans has the point. -/
def has (L : List Sp) (p : Int) : Bool := L.any fun r => decide (r.1 ≤ p) && decide (p ≤ r.2.1)
def hasAt (L : List Sp) (k : Nat) (p : Int) : Bool := has (L.drop k) p
theorem hasAt_zero (L : List Sp) (p : Int) : hasAt L 0 p = has L p := rfl
theorem hasAt_end (L : List Sp) (k : Nat) (p : Int) (h : ¬ k < L.length) : hasAt L k p = false := by
  unfold hasAt
  rw [List.drop_eq_nil_of_le (by omega)]
  rfl
theorem hasAt_step (L : List Sp) (k : Nat) (p : Int) (h : k < L.length) : hasAt L k p = ((decide ((gx L k).1 ≤ p) && decide (p ≤ (gx L k).2.1)) || hasAt L (k + 1) p) := by
  unfold hasAt
  rw [drop_gx L k h]
  rfl
theorem has_iff (L : List Sp) (p : Int) : has L p = true ↔ ∃ i, i < L.length ∧ (gx L i).1 ≤ p ∧ p ≤ (gx L i).2.1 := by
  unfold has
  rw [List.any_eq_true]
  constructor
  · rintro ⟨r, hr, h⟩
    obtain ⟨i, hi, rfl⟩ := List.getElem_of_mem hr
    simp only [Bool.and_eq_true, decide_eq_true_eq] at h
    exact ⟨i, hi, by simpa [gx, List.getD, hi] using h⟩
  · rintro ⟨i, hi, h⟩
    refine ⟨L[i], List.getElem_mem hi, ?_⟩
    simp only [Bool.and_eq_true, decide_eq_true_eq]
    simpa [gx, List.getD, hi] using h
/-- The edges: the first point of each span, and the first one behind it. -/
def edge (L : List Sp) (k : Nat) : Int := if k = 2 * L.length then 32769 else if k % 2 = 1 then (gx L (k / 2)).2.1 + 1 else (gx L (k / 2)).1
theorem edge_end (L : List Sp) : edge L (2 * L.length) = 32769 := by simp [edge]
theorem edge_odd (L : List Sp) (k : Nat) (_ : k < 2 * L.length) (ho : k % 2 = 1) : edge L k = (gx L (k / 2)).2.1 + 1 := by
  unfold edge; rw [if_neg (by omega), if_pos ho]
theorem edge_even (L : List Sp) (k : Nat) (h : k < 2 * L.length) (ho : ¬ k % 2 = 1) : edge L k = (gx L (k / 2)).1 := by
  unfold edge; rw [if_neg (by omega), if_neg ho]
theorem edge_bd {L : List Sp} (hr : right L = true) (k : Nat) (h : k < 2 * L.length) : 0 ≤ edge L k ∧ edge L k ≤ 32768 := by
  have := right_all hr (k / 2) (by omega)
  by_cases ho : k % 2 = 1
  · rw [edge_odd L k h ho]; omega
  · rw [edge_even L k h ho]; omega
theorem edge_mono {L : List Sp} (hr : right L = true) (k : Nat) (h : k < 2 * L.length) : edge L k ≤ edge L (k + 1) := by
  by_cases he : k + 1 = 2 * L.length
  · rw [he, edge_end]
    have := edge_bd hr k h
    omega
  · by_cases ho : k % 2 = 1
    · rw [edge_odd L k h ho, edge_even L (k + 1) (by omega) (by omega)]
      have := right_next hr (k / 2) (by omega)
      have e : (k + 1) / 2 = k / 2 + 1 := by omega
      rw [e]
      omega
    · rw [edge_even L k h ho, edge_odd L (k + 1) (by omega) (by omega)]
      have := right_all hr (k / 2) (by omega)
      have e : (k + 1) / 2 = k / 2 := by omega
      rw [e]
      omega
theorem right_mono {L : List Sp} (hr : right L = true) : ∀ (j i : Nat), i < j → j < L.length → (gx L i).2.1 < (gx L j).1 := by
  intro j
  induction j with
  | zero => intro i h; omega
  | succ j ih =>
    intro i hij hj
    have h1 := right_next hr j hj
    by_cases e : i = j
    · subst e; exact h1
    · have h2 := ih i (by omega) (by omega)
      have h3 := right_all hr j (by omega)
      omega
/-- Between two edges side by side all points are in, or none is. -/
theorem has_between {L : List Sp} (hr : right L = true) (k : Nat) (hk : k ≤ 2 * L.length) (p : Int) (h1 : k = 0 ∨ edge L (k - 1) ≤ p) (h2 : p < edge L k) : has L p = decide (k % 2 = 1) := by
  by_cases ho : k % 2 = 1
  · rw [decide_eq_true ho]
    rw [edge_odd L k (by omega) ho] at h2
    have h1' : edge L (k - 1) ≤ p := h1.resolve_left (by omega)
    rw [edge_even L (k - 1) (by omega) (by omega)] at h1'
    have e : (k - 1) / 2 = k / 2 := by omega
    rw [e] at h1'
    exact (has_iff L p).2 ⟨k / 2, by omega, h1', by omega⟩
  · rw [decide_eq_false ho]
    rw [Bool.eq_false_iff]
    intro hh
    obtain ⟨i, hi, a, b⟩ := (has_iff L p).1 hh
    by_cases hlt : i < k / 2
    · have h1' : edge L (k - 1) ≤ p := h1.resolve_left (by omega)
      rw [edge_odd L (k - 1) (by omega) (by omega)] at h1'
      by_cases e : i = (k - 1) / 2
      · rw [← e] at h1'; omega
      · have := right_mono hr ((k - 1) / 2) i (by omega) (by omega)
        have := right_all hr ((k - 1) / 2) (by omega)
        omega
    · have hke : ¬ k = 2 * L.length := by omega
      rw [edge_even L k (by omega) ho] at h2
      by_cases e : i = k / 2
      · rw [← e] at h2; omega
      · have := right_mono hr i (k / 2) (by omega) hi
        have := right_all hr (k / 2) (by omega)
        omega
/-- The spans, the last one first, are of the value 1 and the longest stretches of the points 0 .. b - 1 of which f is true. -/
def SetsR (f : Int → Bool) : List Sp → Int → Prop
  | [], b => 0 ≤ b ∧ ∀ p, 0 ≤ p → p < b → f p = false
  | (x, y, v) :: t, b => v = 1 ∧ 0 ≤ x ∧ x ≤ y ∧ y < b ∧ (∀ p, x ≤ p → p ≤ y → f p = true) ∧ (∀ p, y < p → p < b → f p = false) ∧ (0 < x → f (x - 1) = false) ∧ SetsR f t x
theorem sets_nonneg {f : Int → Bool} {l : List Sp} {b : Int} (h : SetsR f l b) : 0 ≤ b := by
  match l, h with
  | [], h => exact h.1
  | (x, y, v) :: t, h => obtain ⟨_, h1, h2, h3, _⟩ := h; omega
theorem sets_one (f : Int → Bool) : ∀ (l l' : List Sp) (b : Int), SetsR f l b → SetsR f l' b → l = l'
  | [], [], _, _, _ => rfl
  | [], (x, y, v) :: t, b, h, h' => by
    obtain ⟨_, h1, h2, h3, h4, _⟩ := h'
    have := h.2 y (by omega) h3
    rw [h4 y h2 (Int.le_refl _)] at this
    cases this
  | (x, y, v) :: t, [], b, h, h' => by
    obtain ⟨_, h1, h2, h3, h4, _⟩ := h
    have := h'.2 y (by omega) h3
    rw [h4 y h2 (Int.le_refl _)] at this
    cases this
  | (x, y, v) :: t, (x', y', v') :: t', b, h, h' => by
    obtain ⟨rfl, h1, h2, h3, h4, h5, h6, h7⟩ := h
    obtain ⟨rfl, k1, k2, k3, k4, k5, k6, k7⟩ := h'
    have hy : y = y' := by
      by_cases e : y < y'
      · have := h5 y' e k3
        rw [k4 y' k2 (Int.le_refl _)] at this
        cases this
      · by_cases e' : y' < y
        · have := k5 y e' h3
          rw [h4 y h2 (Int.le_refl _)] at this
          cases this
        · omega
    subst hy
    have hx : x = x' := by
      by_cases e : x < x'
      · have := k6 (by omega)
        rw [h4 (x' - 1) (by omega) (by omega)] at this
        cases this
      · by_cases e' : x' < x
        · have := h6 (by omega)
          rw [k4 (x - 1) (by omega) (by omega)] at this
          cases this
        · omega
    subst hx
    rw [sets_one f t t' x h7 k7]
/-- Points that are not in, behind all. -/
theorem sets_gap {f : Int → Bool} {l : List Sp} {b c : Int} (h : SetsR f l b) (hbc : b ≤ c) (hf : ∀ p, b ≤ p → p < c → f p = false) : SetsR f l c := by
  match l, h with
  | [], h =>
    refine ⟨by have := h.1; omega, fun p h0 h1 => ?_⟩
    by_cases e : p < b
    · exact h.2 p h0 e
    · exact hf p (by omega) h1
  | (x, y, v) :: t, h =>
    obtain ⟨h0, h1, h2, h3, h4, h5, h6, h7⟩ := h
    refine ⟨h0, h1, h2, by omega, h4, fun p a c' => ?_, h6, h7⟩
    by_cases e : p < b
    · exact h5 p a e
    · exact hf p (by omega) c'
/-- A stretch more, not side by side with the last span. -/
theorem sets_new {f : Int → Bool} {l : List Sp} {b c : Int} (h : SetsR f l b) (hbc : b ≤ c) (hf : ∀ p, b ≤ p → p ≤ c → f p = true) (hn : 0 < b → f (b - 1) = false) : SetsR f ((b, c, 1) :: l) (c + 1) :=
  ⟨rfl, sets_nonneg h, hbc, by omega, hf, fun p a c' => by omega, hn, h⟩
/-- The last span goes on. -/
theorem sets_on {f : Int → Bool} {t : List Sp} {x y v b c : Int} (h : SetsR f ((x, y, v) :: t) b) (hy : y + 1 = b) (hbc : b ≤ c) (hf : ∀ p, b ≤ p → p ≤ c → f p = true) : SetsR f ((x, c, v) :: t) (c + 1) := by
  obtain ⟨h0, h1, h2, h3, h4, h5, h6, h7⟩ := h
  refine ⟨h0, h1, by omega, by omega, fun p a d => ?_, fun p a d => by omega, h6, h7⟩
  by_cases e : p ≤ y
  · exact h4 p a e
  · exact hf p (by omega) d
/-- Where the last span does not end right ahead of b, the point there is not in. -/
theorem sets_before {f : Int → Bool} {l : List Sp} {b : Int} (h : SetsR f l b) (hn : ∀ r ∈ l.head?, r.2.1 + 1 ≠ b) (hb : 0 < b) : f (b - 1) = false := by
  match l, h, hn with
  | [], h, _ => exact h.2 (b - 1) (by omega) (by omega)
  | (x, y, v) :: t, h, hn =>
    obtain ⟨h0, h1, h2, h3, h4, h5, h6, h7⟩ := h
    have : y + 1 ≠ b := hn (x, y, v) (by simp)
    exact h5 (b - 1) (by omega) (by omega)
def bI (b : Bool) : Int := if b = true then 1 else 0
/-- Of stretches of 0 and 1 those of 1 are the set. -/
theorem sets_of_runs (f : Int → Bool) : ∀ (l : List Sp) (b : Int), RunsR (fun p => bI (f p)) l b → SetsR f (l.filter fun r => r.2.2 == 1) b
  | [], b, h => by
    have h' : b = 0 := h
    exact ⟨by omega, fun p a c => by omega⟩
  | (x, y, v) :: t, b, h => by
    obtain ⟨h1, h2, h3, h4, h5⟩ := h
    have ih := sets_of_runs f t x h4
    have hx0 := (runs_nonneg _ t x h4).1
    have hvy := h3 y h2 (Int.le_refl _)
    by_cases hv : v = 1
    · subst hv
      have e : ((x, y, (1 : Int)) :: t).filter (fun r => r.2.2 == 1) = (x, y, 1) :: t.filter (fun r => r.2.2 == 1) := by simp
      rw [e]
      have hf : ∀ p, x ≤ p → p ≤ y → f p = true := fun p a c => by
        have := h3 p a c
        simp only [bI] at this
        split at this
        · assumption
        · omega
      have := sets_new ih h2 hf (fun hx => by
        match t, h4, h5 with
        | [], h4, _ => have : x = 0 := h4; omega
        | (x', y', v') :: t', h4, h5 =>
          obtain ⟨k1, k2, k3, _, _⟩ := h4
          have hne : v' ≠ 1 := h5 (x', y', v') (by simp)
          have := k3 y' k2 (Int.le_refl _)
          rw [show x - 1 = y' by omega]
          simp only [bI] at this
          cases hq : f y'
          · rfl
          · rw [hq] at this; simp at this; omega)
      rwa [h1] at this
    · have e : ((x, y, v) :: t).filter (fun r => r.2.2 == 1) = t.filter (fun r => r.2.2 == 1) := by
        rw [List.filter_cons_of_neg]
        simpa using hv
      rw [e]
      refine sets_gap ih (by omega) (fun p a c => ?_)
      have := h3 p a (by omega)
      have hb := hvy
      simp only [bI] at this
      cases hq : f p
      · rfl
      · rw [hq] at this; simp at this; omega
end Go.Proofs.YtbaedapnikhdgaaGreatDoor
/- Rows of spans: a copy of one, and what is read of one. -/
namespace Go.Proofs.YtbaedapnikhdgaaGreatDoor
open Go.RowKit
/-- The cells of spans. -/
def cells (L : List Sp) : List Value := L.flatMap fun r => [.int .i64 r.1, .int .i64 r.2.1, .int .i64 r.2.2]
theorem cells_cons (a : Sp) (t : List Sp) : cells (a :: t) = [.int .i64 a.1, .int .i64 a.2.1, .int .i64 a.2.2] ++ cells t := rfl
theorem cells_len (L : List Sp) : (cells L).length = L.length * 3 := by
  induction L with
  | nil => rfl
  | cons a t ih => rw [cells_cons, List.length_append, ih, List.length_cons]; simp; omega
theorem cells_snoc (L : List Sp) (r : Sp) : cells (L ++ [r]) = cells L ++ [.int .i64 r.1, .int .i64 r.2.1, .int .i64 r.2.2] := by
  unfold cells; rw [List.flatMap_append, List.flatMap_singleton]
theorem cells_append (L M : List Sp) : cells (L ++ M) = cells L ++ cells M := by unfold cells; rw [List.flatMap_append]
theorem cells_at (L : List Sp) (i j : Nat) (hi : i < L.length) (hj : j < 3) : (cells L)[i * 3 + j]? = [Value.int .i64 (gx L i).1, .int .i64 (gx L i).2.1, .int .i64 (gx L i).2.2][j]? := by
  induction L generalizing i with
  | nil => simp at hi
  | cons a t ih =>
    rw [cells_cons]
    match i with
    | 0 =>
      rw [List.getElem?_append_left (by simp; omega)]
      simp [gx]
    | i + 1 =>
      rw [List.getElem?_append_right (by simp; omega)]
      have e : (i + 1) * 3 + j - [Value.int .i64 a.1, .int .i64 a.2.1, .int .i64 a.2.2].length = i * 3 + j := by simp; omega
      rw [e, ih i (by simpa using hi)]
      simp [gx]
theorem wrap_in (x : Int) (h0 : -9223372036854775808 ≤ x) (h1 : x ≤ 9223372036854775807) : IntKind.i64.wrap x = x := by
  simp [IntKind.wrap, IntKind.signed, IntKind.bits]; omega
theorem cell_alloc {w : World} {a : Addr} {v : Value} (h : w.cell? a = some v) (o : Obj) : (w.alloc o).cell? a = some v := (World.cell?_of_block (Below.heap_alloc w o a.block (block_lt_of_cell h))).trans h
/-- A slice value that holds just the spans L. -/
def SpsAt (w : World) (v : Value) (L : List Sp) : Prop :=
  ∃ a cap, v = .slice a L.length cap ∧ (L = [] ∨ ∃ b off, a = some ⟨b, off, none⟩ ∧ b < w.heap.size ∧ ∀ i, i < L.length → w.cell? ⟨b, off + i * 3, none⟩ = some (.int .i64 (gx L i).1) ∧ w.cell? ⟨b, off + i * 3 + 1, none⟩ = some (.int .i64 (gx L i).2.1) ∧ w.cell? ⟨b, off + i * 3 + 2, none⟩ = some (.int .i64 (gx L i).2.2))
theorem SpsAt.below {w w' : World} {v : Value} {L : List Sp} (h : SpsAt w v L) (hb : Below w.heap.size w w') : SpsAt w' v L := by
  obtain ⟨a, cap, rfl, h⟩ := h
  refine ⟨a, cap, rfl, ?_⟩
  rcases h with h | ⟨b, off, rfl, hbs, hc⟩
  · exact .inl h
  · exact .inr ⟨b, off, rfl, Nat.lt_of_lt_of_le hbs hb.size, fun i hi => ⟨(hb.cell (p := ⟨b, off + i * 3, none⟩) hbs).trans (hc i hi).1, (hb.cell (p := ⟨b, off + i * 3 + 1, none⟩) hbs).trans (hc i hi).2.1, (hb.cell (p := ⟨b, off + i * 3 + 2, none⟩) hbs).trans (hc i hi).2.2⟩⟩
/-- The first k spans of L, and zeros behind them. -/
def fillS (L : List Sp) (k : Nat) : List Sp := L.take k ++ List.replicate (L.length - k) (0, 0, 0)
theorem fillS_zero (L : List Sp) : fillS L 0 = List.replicate L.length (0, 0, 0) := by simp [fillS]
theorem fillS_all (L : List Sp) : fillS L L.length = L := by simp [fillS]
theorem fillS_len (L : List Sp) (k : Nat) (h : k ≤ L.length) : (fillS L k).length = L.length := by simp [fillS]; omega
theorem rep_cells (n : Nat) : cells (List.replicate n (0, 0, 0)) = (madeCells #[Value.int .i64 0, .int .i64 0, .int .i64 0] (n * 3)).toList := by
  apply List.ext_getElem?
  intro i
  unfold madeCells
  rw [Array.toList_map, List.getElem?_map, Array.toList_range]
  by_cases h : i < n * 3
  · rw [List.getElem?_range h, show i = i / 3 * 3 + i % 3 by omega, cells_at _ _ _ (by simp; omega) (by omega)]
    have e : gx (List.replicate n ((0, 0, 0) : Sp)) (i / 3) = (0, 0, 0) := by
      rw [gx, List.getD_eq_getElem?_getD, List.getElem?_replicate, if_pos (by omega)]; rfl
    rw [e]
    have hm : i % 3 = 0 ∨ i % 3 = 1 ∨ i % 3 = 2 := by omega
    rcases hm with hm | hm | hm <;> simp [hm, Nat.add_mod]
  · rw [List.getElem?_eq_none (by rw [cells_len]; simp; omega), List.getElem?_eq_none (by simp; omega)]
    rfl
theorem cells_set3 (A C : List Sp) (r s : Sp) : (((cells (A ++ r :: C)).set (A.length * 3) (.int .i64 s.1)).set (A.length * 3 + 1) (.int .i64 s.2.1)).set (A.length * 3 + 2) (.int .i64 s.2.2) = cells (A ++ s :: C) := by
  rw [cells_append, cells_append, cells_cons, cells_cons]
  have hl := cells_len A
  rw [List.set_append_right _ _ (by omega), List.set_append_right _ _ (by omega), List.set_append_right _ _ (by omega)]
  congr 1
  rw [hl, Nat.sub_self, show A.length * 3 + 1 - A.length * 3 = 1 by omega, show A.length * 3 + 2 - A.length * 3 = 2 by omega]
  rfl
theorem fillS_set (L : List Sp) (k : Nat) (h : k < L.length) : (((cells (fillS L k)).set (k * 3) (.int .i64 (gx L k).1)).set (k * 3 + 1) (.int .i64 (gx L k).2.1)).set (k * 3 + 2) (.int .i64 (gx L k).2.2) = cells (fillS L (k + 1)) := by
  have hk : (L.take k).length = k := by simp; omega
  have e1 : L.length - k = (L.length - (k + 1)) + 1 := by omega
  have := cells_set3 (L.take k) (List.replicate (L.length - (k + 1)) (0, 0, 0)) (0, 0, 0) (gx L k)
  rw [hk] at this
  unfold fillS
  rw [e1, List.replicate_succ, this, List.take_succ_eq_append_getElem h, List.append_assoc]
  have e2 : gx L k = L[k] := by simp [gx, List.getD, h]
  rw [e2]
  rfl
theorem made_below {w w1 : World} (h : w.grownBy w1 none) : Below w.heap.size w w1 := (Below.refl _ _).grown h (Nat.le_refl _) (fun k hk => by cases hk)
end Go.Proofs.YtbaedapnikhdgaaGreatDoor
/- Slices of int64 beside rows of spans: a copy of one, and two that are alike. -/
namespace Go.Proofs.YtbaedapnikhdgaaGreatDoor
open Go.RowKit
def nth (l : List Int) (i : Nat) : Int := l.getD i 0
/-- A slice value that holds just the numbers l. -/
def IntsAt (w : World) (v : Value) (l : List Int) : Prop :=
  ∃ a cap, v = .slice a l.length cap ∧ (l = [] ∨ ∃ b off, a = some ⟨b, off, none⟩ ∧ b < w.heap.size ∧ ∀ i, i < l.length → w.cell? ⟨b, off + i, none⟩ = some (.int .i64 (nth l i)))
theorem IntsAt.below {w w' : World} {v : Value} {l : List Int} (h : IntsAt w v l) (hb : Below w.heap.size w w') : IntsAt w' v l := by
  obtain ⟨a, cap, rfl, h⟩ := h
  refine ⟨a, cap, rfl, ?_⟩
  rcases h with h | ⟨b, off, rfl, hbs, hc⟩
  · exact .inl h
  · exact .inr ⟨b, off, rfl, Nat.lt_of_lt_of_le hbs hb.size, fun i hi => (hb.cell (p := ⟨b, off + i, none⟩) hbs).trans (hc i hi)⟩
theorem IntsAt.owned {w : World} {base : Nat} {v : Value} {l : List Int} {n : Nat} (h : w.ownsRow base 2 1 v n (l.map (Value.int .i64))) : IntsAt w v l := by
  have hl : l.length = n := by simpa using h.1
  rcases h.2 with ⟨hv, hn⟩ | ⟨g, cap, cur, hv, hg, hh, hn, hm, hs, ht⟩
  · exact ⟨none, 0, by rw [hv, hl, hn], .inl (List.length_eq_zero_iff.1 (by omega))⟩
  · subst hv
    refine ⟨some ⟨g, 0, none⟩, cap, by rw [hl], .inr ⟨g, 0, rfl, (Array.getElem?_eq_some_iff.1 hh).1, fun i hi => ?_⟩⟩
    have hc := h.cellAt i (by omega)
    rw [Nat.zero_add, hc, List.getElem?_map]
    simp [nth, List.getD, hi]
theorem info2 : (Tryz.prog.info? 2).map (fun i => (i.zero, i.size, i.bytes)) = some (some (.int .i64 0), 1, 8) := by kernel_rfl
/-- The first k numbers of l, and zeros behind them. -/
def fill (l : List Int) (k : Nat) : List Int := l.take k ++ List.replicate (l.length - k) 0
theorem fill_zero (l : List Int) : fill l 0 = List.replicate l.length 0 := by simp [fill]
theorem fill_all (l : List Int) : fill l l.length = l := by simp [fill]
theorem fill_set (l : List Int) (k : Nat) (h : k < l.length) (f : Int → Value) : ((fill l k).map f).set k (f (nth l k)) = (fill l (k + 1)).map f := by
  rw [← List.map_set]
  congr 1
  unfold fill
  have hk : (l.take k).length = k := by simp; omega
  have e1 : l.length - k = (l.length - (k + 1)) + 1 := by omega
  rw [e1, List.replicate_succ, List.set_append_right _ _ (by omega), hk, Nat.sub_self, List.set_cons_zero, List.take_succ_eq_append_getElem h]
  have e2 : nth l k = l[k] := by simp [nth, List.getD, h]
  rw [e2, List.append_assoc]
  rfl
theorem fill_length (l : List Int) (k : Nat) (h : k ≤ l.length) : (fill l k).length = l.length := by simp [fill]; omega
theorem made_owned {w1 : World} {B : Nat} {v : Value} {l : List Int} (h : w1.ownsRow B 2 1 v l.length (madeCells #[Value.int .i64 0] l.length).toList) : w1.ownsRow B 2 1 v l.length ((fill l 0).map (Value.int .i64)) := by
  have e : (madeCells #[Value.int .i64 0] l.length).toList = (fill l 0).map (Value.int .i64) := by
    rw [fill_zero, List.map_replicate]
    exact toList_madeCells_one _ _
  rw [← e]; exact h
theorem owned_lt {w : World} {base g : Nat} {e : TypeId} {n cap m : Nat} {xs : List Value} (h : w.ownsRow base e 1 (.slice (some ⟨g, 0, none⟩) n cap) m xs) : g < w.heap.size := (h.lt g rfl).2
end Go.Proofs.YtbaedapnikhdgaaGreatDoor
/- Points and how they are written: the program's and the specification's. -/
namespace Go.Proofs.YtbaedapnikhdgaaGreatDoor
open Go.RowKit
def isPt (p : Int) : Bool := decide (0 ≤ p ∧ p ≤ 1114111 ∧ (p < 55296 ∨ 57343 < p))
theorem isPointS (p : Int) (w : World) :
    Calls Tryz.prog 52 #[.int .i64 p] w fun e w' => e = .returned (.bool (isPt p)) ∧ w' = w := by
  have hp : ¬ 0 ≤ p ∨ (0 ≤ p ∧ ¬ p ≤ 1114111) ∨ (0 ≤ p ∧ p ≤ 1114111 ∧ p < 55296) ∨ (0 ≤ p ∧ p ≤ 1114111 ∧ ¬ p < 55296 ∧ 57343 < p) ∨ (0 ≤ p ∧ p ≤ 1114111 ∧ ¬ p < 55296 ∧ ¬ 57343 < p) := by omega
  rcases hp with h1 | ⟨h1, h2⟩ | ⟨h1, h2, h3⟩ | ⟨h1, h2, h3, h4⟩ | ⟨h1, h2, h3, h4⟩
  all_goals
    go_enter Tryz.func52, Tryz.ntmps52
    go_wp2
    go_ret
    exact ⟨by simp [isPt]; omega, rfl⟩
theorem isPt_iff (p : Int) : isPt p = true ↔ 0 ≤ p ∧ p ≤ 1114111 ∧ (p < 55296 ∨ 57343 < p) := by simp [isPt]
theorem conv_of (w : World) (b cap : Nat) (zs : List Int) (n : Nat) (hn : zs.length = n) (hc : ∀ i, i < n → w.cell? ⟨b, i, none⟩ = some (.int .u8 (zs.getD i 0))) :
    (convert 22 9 (.slice (some ⟨b, 0, none⟩) n cap)).run Tryz.prog w = .ok (.string (strOfNums zs)) w :=
  run_convert_bytes_arg w 22 5 Tryz.underlying22 Tryz.underlying5 b 0 n cap zs hn (fun i hi => by rw [Nat.zero_add]; exact hc i hi) 9 Tryz.underlying9
theorem conv1 (w : World) (a : Int) : (convert 22 9 (.slice (some ⟨w.heap.size, 0, none⟩) 1 1)).run Tryz.prog (w.alloc (.cells #[.int .u8 a] 5)) = .ok (.string (strOfNums [a])) (w.alloc (.cells #[.int .u8 a] 5)) :=
  conv_of _ _ 1 [a] 1 rfl (fun i hi => by match i, hi with | 0, _ => simp)
theorem conv2 (w : World) (a b : Int) : (convert 22 9 (.slice (some ⟨w.heap.size, 0, none⟩) 2 2)).run Tryz.prog (w.alloc (.cells #[.int .u8 a, .int .u8 b] 5)) = .ok (.string (strOfNums [a, b])) (w.alloc (.cells #[.int .u8 a, .int .u8 b] 5)) :=
  conv_of _ _ 2 [a, b] 2 rfl (fun i hi => by match i, hi with | 0, _ => simp | 1, _ => simp)
theorem conv3 (w : World) (a b c : Int) : (convert 22 9 (.slice (some ⟨w.heap.size, 0, none⟩) 3 3)).run Tryz.prog (w.alloc (.cells #[.int .u8 a, .int .u8 b, .int .u8 c] 5)) = .ok (.string (strOfNums [a, b, c])) (w.alloc (.cells #[.int .u8 a, .int .u8 b, .int .u8 c] 5)) :=
  conv_of _ _ 3 [a, b, c] 3 rfl (fun i hi => by match i, hi with | 0, _ => simp | 1, _ => simp | 2, _ => simp)
theorem conv4 (w : World) (a b c d : Int) : (convert 22 9 (.slice (some ⟨w.heap.size, 0, none⟩) 4 4)).run Tryz.prog (w.alloc (.cells #[.int .u8 a, .int .u8 b, .int .u8 c, .int .u8 d] 5)) = .ok (.string (strOfNums [a, b, c, d])) (w.alloc (.cells #[.int .u8 a, .int .u8 b, .int .u8 c, .int .u8 d] 5)) :=
  conv_of _ _ 4 [a, b, c, d] 4 rfl (fun i hi => by match i, hi with | 0, _ => simp | 1, _ => simp | 2, _ => simp | 3, _ => simp)
theorem ret_str {a b : List Int} (h : a = b) : Ending.returned (.string (strOfNums a)) = .returned (.string (strOfNums b)) := by rw [h]
set_option maxHeartbeats 400000 in
theorem write_one (p : Int) (w : World) (h0 : 0 ≤ p) (h1 : p < 128) :
    Calls Tryz.prog 30 #[.int .i64 p] w fun e w' => e = .returned (.string (strOfNums (Lib.encodeRuneZ p))) ∧ Below w.heap.size w w' := by
  have hp : isPt p = true := (isPt_iff p).2 (by omega)
  have hcv := conv1
  go_enter Tryz.func30, Tryz.ntmps30
  go_wp2_with (go_at_call 52; refine (isPointS p _).mono ?_; rintro e w' ⟨rfl, rfl⟩)
  go_ret
  exact ⟨ret_str (Lib.encodeRuneZ_one h0 (by omega)).symm, (Below.refl _ _).alloc (Nat.le_refl _) _⟩
set_option maxHeartbeats 400000 in
theorem write_two (p : Int) (w : World) (h0 : 128 ≤ p) (h1 : p < 2048) :
    Calls Tryz.prog 30 #[.int .i64 p] w fun e w' => e = .returned (.string (strOfNums (Lib.encodeRuneZ p))) ∧ Below w.heap.size w w' := by
  have hp : isPt p = true := (isPt_iff p).2 (by omega)
  have h2 : ¬ p < 128 := by omega
  have hcv := conv2
  go_enter Tryz.func30, Tryz.ntmps30
  go_wp2_with (go_at_call 52; refine (isPointS p _).mono ?_; rintro e w' ⟨rfl, rfl⟩)
  go_ret
  exact ⟨ret_str (Lib.encodeRuneZ_two h0 (by omega)).symm, (Below.refl _ _).alloc (Nat.le_refl _) _⟩
set_option maxHeartbeats 400000 in
theorem write_lo (p : Int) (w : World) (h0 : 2048 ≤ p) (h1 : p < 55296) :
    Calls Tryz.prog 30 #[.int .i64 p] w fun e w' => e = .returned (.string (strOfNums (Lib.encodeRuneZ p))) ∧ Below w.heap.size w w' := by
  have hp : isPt p = true := (isPt_iff p).2 (by omega)
  have h2 : ¬ p < 128 := by omega
  have hcv := conv3
  go_enter Tryz.func30, Tryz.ntmps30
  go_wp2_with (go_at_call 52; refine (isPointS p _).mono ?_; rintro e w' ⟨rfl, rfl⟩)
  go_ret
  exact ⟨ret_str (Lib.encodeRuneZ_three (.inl ⟨h0, h1⟩)).symm, (Below.refl _ _).alloc (Nat.le_refl _) _⟩
set_option maxHeartbeats 400000 in
theorem write_hi (p : Int) (w : World) (h0 : 57343 < p) (h1 : p < 65536) :
    Calls Tryz.prog 30 #[.int .i64 p] w fun e w' => e = .returned (.string (strOfNums (Lib.encodeRuneZ p))) ∧ Below w.heap.size w w' := by
  have hp : isPt p = true := (isPt_iff p).2 (by omega)
  have h2 : ¬ p < 128 := by omega
  have h3 : ¬ p < 2048 := by omega
  have hcv := conv3
  go_enter Tryz.func30, Tryz.ntmps30
  go_wp2_with (go_at_call 52; refine (isPointS p _).mono ?_; rintro e w' ⟨rfl, rfl⟩)
  go_ret
  exact ⟨ret_str (Lib.encodeRuneZ_three (.inr ⟨h0, by omega⟩)).symm, (Below.refl _ _).alloc (Nat.le_refl _) _⟩
set_option maxHeartbeats 400000 in
theorem write_four (p : Int) (w : World) (h0 : 65536 ≤ p) (h1 : p ≤ 1114111) :
    Calls Tryz.prog 30 #[.int .i64 p] w fun e w' => e = .returned (.string (strOfNums (Lib.encodeRuneZ p))) ∧ Below w.heap.size w w' := by
  have hp : isPt p = true := (isPt_iff p).2 (by omega)
  have h2 : ¬ p < 128 := by omega
  have h3 : ¬ p < 2048 := by omega
  have hcv := conv4
  go_enter Tryz.func30, Tryz.ntmps30
  go_wp2_with (go_at_call 52; refine (isPointS p _).mono ?_; rintro e w' ⟨rfl, rfl⟩)
  go_ret
  exact ⟨ret_str (Lib.encodeRuneZ_four h0 h1).symm, (Below.refl _ _).alloc (Nat.le_refl _) _⟩
set_option maxHeartbeats 400000 in
theorem write_bad (p : Int) (w : World) (hb : p < 0 ∨ (55296 ≤ p ∧ p ≤ 57343) ∨ 1114111 < p) :
    Calls Tryz.prog 30 #[.int .i64 p] w fun e w' => e = .returned (.string (strOfNums (Lib.encodeRuneZ p))) ∧ Below w.heap.size w w' := by
  have hp : isPt p = false := by simp [isPt]; omega
  have HB := hide hb
  clear hb
  have hcv := conv3
  go_enter Tryz.func30, Tryz.ntmps30
  go_wp2_with (go_at_call 52; refine (isPointS p _).mono ?_; rintro e w' ⟨rfl, rfl⟩)
  go_ret
  exact ⟨ret_str (by rw [Lib.encodeRuneZ_bad (unhide HB)]), (Below.refl _ _).alloc (Nat.le_refl _) _⟩
theorem write_any (p : Int) (w : World) :
    Calls Tryz.prog 30 #[.int .i64 p] w fun e w' => e = .returned (.string (strOfNums (Lib.encodeRuneZ p))) ∧ Below w.heap.size w w' := by
  by_cases hb : p < 0 ∨ (55296 ≤ p ∧ p ≤ 57343) ∨ 1114111 < p
  · exact write_bad p w hb
  by_cases h1 : p < 128
  · exact write_one p w (by omega) h1
  by_cases h2 : p < 2048
  · exact write_two p w (by omega) h2
  by_cases h3 : p < 55296
  · exact write_lo p w (by omega) h3
  by_cases h4 : p < 65536
  · exact write_hi p w (by omega) h4
  exact write_four p w (by omega) (by omega)
end Go.Proofs.YtbaedapnikhdgaaGreatDoor
/- The specification's reading of one point answers as the model's own. -/
namespace Go.Proofs.YtbaedapnikhdgaaGreatDoor
open Go.RowKit
theorem wrap_bt (s : ByteArray) (i : Nat) : ∀ h, wrap64 (((s[i]'h).toNat : Nat) : Int) = (bt s i : Int) := by
  intro h
  rw [bt_get s i h]
  have := bt_lt s i
  unfold wrap64; omega
theorem ret3 {a b c d : Int} {ok : Bool} (h1 : a = c) (h2 : b = d) : Ending.returned (.tuple #[.int .i64 a, .int .i64 b, .bool ok]) = .returned (.tuple #[.int .i64 c, .int .i64 d, .bool ok]) := by rw [h1, h2]
/-- What the loop has made of the first k bytes. -/
def acc (s : ByteArray) (pos m : Nat) : Nat → Nat
  | 0 => bt s pos % m
  | k + 1 => acc s pos m k * 64 + bt s (pos + (k + 1)) % 64
/-- The bytes 1 to k go on. -/
def Goes (s : ByteArray) (pos k : Nat) : Prop := ∀ j, 1 ≤ j → j ≤ k → 128 ≤ bt s (pos + j) ∧ bt s (pos + j) ≤ 191
theorem Goes.succ {s : ByteArray} {pos k : Nat} (h : Goes s pos k) (h1 : 128 ≤ bt s (pos + (k + 1))) (h2 : bt s (pos + (k + 1)) ≤ 191) : Goes s pos (k + 1) := by
  intro j hj1 hj2
  by_cases e : j = k + 1
  · subst e; exact ⟨h1, h2⟩
  · exact h j hj1 (by omega)
theorem acc_bd (s : ByteArray) (pos m k : Nat) (hm : 0 < m) (hm2 : m ≤ 32) (hk : k ≤ 3) : acc s pos m k ≤ 8388607 := by
  have h0 : bt s pos % m < m := Nat.mod_lt _ hm
  have e0 : acc s pos m 0 = bt s pos % m := rfl
  have e1 : acc s pos m 1 = acc s pos m 0 * 64 + bt s (pos + 1) % 64 := rfl
  have e2 : acc s pos m 2 = acc s pos m 1 * 64 + bt s (pos + 2) % 64 := rfl
  have e3 : acc s pos m 3 = acc s pos m 2 * 64 + bt s (pos + 3) % 64 := rfl
  obtain rfl | rfl | rfl | rfl : k = 0 ∨ k = 1 ∨ k = 2 ∨ k = 3 := by omega
  all_goals omega
theorem broken_of {s : ByteArray} {pos : Nat} (h : dec s.size pos (bt s pos) (bt s (pos + 1)) (bt s (pos + 2)) (bt s (pos + 3)) = (65533, 1)) : (65533 : Int) = (dP s pos : Int) ∧ (1 : Int) = (dN s pos : Int) := by
  unfold dP dN; rw [decode_dec, h]; exact ⟨rfl, rfl⟩
theorem read_of {s : ByteArray} {pos c n : Nat} (h : dec s.size pos (bt s pos) (bt s (pos + 1)) (bt s (pos + 2)) (bt s (pos + 3)) = (c, n)) : (c : Int) = (dP s pos : Int) ∧ (n : Int) = (dN s pos : Int) := by
  unfold dP dN; rw [decode_dec, h]; exact ⟨rfl, rfl⟩
/-- The three answers: a point, how many bytes, and a word that the caller drops. -/
def Ok3 (p n : Int) (e : Ending) : Prop := ∃ ok, e = .returned (.tuple #[.int .i64 p, .int .i64 n, .bool ok])
theorem ok3 {a b p n : Int} {ok : Bool} (h : a = p ∧ b = n) : Ok3 p n (.returned (.tuple #[.int .i64 a, .int .i64 b, .bool ok])) := ⟨ok, by rw [h.1, h.2]⟩
theorem enc_two {q : Int} (h0 : 128 ≤ q) (h1 : q < 2048) : isPt q = true ∧ (strOfNums (Lib.encodeRuneZ q)).size = 2 := by
  refine ⟨(isPt_iff q).2 (by omega), ?_⟩
  rw [strOfNums_size, Lib.encodeRuneZ_two h0 (by omega)]; rfl
theorem enc_size (q : Int) (h : isPt q = true) : (strOfNums (Lib.encodeRuneZ q)).size = if q < 128 then 1 else if q < 2048 then 2 else if q < 65536 then 3 else 4 := by
  have hp := (isPt_iff q).1 h
  rw [strOfNums_size]
  by_cases h1 : q < 128
  · rw [if_pos h1, Lib.encodeRuneZ_one hp.1 (by omega)]; rfl
  rw [if_neg h1]
  by_cases h2 : q < 2048
  · rw [if_pos h2, Lib.encodeRuneZ_two (by omega) (by omega)]; rfl
  rw [if_neg h2]
  by_cases h3 : q < 65536
  · rw [if_pos h3, Lib.encodeRuneZ_three (by omega)]; rfl
  rw [if_neg h3, Lib.encodeRuneZ_four (by omega) (by omega)]; rfl
theorem stop_two {s : ByteArray} {pos k : Nat} (hk : k < 1) (h0 : 194 ≤ bt s pos) (h1 : bt s pos < 224) (t : bt s (pos + (k + 1)) < 128 ∨ 191 < bt s (pos + (k + 1))) :
    dec s.size pos (bt s pos) (bt s (pos + 1)) (bt s (pos + 2)) (bt s (pos + 3)) = (65533, 1) := by
  match k, hk, t with
  | 0, _, t =>
    have t' : bt s (pos + 1) < 128 ∨ 191 < bt s (pos + 1) := t
    exact dec_bad (bt_lt _ _) (by omega)
theorem stop_three {s : ByteArray} {pos k : Nat} (hk : k < 2) (h0 : 224 ≤ bt s pos) (h1 : bt s pos < 240) (t : bt s (pos + (k + 1)) < 128 ∨ 191 < bt s (pos + (k + 1))) :
    dec s.size pos (bt s pos) (bt s (pos + 1)) (bt s (pos + 2)) (bt s (pos + 3)) = (65533, 1) := by
  match k, hk, t with
  | 0, _, t =>
    have t' : bt s (pos + 1) < 128 ∨ 191 < bt s (pos + 1) := t
    exact dec_bad (bt_lt _ _) (by omega)
  | 1, _, t =>
    have t' : bt s (pos + 2) < 128 ∨ 191 < bt s (pos + 2) := t
    exact dec_bad (bt_lt _ _) (by omega)
theorem stop_four {s : ByteArray} {pos k : Nat} (hk : k < 3) (h0 : 240 ≤ bt s pos) (h1 : bt s pos < 245) (t : bt s (pos + (k + 1)) < 128 ∨ 191 < bt s (pos + (k + 1))) :
    dec s.size pos (bt s pos) (bt s (pos + 1)) (bt s (pos + 2)) (bt s (pos + 3)) = (65533, 1) := by
  match k, hk, t with
  | 0, _, t =>
    have t' : bt s (pos + 1) < 128 ∨ 191 < bt s (pos + 1) := t
    exact dec_bad (bt_lt _ _) (by omega)
  | 1, _, t =>
    have t' : bt s (pos + 2) < 128 ∨ 191 < bt s (pos + 2) := t
    exact dec_bad (bt_lt _ _) (by omega)
  | 2, _, t =>
    have t' : bt s (pos + 3) < 128 ∨ 191 < bt s (pos + 3) := t
    exact dec_bad (bt_lt _ _) (by omega)
theorem end_two {s : ByteArray} {pos q : Nat} (h0 : 194 ≤ bt s pos) (h1 : bt s pos < 224) (hsz : pos + 1 < s.size) (hg : Goes s pos 1) (hq : q = acc s pos 32 1) :
    ((q : Int) = (dP s pos : Int) ∧ ((2 : Nat) : Int) = (dN s pos : Int)) ∧ 128 ≤ q ∧ q < 2048 := by
  have z1 := hg 1 (by omega) (by omega)
  have ha : acc s pos 32 1 = bt s pos % 32 * 64 + bt s (pos + 1) % 64 := rfl
  have hd : dec s.size pos (bt s pos) (bt s (pos + 1)) (bt s (pos + 2)) (bt s (pos + 3)) = _ := dec_two h0 h1 hsz z1.1 z1.2
  rw [ha] at hq
  rw [← hq] at hd
  exact ⟨read_of hd, by omega, by omega⟩
theorem end_three {s : ByteArray} {pos q : Nat} (h0 : 224 ≤ bt s pos) (h1 : bt s pos < 240) (hsz : pos + 2 < s.size) (hg : Goes s pos 2) (hq : q = acc s pos 16 2) :
    q ≤ 65535 ∧ ((2048 ≤ q ∧ ¬ (55296 ≤ q ∧ q ≤ 57343)) → ((q : Int) = (dP s pos : Int) ∧ ((3 : Nat) : Int) = (dN s pos : Int))) ∧
      (¬ (2048 ≤ q ∧ ¬ (55296 ≤ q ∧ q ≤ 57343)) → ((65533 : Int) = (dP s pos : Int) ∧ (1 : Int) = (dN s pos : Int))) := by
  have z1 := hg 1 (by omega) (by omega)
  have z2 := hg 2 (by omega) (by omega)
  have ha : acc s pos 16 2 = (bt s pos % 16 * 64 + bt s (pos + 1) % 64) * 64 + bt s (pos + 2) % 64 := rfl
  have hd : dec s.size pos (bt s pos) (bt s (pos + 1)) (bt s (pos + 2)) (bt s (pos + 3)) = _ := dec_three h0 h1 hsz z1.1 z1.2 z2.1 z2.2
  have e : q = bt s pos % 16 * 4096 + bt s (pos + 1) % 64 * 64 + bt s (pos + 2) % 64 := by rw [hq, ha]; omega
  rw [← e] at hd
  refine ⟨by omega, fun ok => read_of (by rw [hd, if_pos ok]), fun ok => broken_of (by rw [hd, if_neg ok])⟩
theorem end_four {s : ByteArray} {pos q : Nat} (h0 : 240 ≤ bt s pos) (h1 : bt s pos < 245) (hsz : pos + 3 < s.size) (hg : Goes s pos 3) (hq : q = acc s pos 8 3) :
    q ≤ 2097151 ∧ ((65536 ≤ q ∧ q ≤ 1114111) → ((q : Int) = (dP s pos : Int) ∧ ((4 : Nat) : Int) = (dN s pos : Int))) ∧
      (¬ (65536 ≤ q ∧ q ≤ 1114111) → ((65533 : Int) = (dP s pos : Int) ∧ (1 : Int) = (dN s pos : Int))) := by
  have z1 := hg 1 (by omega) (by omega)
  have z2 := hg 2 (by omega) (by omega)
  have z3 := hg 3 (by omega) (by omega)
  have ha : acc s pos 8 3 = ((bt s pos % 8 * 64 + bt s (pos + 1) % 64) * 64 + bt s (pos + 2) % 64) * 64 + bt s (pos + 3) % 64 := rfl
  have hd : dec s.size pos (bt s pos) (bt s (pos + 1)) (bt s (pos + 2)) (bt s (pos + 3)) = _ := dec_four h0 h1 hsz z1.1 z1.2 z2.1 z2.2 z3.1 z3.2
  have e : q = bt s pos % 8 * 262144 + bt s (pos + 1) % 64 * 4096 + bt s (pos + 2) % 64 * 64 + bt s (pos + 3) % 64 := by rw [hq, ha]; omega
  rw [← e] at hd
  refine ⟨by omega, fun ok => read_of (by rw [hd, if_pos ok]), fun ok => broken_of (by rw [hd, if_neg ok])⟩
theorem not3 {q : Nat} (hpt : isPt (q : Int) = true) (h : ¬ (2048 ≤ q ∧ ¬ (55296 ≤ q ∧ q ≤ 57343))) : (((strOfNums (Lib.encodeRuneZ (q : Int))).size : Int) != 3) = true := by
  have hpb := (isPt_iff _).1 hpt
  rw [enc_size _ hpt, bne_iff_ne]
  repeat' split
  all_goals omega
theorem not4 {q : Nat} (hpt : isPt (q : Int) = true) (h : ¬ (65536 ≤ q ∧ q ≤ 1114111)) : (((strOfNums (Lib.encodeRuneZ (q : Int))).size : Int) != 4) = true := by
  have hpb := (isPt_iff _).1 hpt
  rw [enc_size _ hpt, bne_iff_ne]
  repeat' split
  all_goals omega
theorem yes3 {q : Nat} (h : q ≤ 65535) (ok : 2048 ≤ q ∧ ¬ (55296 ≤ q ∧ q ≤ 57343)) : isPt (q : Int) = true ∧ (((strOfNums (Lib.encodeRuneZ (q : Int))).size : Int) != 3) = false := by
  have hpt : isPt (q : Int) = true := (isPt_iff _).2 (by omega)
  refine ⟨hpt, ?_⟩
  rw [enc_size _ hpt, if_neg (by omega), if_neg (by omega), if_pos (by omega)]; rfl
theorem yes4 {q : Nat} (ok : 65536 ≤ q ∧ q ≤ 1114111) : isPt (q : Int) = true ∧ (((strOfNums (Lib.encodeRuneZ (q : Int))).size : Int) != 4) = false := by
  have hpt : isPt (q : Int) = true := (isPt_iff _).2 (by omega)
  refine ⟨hpt, ?_⟩
  rw [enc_size _ hpt, if_neg (by omega), if_neg (by omega), if_neg (by omega)]; rfl
theorem yes2 {q : Nat} (h0 : 128 ≤ q) (h1 : q < 2048) : isPt (q : Int) = true ∧ (((strOfNums (Lib.encodeRuneZ (q : Int))).size : Int) != 2) = false := by
  have hpt : isPt (q : Int) = true := (isPt_iff _).2 (by omega)
  refine ⟨hpt, ?_⟩
  rw [enc_size _ hpt, if_neg (by omega), if_pos (by omega)]; rfl
set_option maxHeartbeats 1000000 in
set_option maxRecDepth 100000 in
theorem next_one (s : ByteArray) (pos : Nat) (w : World) (hp : pos < s.size) (hb : bt s pos < 128) :
    Calls Tryz.prog 42 #[.string s, .int .i64 pos] w fun e w' => Ok3 (dP s pos) (dN s pos) e ∧ Below w.heap.size w w' := by
  have f0 := wrap_bt s pos
  have b0 : (bt s pos : Int) < 128 := by omega
  have HR := hide (read_of (dec_one (size := s.size) (pos := pos) (b1 := bt s (pos + 1)) (b2 := bt s (pos + 2)) (b3 := bt s (pos + 3)) hb))
  go_enter Tryz.func42, Tryz.ntmps42
  go_wp2
  go_ret3
  exact ⟨ok3 ⟨(f0 hp).trans (unhide HR).1, (unhide HR).2⟩, Below.refl _ _⟩
set_option maxHeartbeats 1000000 in
set_option maxRecDepth 100000 in
theorem next_bad (s : ByteArray) (pos : Nat) (w : World) (hp : pos < s.size) (hb : (128 ≤ bt s pos ∧ bt s pos < 194) ∨ 245 ≤ bt s pos) :
    Calls Tryz.prog 42 #[.string s, .int .i64 pos] w fun e w' => Ok3 (dP s pos) (dN s pos) e ∧ Below w.heap.size w w' := by
  have f0 := wrap_bt s pos
  have HR := hide (broken_of (s := s) (pos := pos) (dec_bad (bt_lt _ _) (by omega)))
  rcases hb with ⟨h1, h2⟩ | h1
  · have b0 : (128 : Int) ≤ (bt s pos : Int) := by omega
    have b1 : (bt s pos : Int) < 194 := by omega
    have b2 : (bt s pos : Int) < 224 := by omega
    have b3 : (bt s pos : Int) < 240 := by omega
    clear h1 h2
    go_enter Tryz.func42, Tryz.ntmps42
    go_wp2
    go_ret3
    exact ⟨ok3 (unhide HR), Below.refl _ _⟩
  · have b0 : (245 : Int) ≤ (bt s pos : Int) := by omega
    have b1 : (240 : Int) ≤ (bt s pos : Int) := by omega
    have b2 : (224 : Int) ≤ (bt s pos : Int) := by omega
    have b3 : (194 : Int) ≤ (bt s pos : Int) := by omega
    have b4 : (128 : Int) ≤ (bt s pos : Int) := by omega
    clear h1
    go_enter Tryz.func42, Tryz.ntmps42
    go_wp2
    go_ret3
    exact ⟨ok3 (unhide HR), Below.refl _ _⟩
set_option maxHeartbeats 1000000 in
set_option maxRecDepth 100000 in
theorem next_two (s : ByteArray) (pos : Nat) (w : World) (hp : pos < s.size) (hs : s.size ≤ 1048576) (h0 : 194 ≤ bt s pos) (h1 : bt s pos < 224) :
    Calls Tryz.prog 42 #[.string s, .int .i64 pos] w fun e w' => Ok3 (dP s pos) (dN s pos) e ∧ Below w.heap.size w w' := by
  have f0 := wrap_bt s pos
  have g0 : (194 : Int) ≤ (bt s pos : Int) := by omega
  have g1 : (bt s pos : Int) < 224 := by omega
  have g2 : (128 : Int) ≤ (bt s pos : Int) := by omega
  have H0 := hide h0
  have H1 := hide h1
  clear h0 h1
  by_cases hsz : pos + 1 < s.size
  · go_enter Tryz.func42, Tryz.ntmps42
    go_wp2
    go_loop [9, 10] (fun p i => ∃ k q : Nat, k ≤ 1 ∧ i = .int .i64 (k + 1) ∧ p = .int .i64 q ∧ q ≤ 8388607 ∧ Hid (q = acc s pos 32 k) ∧ Hid (Goes s pos k)) (fun _ i => 2 - (intOf i).toNat)
    case atStart => exact ⟨0, bt s pos % 32, by omega, by go_num, by go_num, by omega, hide rfl, hide (fun j hj1 hj2 => by omega)⟩
    case round =>
      obtain ⟨k, q, hk, rfl, rfl, hq, HQ, HG⟩ := hrel
      clear f0
      by_cases hlt : k < 1
      · have f1 := wrap_bt s (pos + (k + 1))
        have hbt := bt_lt s (pos + (k + 1))
        by_cases t1 : bt s (pos + (k + 1)) < 128
        · have HR := hide (broken_of (stop_two hlt (unhide H0) (unhide H1) (.inl t1)))
          have t1' : (bt s (pos + (k + 1)) : Int) < 128 := by omega
          clear t1
          go_wp2
          go_ret3
          exact ⟨ok3 (unhide HR), Below.refl _ _⟩
        · by_cases t2 : 191 < bt s (pos + (k + 1))
          · have HR := hide (broken_of (stop_two hlt (unhide H0) (unhide H1) (.inr t2)))
            have t1' : (128 : Int) ≤ (bt s (pos + (k + 1)) : Int) := by omega
            have t2' : (191 : Int) < (bt s (pos + (k + 1)) : Int) := by omega
            clear t1 t2
            go_wp2
            go_ret3
            exact ⟨ok3 (unhide HR), Below.refl _ _⟩
          · have HG' := hide ((unhide HG).succ (by omega) (by omega))
            have HQ' : Hid (q * 64 + bt s (pos + (k + 1)) % 64 = acc s pos 32 (k + 1)) := hide (by rw [unhide HQ]; rfl)
            have hbd := acc_bd s pos 32 (k + 1) (by omega) (by omega) (by omega)
            rw [← unhide HQ'] at hbd
            have t1' : (128 : Int) ≤ (bt s (pos + (k + 1)) : Int) := by omega
            have t2' : (bt s (pos + (k + 1)) : Int) ≤ 191 := by omega
            clear t1 t2 HQ HG
            go_wp2
            go_round
            case rel => exact ⟨k + 1, q * 64 + bt s (pos + (k + 1)) % 64, by omega, by go_num, by go_num, hbd, HQ', HG'⟩
            case measure => simp [intOf]; omega
      · obtain rfl : k = 1 := by omega
        have he := end_two (unhide H0) (unhide H1) hsz (unhide HG) (unhide HQ)
        obtain ⟨hpt, hs2⟩ := yes2 he.2.1 he.2.2
        have HR := hide he.1
        clear he HQ HG
        go_wp2_with (first | (go_at_call 52; refine (isPointS (q : Int) _).mono ?_; rintro e w1 ⟨rfl, rfl⟩) | (go_at_call 30; refine (write_any (q : Int) _).mono ?_; rintro e w2 ⟨rfl, hb2⟩))
        go_ret3
        exact ⟨ok3 (unhide HR), hb2⟩
  · have HR := hide (broken_of (s := s) (pos := pos) (dec_bad (bt_lt _ _) (by have := unhide H0; have := unhide H1; omega)))
    have hsz' : (s.size : Int) ≤ (pos : Int) + 1 := by omega
    go_enter Tryz.func42, Tryz.ntmps42
    go_wp2
    go_ret3
    exact ⟨ok3 (unhide HR), Below.refl _ _⟩
set_option maxHeartbeats 1000000 in
set_option maxRecDepth 100000 in
theorem next_three (s : ByteArray) (pos : Nat) (w : World) (hp : pos < s.size) (hs : s.size ≤ 1048576) (h0 : 224 ≤ bt s pos) (h1 : bt s pos < 240) :
    Calls Tryz.prog 42 #[.string s, .int .i64 pos] w fun e w' => Ok3 (dP s pos) (dN s pos) e ∧ Below w.heap.size w w' := by
  have f0 := wrap_bt s pos
  have g0 : (224 : Int) ≤ (bt s pos : Int) := by omega
  have g1 : (bt s pos : Int) < 240 := by omega
  have g2 : (128 : Int) ≤ (bt s pos : Int) := by omega
  have g3 : (194 : Int) ≤ (bt s pos : Int) := by omega
  have H0 := hide h0
  have H1 := hide h1
  clear h0 h1
  by_cases hsz : pos + 2 < s.size
  · go_enter Tryz.func42, Tryz.ntmps42
    go_wp2
    go_loop [9, 10] (fun p i => ∃ k q : Nat, k ≤ 2 ∧ i = .int .i64 (k + 1) ∧ p = .int .i64 q ∧ q ≤ 8388607 ∧ Hid (q = acc s pos 16 k) ∧ Hid (Goes s pos k)) (fun _ i => 3 - (intOf i).toNat)
    case atStart => exact ⟨0, bt s pos % 16, by omega, by go_num, by go_num, by omega, hide rfl, hide (fun j hj1 hj2 => by omega)⟩
    case round =>
      obtain ⟨k, q, hk, rfl, rfl, hq, HQ, HG⟩ := hrel
      clear f0
      by_cases hlt : k < 2
      · have f1 := wrap_bt s (pos + (k + 1))
        have hbt := bt_lt s (pos + (k + 1))
        by_cases t1 : bt s (pos + (k + 1)) < 128
        · have HR := hide (broken_of (stop_three hlt (unhide H0) (unhide H1) (.inl t1)))
          have t1' : (bt s (pos + (k + 1)) : Int) < 128 := by omega
          clear t1
          go_wp2
          go_ret3
          exact ⟨ok3 (unhide HR), Below.refl _ _⟩
        · by_cases t2 : 191 < bt s (pos + (k + 1))
          · have HR := hide (broken_of (stop_three hlt (unhide H0) (unhide H1) (.inr t2)))
            have t1' : (128 : Int) ≤ (bt s (pos + (k + 1)) : Int) := by omega
            have t2' : (191 : Int) < (bt s (pos + (k + 1)) : Int) := by omega
            clear t1 t2
            go_wp2
            go_ret3
            exact ⟨ok3 (unhide HR), Below.refl _ _⟩
          · have HG' := hide ((unhide HG).succ (by omega) (by omega))
            have HQ' : Hid (q * 64 + bt s (pos + (k + 1)) % 64 = acc s pos 16 (k + 1)) := hide (by rw [unhide HQ]; rfl)
            have hbd := acc_bd s pos 16 (k + 1) (by omega) (by omega) (by omega)
            rw [← unhide HQ'] at hbd
            have t1' : (128 : Int) ≤ (bt s (pos + (k + 1)) : Int) := by omega
            have t2' : (bt s (pos + (k + 1)) : Int) ≤ 191 := by omega
            clear t1 t2 HQ HG
            go_wp2
            go_round
            case rel => exact ⟨k + 1, q * 64 + bt s (pos + (k + 1)) % 64, by omega, by go_num, by go_num, hbd, HQ', HG'⟩
            case measure => simp [intOf]; omega
      · obtain rfl : k = 2 := by omega
        have he := end_three (unhide H0) (unhide H1) hsz (unhide HG) (unhide HQ)
        by_cases ok : 2048 ≤ q ∧ ¬ (55296 ≤ q ∧ q ≤ 57343)
        · obtain ⟨hpt, hs2⟩ := yes3 he.1 ok
          have HR := hide (he.2.1 ok)
          clear he HQ HG ok
          go_wp2_with (first | (go_at_call 52; refine (isPointS (q : Int) _).mono ?_; rintro e w1 ⟨rfl, rfl⟩) | (go_at_call 30; refine (write_any (q : Int) _).mono ?_; rintro e w2 ⟨rfl, hb2⟩))
          go_ret3
          exact ⟨ok3 (unhide HR), hb2⟩
        · have HR := hide (he.2.2 ok)
          cases hpt : isPt (q : Int)
          · clear he HQ HG ok
            go_wp2_with (first | (go_at_call 52; refine (isPointS (q : Int) _).mono ?_; rintro e w1 ⟨rfl, rfl⟩) | (go_at_call 30; refine (write_any (q : Int) _).mono ?_; rintro e w2 ⟨rfl, hb2⟩))
            go_ret3
            exact ⟨ok3 (unhide HR), Below.refl _ _⟩
          · have hs2 := not3 hpt ok
            clear he HQ HG ok
            go_wp2_with (first | (go_at_call 52; refine (isPointS (q : Int) _).mono ?_; rintro e w1 ⟨rfl, rfl⟩) | (go_at_call 30; refine (write_any (q : Int) _).mono ?_; rintro e w2 ⟨rfl, hb2⟩))
            go_ret3
            exact ⟨ok3 (unhide HR), hb2⟩
  · have HR := hide (broken_of (s := s) (pos := pos) (dec_bad (bt_lt _ _) (by have := unhide H0; have := unhide H1; omega)))
    have hsz' : (s.size : Int) ≤ (pos : Int) + 2 := by omega
    go_enter Tryz.func42, Tryz.ntmps42
    go_wp2
    go_ret3
    exact ⟨ok3 (unhide HR), Below.refl _ _⟩
set_option maxHeartbeats 1000000 in
set_option maxRecDepth 100000 in
theorem next_four (s : ByteArray) (pos : Nat) (w : World) (hp : pos < s.size) (hs : s.size ≤ 1048576) (h0 : 240 ≤ bt s pos) (h1 : bt s pos < 245) :
    Calls Tryz.prog 42 #[.string s, .int .i64 pos] w fun e w' => Ok3 (dP s pos) (dN s pos) e ∧ Below w.heap.size w w' := by
  have f0 := wrap_bt s pos
  have g0 : (240 : Int) ≤ (bt s pos : Int) := by omega
  have g1 : (bt s pos : Int) < 245 := by omega
  have g2 : (128 : Int) ≤ (bt s pos : Int) := by omega
  have g3 : (194 : Int) ≤ (bt s pos : Int) := by omega
  have g4 : (224 : Int) ≤ (bt s pos : Int) := by omega
  have H0 := hide h0
  have H1 := hide h1
  clear h0 h1
  by_cases hsz : pos + 3 < s.size
  · go_enter Tryz.func42, Tryz.ntmps42
    go_wp2
    go_loop [9, 10] (fun p i => ∃ k q : Nat, k ≤ 3 ∧ i = .int .i64 (k + 1) ∧ p = .int .i64 q ∧ q ≤ 8388607 ∧ Hid (q = acc s pos 8 k) ∧ Hid (Goes s pos k)) (fun _ i => 4 - (intOf i).toNat)
    case atStart => exact ⟨0, bt s pos % 8, by omega, by go_num, by go_num, by omega, hide rfl, hide (fun j hj1 hj2 => by omega)⟩
    case round =>
      obtain ⟨k, q, hk, rfl, rfl, hq, HQ, HG⟩ := hrel
      clear f0
      by_cases hlt : k < 3
      · have f1 := wrap_bt s (pos + (k + 1))
        have hbt := bt_lt s (pos + (k + 1))
        by_cases t1 : bt s (pos + (k + 1)) < 128
        · have HR := hide (broken_of (stop_four hlt (unhide H0) (unhide H1) (.inl t1)))
          have t1' : (bt s (pos + (k + 1)) : Int) < 128 := by omega
          clear t1
          go_wp2
          go_ret3
          exact ⟨ok3 (unhide HR), Below.refl _ _⟩
        · by_cases t2 : 191 < bt s (pos + (k + 1))
          · have HR := hide (broken_of (stop_four hlt (unhide H0) (unhide H1) (.inr t2)))
            have t1' : (128 : Int) ≤ (bt s (pos + (k + 1)) : Int) := by omega
            have t2' : (191 : Int) < (bt s (pos + (k + 1)) : Int) := by omega
            clear t1 t2
            go_wp2
            go_ret3
            exact ⟨ok3 (unhide HR), Below.refl _ _⟩
          · have HG' := hide ((unhide HG).succ (by omega) (by omega))
            have HQ' : Hid (q * 64 + bt s (pos + (k + 1)) % 64 = acc s pos 8 (k + 1)) := hide (by rw [unhide HQ]; rfl)
            have hbd := acc_bd s pos 8 (k + 1) (by omega) (by omega) (by omega)
            rw [← unhide HQ'] at hbd
            have t1' : (128 : Int) ≤ (bt s (pos + (k + 1)) : Int) := by omega
            have t2' : (bt s (pos + (k + 1)) : Int) ≤ 191 := by omega
            clear t1 t2 HQ HG
            go_wp2
            go_round
            case rel => exact ⟨k + 1, q * 64 + bt s (pos + (k + 1)) % 64, by omega, by go_num, by go_num, hbd, HQ', HG'⟩
            case measure => simp [intOf]; omega
      · obtain rfl : k = 3 := by omega
        have he := end_four (unhide H0) (unhide H1) hsz (unhide HG) (unhide HQ)
        by_cases ok : 65536 ≤ q ∧ q ≤ 1114111
        · obtain ⟨hpt, hs2⟩ := yes4 ok
          have HR := hide (he.2.1 ok)
          clear he HQ HG ok
          go_wp2_with (first | (go_at_call 52; refine (isPointS (q : Int) _).mono ?_; rintro e w1 ⟨rfl, rfl⟩) | (go_at_call 30; refine (write_any (q : Int) _).mono ?_; rintro e w2 ⟨rfl, hb2⟩))
          go_ret3
          exact ⟨ok3 (unhide HR), hb2⟩
        · have HR := hide (he.2.2 ok)
          cases hpt : isPt (q : Int)
          · clear he HQ HG ok
            go_wp2_with (first | (go_at_call 52; refine (isPointS (q : Int) _).mono ?_; rintro e w1 ⟨rfl, rfl⟩) | (go_at_call 30; refine (write_any (q : Int) _).mono ?_; rintro e w2 ⟨rfl, hb2⟩))
            go_ret3
            exact ⟨ok3 (unhide HR), Below.refl _ _⟩
          · have hs2 := not4 hpt ok
            clear he HQ HG ok
            go_wp2_with (first | (go_at_call 52; refine (isPointS (q : Int) _).mono ?_; rintro e w1 ⟨rfl, rfl⟩) | (go_at_call 30; refine (write_any (q : Int) _).mono ?_; rintro e w2 ⟨rfl, hb2⟩))
            go_ret3
            exact ⟨ok3 (unhide HR), hb2⟩
  · have HR := hide (broken_of (s := s) (pos := pos) (dec_bad (bt_lt _ _) (by have := unhide H0; have := unhide H1; omega)))
    have hsz' : (s.size : Int) ≤ (pos : Int) + 3 := by omega
    go_enter Tryz.func42, Tryz.ntmps42
    go_wp2
    go_ret3
    exact ⟨ok3 (unhide HR), Below.refl _ _⟩
theorem next_any (s : ByteArray) (pos : Nat) (w : World) (hp : pos < s.size) (hs : s.size ≤ 1048576) :
    Calls Tryz.prog 42 #[.string s, .int .i64 pos] w fun e w' => Ok3 (dP s pos) (dN s pos) e ∧ Below w.heap.size w w' := by
  by_cases h1 : bt s pos < 128
  · exact next_one s pos w hp h1
  by_cases h2 : bt s pos < 194 ∨ 245 ≤ bt s pos
  · exact next_bad s pos w hp (by omega)
  by_cases h3 : bt s pos < 224
  · exact next_two s pos w hp hs (by omega) h3
  by_cases h4 : bt s pos < 240
  · exact next_three s pos w hp hs (by omega) h4
  exact next_four s pos w hp hs (by omega) (by omega)
end Go.Proofs.YtbaedapnikhdgaaGreatDoor
/- PointsOf of the program and of the specification answer with the points that the model's own reading gives. -/
namespace Go.Proofs.YtbaedapnikhdgaaGreatDoor
open Go.RowKit
theorem owned_alloc {w : World} {base : Nat} {e : TypeId} {v : Value} {n : Nat} {xs : List Value} (h : w.ownsRow base e 1 v n xs) (o : Obj) : (w.alloc o).ownsRow base e 1 v n xs :=
  ownsRow_below h ((Below.refl _ _).alloc (Nat.le_refl _) o)
/-- One round: the point that was read is behind the others. -/
theorem pts_step {s : ByteArray} {n pos : Nat} {L : List Int} (h : steps s n = (L, pos)) (hp : pos < s.size) : steps s (n + 1) = (L ++ [(dP s pos : Int)], pos + dN s pos) := by
  have := steps_next s n (by rw [h]; exact hp)
  rw [h] at this
  exact this
theorem row_step {w wr w1 w2 : World} {base : Nat} {v v' : Value} {L : List Int} {p : Int} {o : Obj} (hb : Below base w wr) (hb1 : Below base wr w1) (hB : base ≤ w1.heap.size)
    (ho : w1.ownsRow base 2 1 v L.length (L.map (Value.int .i64)))
    (ho2 : w2.ownsRow base 2 1 v' (L.length + 1) (L.map (Value.int .i64) ++ [.int .i64 p])) (hg : (w1.alloc o).grownBy w2 v.ownBlock) :
    w2.ownsRow base 2 1 v' (L ++ [p]).length ((L ++ [p]).map (Value.int .i64)) ∧ Below base w w2 := by
  refine ⟨?_, ((hb.trans hb1).alloc hB o).grown hg (by simp; omega) (fun j hj => (ho.lt j hj).1)⟩
  rw [List.length_append, List.map_append]
  exact ho2
set_option maxHeartbeats 1000000 in
theorem l01Points (s : ByteArray) (w : World) (hs : s.size ≤ 131072) :
    Calls Tryz.prog 24 #[.string s] w fun e w' => ∃ v, e = .returned v ∧ w'.ownsRow w.heap.size 2 1 v (pts s).length ((pts s).map (Value.int .i64)) ∧ Below w.heap.size w w' := by
  obtain ⟨i0, hi, hz0, hz1, hz2⟩ := info_parts info2
  have HO0 : Hid ((w.alloc (.cells #[] 2)).ownsRow w.heap.size 2 1 (.slice (some ⟨w.heap.size, 0, none⟩) 0 0) ([] : List Int).length (([] : List Int).map (Value.int .i64))) := hide (World.ownsRow_lit w #[] 0 (Nat.le_refl _) (by unfold maxLen; omega) rfl)
  have HB0 : Hid (Below w.heap.size w (w.alloc (.cells #[] 2))) := hide ((Below.refl _ _).alloc (Nat.le_refl _) _)
  go_enter Tryz.func24, Tryz.ntmps24
  go_wp2
  go_loopw [3, 4] (fun v i wr => ∃ (n : Nat) (L : List Int) (pos : Nat), Hid (steps s n = (L, pos)) ∧ i = .int .i64 pos ∧ pos ≤ s.size ∧ L.length ≤ pos ∧ Hid (wr.ownsRow w.heap.size 2 1 v L.length (L.map (Value.int .i64))) ∧ Hid (Below w.heap.size w wr)) (fun _ i _ => s.size - (intOf i).toNat)
  case atStart => exact ⟨0, [], 0, hide rfl, rfl, by omega, by simp, HO0, HB0⟩
  case round =>
    obtain ⟨n, L, pos, HS, rfl, hpos, hL, HO, HB⟩ := hrel
    clear HO0 HB0
    by_cases hlt : pos < s.size
    · have hbd := dN_bd s pos hlt
      have d1 := hbd.1
      have d2 := hbd.2.1
      have hBs := (unhide HB).size
      have HS' := hide (pts_step (unhide HS) hlt)
      clear hbd
      go_wp2_with (first | (go_at_call 42; refine (next_any s pos _ hlt (by omega)).mono ?_; rintro e w1 ⟨⟨ok, rfl⟩, hb1⟩; have hb1s := hb1.size; have HB1 := hide hb1; clear hb1; have HO1 := hide (ownsRow_below (unhide HO) (unhide HB1))) | (at_builtin; refine wpList_append_own _ rfl _ _ 26 rfl w.heap.size 2 i0 (.int .i64 0) 1 8 Tryz.underlying26 hi hz0 hz1 hz2 rfl (by decide) _ _ _ rfl (owned_alloc (unhide HO1) _) ⟨w1.heap.size, 0, none⟩ 1 1 [.int .i64 (dP s pos)] rfl rfl ?c1 ?c2 ?c3 ?c4 ?c5 ?_))
      case c1 => exact cell_one_new _ _ _
      case c2 => intro u hu; simp at hu; subst hu; rfl
      case c3 => unfold maxLen; omega
      case c4 => omega
      case c5 => simp; omega
      intro v' w2 hown' hgrow _
      have R := hide (row_step (unhide HB) ((unhide HB1).mono hBs) (by omega) (unhide HO1) hown' hgrow)
      clear hown' hgrow
      go_wp2
      go_roundw
      case rel => exact ⟨n + 1, L ++ [(dP s pos : Int)], pos + dN s pos, HS', by go_num, by omega, by simp; omega, hide (unhide R).1, hide (unhide R).2⟩
      case measure => simp [intOf]; omega
    · go_wp2
      go_ret
      have e := steps_pts s n (by rw [unhide HS]; show s.size ≤ pos; omega)
      rw [unhide HS] at e
      have e' : L = pts s := e
      exact ⟨_, rfl, by rw [← e']; exact unhide HO, unhide HB⟩
/-- The points of a text: none where it is too long. -/
def ptsOut (s : ByteArray) : List Int := if 65536 < s.size then [] else pts s
theorem pts_le (s : ByteArray) : (pts s).length ≤ s.size := by have := steps_le s s.size; unfold pts; omega
theorem ptsOut_le (s : ByteArray) : (ptsOut s).length ≤ 65536 := by
  unfold ptsOut
  split
  · simp
  · have := pts_le s; omega
theorem specPointsOf (s : ByteArray) (w : World) (hs : s.size ≤ 1048576) :
    Calls Tryz.prog 7 #[.string s] w fun e w' => ∃ v, e = .returned v ∧ w'.ownsRow w.heap.size 2 1 v (ptsOut s).length ((ptsOut s).map (Value.int .i64)) ∧ Below w.heap.size w w' := by
  by_cases hb : 65536 < s.size
  · go_enter Tryz.func7, Tryz.ntmps7
    go_wp2
    go_ret
    refine ⟨_, rfl, ?_, (Below.refl _ _).alloc (Nat.le_refl _) _⟩
    have e : ptsOut s = [] := by unfold ptsOut; rw [if_pos hb]
    rw [e]
    exact World.ownsRow_lit w #[] 0 (Nat.le_refl _) (by unfold maxLen; omega) rfl
  · have e : ptsOut s = pts s := by unfold ptsOut; rw [if_neg hb]
    rw [e]
    clear e
    go_enter Tryz.func7, Tryz.ntmps7
    go_wp2_with (go_at_call 24; refine (l01Points s _ (by omega)).mono ?_; rintro e w1 ⟨v, rfl, ho, hb1⟩)
    go_ret
    exact ⟨_, rfl, ho, hb1⟩
end Go.Proofs.YtbaedapnikhdgaaGreatDoor
/- PointsOf of the program, and the law. -/
namespace Go.Proofs.YtbaedapnikhdgaaGreatDoor
open Go.RowKit
theorem owned_iterAt {w : World} {base K pos : Nat} {e : TypeId} {v : Value} {n : Nat} {xs : List Value} {s : ByteArray} (h : w.ownsRow base e 1 v n xs) (hk : w.heap[K]? = some (.stringIter s pos)) (pos' : Nat) : (w.iterAt K s pos').ownsRow base e 1 v n xs := by
  refine ⟨h.1, ?_⟩
  rcases h.2 with h' | ⟨g, cap, cur, hv, hg, hh, r⟩
  · exact .inl h'
  · have hne : g ≠ K := by intro e; rw [e, hk] at hh; cases hh
    exact .inr ⟨g, cap, cur, hv, hg, (Lib.iterAt_other w K g s pos' hne).trans hh, r⟩
/-- The iterator behind an append to a row of the call's own. -/
theorem iter_grown {w w2 : World} {base K pos : Nat} {e : TypeId} {v : Value} {n : Nat} {xs : List Value} {s : ByteArray} {o : Obj} (ho : w.ownsRow base e 1 v n xs) (hk : w.heap[K]? = some (.stringIter s pos)) (hg : (w.alloc o).grownBy w2 v.ownBlock) : w2.heap[K]? = some (.stringIter s pos) := by
  have hlt : K < w.heap.size := (Array.getElem?_eq_some_iff.1 hk).1
  have hne : some K ≠ v.ownBlock := by
    intro e
    rcases ho.2 with ⟨rfl, _⟩ | ⟨g, cap, cur, rfl, hg, hh, r⟩
    · cases e
    · simp only [Value.ownBlock, Option.some.injEq] at e
      rw [← e, hk] at hh; cases hh
  rw [hg.block K (by simp; omega) hne, Below.heap_alloc w o K hlt]
  exact hk
end Go.Proofs.YtbaedapnikhdgaaGreatDoor
/- Marks written into a slice that the call owns, and found there again. -/
namespace Go.Proofs.YtbaedapnikhdgaaGreatDoor
open Go.RowKit
/-- c, c + 1, .. in the first k places of l. -/
def markL (l : List Int) (c : Int) (k : Nat) : List Int := (List.range k).map (fun i : Nat => c + (i : Int)) ++ l.drop k
theorem markL_zero (l : List Int) (c : Int) : markL l c 0 = l := by simp [markL]
theorem markL_length (l : List Int) (c : Int) (k : Nat) (h : k ≤ l.length) : (markL l c k).length = l.length := by simp [markL]; omega
theorem markL_set (l : List Int) (c : Int) (k : Nat) (h : k < l.length) (f : Int → Value) : ((markL l c k).map f).set k (f (c + k)) = (markL l c (k + 1)).map f := by
  rw [← List.map_set]
  congr 1
  unfold markL
  have hk : ((List.range k).map (fun i : Nat => c + (i : Int))).length = k := by simp
  rw [List.set_append_right _ _ (by omega), hk, Nat.sub_self, List.drop_eq_getElem_cons h, List.set_cons_zero, List.range_succ, List.map_append, List.append_assoc]
  rfl
theorem markL_all (l : List Int) (c : Int) : markL l c l.length = (List.range l.length).map (fun i : Nat => c + (i : Int)) := by simp [markL]
def seqL (c : Int) (n : Nat) : List Int := (List.range n).map (fun i : Nat => c + (i : Int))
theorem seqL_length (c : Int) (n : Nat) : (seqL c n).length = n := by simp [seqL]
theorem nth_seqL (c : Int) (n k : Nat) (h : k < n) : nth (seqL c n) k = c + k := by simp [nth, seqL, List.getD, h]
theorem owned_slice {w : World} {base : Nat} {e : TypeId} {v : Value} {n : Nat} {xs : List Value} (h : w.ownsRow base e 1 v n xs) (hn : 0 < n) : ∃ g cap, v = .slice (some ⟨g, 0, none⟩) n cap ∧ base ≤ g := by
  rcases h.2 with ⟨_, h0⟩ | ⟨g, cap, cur, hv, hg, _⟩
  · omega
  · exact ⟨g, cap, hv, hg⟩
theorem owned_nil {w : World} {base : Nat} {e : TypeId} {v : Value} {n : Nat} {xs : List Value} (h : w.ownsRow base e 1 v n xs) : ∃ a cap, v = .slice a n cap := by
  rcases h.2 with ⟨hv, h0⟩ | ⟨g, cap, cur, hv, hg, _⟩
  · subst h0; exact ⟨_, _, hv⟩
  · exact ⟨_, _, hv⟩
end Go.Proofs.YtbaedapnikhdgaaGreatDoor
/- The points of a text beside the marks of rows (imports alone). -/
namespace Go.Proofs.YtbaedapnikhdgaaGreatDoor
end Go.Proofs.YtbaedapnikhdgaaGreatDoor
