/- Texts of passes as they are read, in plain numbers: a text of a rule, a rule. -/
import Derived.Test.YtklakcnapdhcnaaDoorShwP
namespace Go.Proofs.YtklakcnapdhcnaaDoor.Pas
open Go.RowKit
set_option linter.unusedVariables false
def hid (b : Nat) : Nat := if b = 110 then 10 else b
def badB (b : Nat) : Bool := !(b == 110 || sgnB b)
/-- A text of a rule from place i on, as the program reads it: its bytes, the place behind it, whether something is wrong. -/
def txI (t : ByteArray) (i : Nat) : List Int × Nat × Bool :=
  if i < t.size then
    if bt t i = 92 then
      if i + 1 < t.size then
        let r := txI t (i + 2)
        ((hid (bt t (i + 1)) : Int) :: r.1, r.2.1, badB (bt t (i + 1)) || r.2.2)
      else ([0], t.size, true)
    else if sgnB (bt t i) = true then ([], i, false)
    else
      let r := txI t (i + 1)
      ((bt t i : Int) :: r.1, r.2.1, r.2.2)
  else ([], i, false)
/-- The same, as the specification reads it. -/
def txS (t : ByteArray) (i : Nat) : List Int × Nat × Bool :=
  if i < t.size then
    if bt t i = 92 ∧ i + 1 < t.size then
      if badB (bt t (i + 1)) = true then ([], i, true)
      else
        let r := txS t (i + 2)
        ((hid (bt t (i + 1)) : Int) :: r.1, r.2.1, r.2.2)
    else if sgnB (bt t i) = true ∨ bt t i = 10 then ([], i, false)
    else
      let r := txS t (i + 1)
      ((bt t i : Int) :: r.1, r.2.1, r.2.2)
  else ([], i, false)
section I
variable {t : ByteArray} {i : Nat}
theorem txI_end (h : ¬ i < t.size) : txI t i = ([], i, false) := by rw [txI, if_neg h]
theorem txI_last (h : i < t.size) (hb : bt t i = 92) (h1 : ¬ i + 1 < t.size) : txI t i = ([0], t.size, true) := by rw [txI, if_pos h, if_pos hb, if_neg h1]
theorem txI_hid (h : i < t.size) (hb : bt t i = 92) (h1 : i + 1 < t.size) : txI t i = ((hid (bt t (i + 1)) : Int) :: (txI t (i + 2)).1, (txI t (i + 2)).2.1, badB (bt t (i + 1)) || (txI t (i + 2)).2.2) := by rw [txI, if_pos h, if_pos hb, if_pos h1]
theorem txI_sgn (h : i < t.size) (hb : ¬ bt t i = 92) (h1 : sgnB (bt t i) = true) : txI t i = ([], i, false) := by rw [txI, if_pos h, if_neg hb, if_pos h1]
theorem txI_on (h : i < t.size) (hb : ¬ bt t i = 92) (h1 : ¬ sgnB (bt t i) = true) : txI t i = ((bt t i : Int) :: (txI t (i + 1)).1, (txI t (i + 1)).2.1, (txI t (i + 1)).2.2) := by rw [txI, if_pos h, if_neg hb, if_neg h1]
theorem txS_end (h : ¬ i < t.size) : txS t i = ([], i, false) := by rw [txS, if_neg h]
theorem txS_bad (h : i < t.size) (hb : bt t i = 92) (h1 : i + 1 < t.size) (h2 : badB (bt t (i + 1)) = true) : txS t i = ([], i, true) := by rw [txS, if_pos h, if_pos ⟨hb, h1⟩, if_pos h2]
theorem txS_hid (h : i < t.size) (hb : bt t i = 92) (h1 : i + 1 < t.size) (h2 : ¬ badB (bt t (i + 1)) = true) : txS t i = ((hid (bt t (i + 1)) : Int) :: (txS t (i + 2)).1, (txS t (i + 2)).2.1, (txS t (i + 2)).2.2) := by rw [txS, if_pos h, if_pos ⟨hb, h1⟩, if_neg h2]
theorem txS_sgn (h : i < t.size) (hb : ¬ (bt t i = 92 ∧ i + 1 < t.size)) (h1 : sgnB (bt t i) = true ∨ bt t i = 10) : txS t i = ([], i, false) := by rw [txS, if_pos h, if_neg hb, if_pos h1]
theorem txS_on (h : i < t.size) (hb : ¬ (bt t i = 92 ∧ i + 1 < t.size)) (h1 : ¬ (sgnB (bt t i) = true ∨ bt t i = 10)) : txS t i = ((bt t i : Int) :: (txS t (i + 1)).1, (txS t (i + 1)).2.1, (txS t (i + 1)).2.2) := by rw [txS, if_pos h, if_neg hb, if_neg h1]
end I
/-- What the places are: none goes back or beyond the end. -/
theorem txI_le (t : ByteArray) (n : Nat) : ∀ i, t.size - i ≤ n → i ≤ t.size → i ≤ (txI t i).2.1 ∧ (txI t i).2.1 ≤ t.size ∧ (txI t i).1.length ≤ (txI t i).2.1 - i := by
  induction n with
  | zero => intro i hn hi; rw [txI_end (by omega)]; simp; omega
  | succ n ih =>
    intro i hn hi
    by_cases h : i < t.size
    · by_cases hb : bt t i = 92
      · by_cases h1 : i + 1 < t.size
        · have := ih (i + 2) (by omega) (by omega)
          rw [txI_hid h hb h1]; simp only [List.length_cons]; omega
        · rw [txI_last h hb h1]; simp only [List.length_cons, List.length_nil]; omega
      · by_cases h1 : sgnB (bt t i) = true
        · rw [txI_sgn h hb h1]; simp only [List.length_nil]; omega
        · have := ih (i + 1) (by omega) (by omega)
          rw [txI_on h hb h1]; simp only [List.length_cons]; omega
    · rw [txI_end h]; simp only [List.length_nil]; omega
theorem txS_le (t : ByteArray) (n : Nat) : ∀ i, t.size - i ≤ n → i ≤ t.size → i ≤ (txS t i).2.1 ∧ (txS t i).2.1 ≤ t.size ∧ (txS t i).1.length ≤ (txS t i).2.1 - i := by
  induction n with
  | zero => intro i hn hi; rw [txS_end (by omega)]; simp; omega
  | succ n ih =>
    intro i hn hi
    by_cases h : i < t.size
    · by_cases hb : bt t i = 92 ∧ i + 1 < t.size
      · by_cases h2 : badB (bt t (i + 1)) = true
        · rw [txS_bad h hb.1 hb.2 h2]; simp only [List.length_nil]; omega
        · have := ih (i + 2) (by omega) (by omega)
          rw [txS_hid h hb.1 hb.2 h2]; simp only [List.length_cons]; omega
      · by_cases h1 : sgnB (bt t i) = true ∨ bt t i = 10
        · rw [txS_sgn h hb h1]; simp only [List.length_nil]; omega
        · have := ih (i + 1) (by omega) (by omega)
          rw [txS_on h hb h1]; simp only [List.length_cons]; omega
    · rw [txS_end h]; simp only [List.length_nil]; omega
/-- The last byte is a 92: the specification stands there. -/
def stuck (t : ByteArray) (j : Nat) : Prop := j + 1 = t.size ∧ bt t j = 92
/-- No byte of the line ends it. -/
def noNl (t : ByteArray) : Prop := ∀ k, k < t.size → ¬ bt t k = 10
theorem sg92 : sgnB 92 = true := by decide
theorem tx_rel (t : ByteArray) (hn : noNl t) (n : Nat) : ∀ i, t.size - i ≤ n →
    ((txI t i).2.2 = false ∧ txS t i = txI t i) ∨ ((txI t i).2.2 = true ∧ ((txS t i).2.2 = true ∨ stuck t (txS t i).2.1)) := by
  induction n with
  | zero => intro i hi; rw [txI_end (by omega), txS_end (by omega)]; exact .inl ⟨rfl, rfl⟩
  | succ n ih =>
    intro i hi
    by_cases h : i < t.size
    · by_cases hb : bt t i = 92
      · by_cases h1 : i + 1 < t.size
        · rw [txI_hid h hb h1]
          by_cases h2 : badB (bt t (i + 1)) = true
          · rw [txS_bad h hb h1 h2]
            refine .inr ⟨by rw [h2]; rfl, .inl rfl⟩
          · rw [txS_hid h hb h1 h2]
            rw [Bool.not_eq_true] at h2
            rw [h2, Bool.false_or]
            rcases ih (i + 2) (by omega) with ⟨a, b⟩ | ⟨a, b⟩
            · exact .inl ⟨a, by rw [b]⟩
            · exact .inr ⟨a, b⟩
        · rw [txI_last h hb h1, txS_sgn h (by omega) (.inl (by rw [hb]; decide))]
          exact .inr ⟨rfl, .inr ⟨by show i + 1 = t.size; omega, hb⟩⟩
      · by_cases h1 : sgnB (bt t i) = true
        · rw [txI_sgn h hb h1, txS_sgn h (by omega) (.inl h1)]
          exact .inl ⟨rfl, rfl⟩
        · rw [txI_on h hb h1, txS_on h (by omega) (by have := hn i h; simp only [not_or]; exact ⟨h1, this⟩)]
          rcases ih (i + 1) (by omega) with ⟨a, b⟩ | ⟨a, b⟩
          · exact .inl ⟨a, by rw [b]⟩
          · exact .inr ⟨a, b⟩
    · rw [txI_end h, txS_end h]; exact .inl ⟨rfl, rfl⟩
/-- A sign at a place, as the program takes it: the place behind it, whether something is wrong. -/
def pfx (t : ByteArray) (i : Nat) : List Nat → Bool
  | [] => true
  | c :: r => (decide (i < t.size) && (bt t i == c)) && pfx t (i + 1) r
def sgI (t : ByteArray) (p : List Nat) (x : Nat × Bool) : Nat × Bool := if pfx t x.1 p = true then (x.1 + p.length, x.2) else (x.1, true)
def sgS (t : ByteArray) (c : Nat) (x : Nat × Bool) : Nat × Bool := if x.2 = false ∧ x.1 < t.size ∧ bt t x.1 = c then (x.1 + 1, false) else (x.1, true)
/-- A text behind a place that is perhaps wrong. -/
def tI (t : ByteArray) (x : Nat × Bool) : List Int × Nat × Bool := ((txI t x.1).1, (txI t x.1).2.1, x.2 || (txI t x.1).2.2)
def tS (t : ByteArray) (x : Nat × Bool) : List Int × Nat × Bool := if x.2 = true then ([], x.1, true) else txS t x.1
/-- Both stand at one place, or something is wrong. -/
def Rel (t : ByteArray) (x y : Nat × Bool) : Prop := (x.2 = false ∧ y = x) ∨ (x.2 = true ∧ (y.2 = true ∨ stuck t y.1))
theorem Rel.text {t : ByteArray} {x y : Nat × Bool} (hn : noNl t) (h : Rel t x y) : Rel t (tI t x).2 (tS t y).2 ∧ ((tI t x).2.2 = false → x.2 = false ∧ (tS t y).1 = (tI t x).1) := by
  obtain ⟨i, q⟩ := x
  obtain ⟨j, p⟩ := y
  rcases h with ⟨h1, h2⟩ | ⟨h1, h2⟩
  · simp only [Prod.mk.injEq] at h1 h2
    obtain ⟨rfl, rfl⟩ := h2
    subst h1
    unfold tI tS
    simp only [Bool.false_or, Bool.false_eq_true, if_false]
    rcases tx_rel t hn _ j (Nat.le_refl _) with ⟨a, b⟩ | ⟨a, b⟩
    · exact ⟨.inl ⟨a, by rw [b]⟩, fun _ => ⟨trivial, by rw [b]⟩⟩
    · exact ⟨.inr ⟨a, b⟩, fun e => by rw [a] at e; cases e⟩
  · simp only at h1 h2
    subst h1
    unfold tI tS
    simp only [Bool.true_or]
    refine ⟨.inr ⟨rfl, ?_⟩, fun e => by cases e⟩
    rcases h2 with h2 | h2
    · rw [if_pos h2]; exact .inl rfl
    · by_cases hp : p = true
      · rw [if_pos hp]; exact .inl rfl
      · rw [if_neg hp, txS_sgn (by have := h2.1; omega) (by have := h2.1; omega) (.inl (by rw [h2.2]; decide))]
        exact .inr h2
theorem Rel.sign {t : ByteArray} {x y : Nat × Bool} {c : Nat} (hc : c ≠ 92) (h : Rel t x y) : Rel t (sgI t [c] x) (sgS t c y) ∧ ((sgI t [c] x).2 = false → x.2 = false) := by
  obtain ⟨i, q⟩ := x
  obtain ⟨j, p⟩ := y
  rcases h with ⟨h1, h2⟩ | ⟨h1, h2⟩
  · simp only [Prod.mk.injEq] at h1 h2
    obtain ⟨rfl, rfl⟩ := h2
    subst h1
    unfold sgI sgS
    simp only [pfx, Bool.and_true, List.length_cons, List.length_nil, Nat.zero_add, true_and, Bool.and_eq_true, decide_eq_true_eq, beq_iff_eq]
    by_cases hh : j < t.size ∧ bt t j = c
    · rw [if_pos hh]; exact ⟨.inl ⟨rfl, rfl⟩, fun _ => trivial⟩
    · rw [if_neg hh]; exact ⟨.inr ⟨rfl, .inl rfl⟩, fun e => by cases e⟩
  · simp only at h1 h2
    subst h1
    have e1 : (sgI t [c] (i, true)).2 = true := by unfold sgI; split <;> rfl
    refine ⟨.inr ⟨e1, .inl ?_⟩, fun e => by rw [e1] at e; cases e⟩
    unfold sgS
    rw [if_neg]
    simp only
    rintro ⟨a, b, d⟩
    rcases h2 with h2 | h2
    · rw [h2] at a; cases a
    · exact hc (d.symm.trans h2.2)
/-- The signs between the two sides of a rule. -/
theorem Rel.sign3 {t : ByteArray} {x y : Nat × Bool} (h : Rel t x y) : Rel t (sgI t [32, 62, 32] x) (sgS t 32 (sgS t 62 (sgS t 32 y))) ∧ ((sgI t [32, 62, 32] x).2 = false → x.2 = false) := by
  obtain ⟨i, q⟩ := x
  obtain ⟨j, p⟩ := y
  rcases h with ⟨h1, h2⟩ | ⟨h1, h2⟩
  · simp only [Prod.mk.injEq] at h1 h2
    obtain ⟨rfl, rfl⟩ := h2
    subst h1
    unfold sgI
    simp only [pfx, Bool.and_true, List.length_cons, List.length_nil, Nat.zero_add, Bool.and_eq_true, decide_eq_true_eq, beq_iff_eq]
    have S : ∀ (c k : Nat), sgS t c (k, false) = if k < t.size ∧ bt t k = c then (k + 1, false) else (k, true) := by
      intro c k; unfold sgS; simp only [true_and]
    have B : ∀ (c k : Nat), sgS t c (k, true) = (k, true) := by
      intro c k; unfold sgS; rw [if_neg]; rintro ⟨a, _⟩; cases a
    by_cases ha : j < t.size ∧ bt t j = 32
    · rw [S 32 j, if_pos ha]
      by_cases hb : j + 1 < t.size ∧ bt t (j + 1) = 62
      · rw [S 62 (j + 1), if_pos hb]
        by_cases hd : j + 1 + 1 < t.size ∧ bt t (j + 1 + 1) = 32
        · rw [S 32 (j + 1 + 1), if_pos hd, if_pos ⟨ha, hb, hd⟩]; exact ⟨.inl ⟨rfl, rfl⟩, fun _ => trivial⟩
        · rw [S 32 (j + 1 + 1), if_neg hd, if_neg (fun e => hd e.2.2)]; exact ⟨.inr ⟨rfl, .inl rfl⟩, fun e => by cases e⟩
      · rw [S 62 (j + 1), if_neg hb, B, if_neg (fun e => hb e.2.1)]; exact ⟨.inr ⟨rfl, .inl rfl⟩, fun e => by cases e⟩
    · rw [S 32 j, if_neg ha, B, B, if_neg (fun e => ha e.1)]; exact ⟨.inr ⟨rfl, .inl rfl⟩, fun e => by cases e⟩
  · simp only at h1 h2
    subst h1
    have e1 : (sgI t [32, 62, 32] (i, true)).2 = true := by unfold sgI; split <;> rfl
    refine ⟨.inr ⟨e1, .inl ?_⟩, fun e => by rw [e1] at e; cases e⟩
    have B : ∀ (c : Nat) (y : Nat × Bool), y.2 = true → (sgS t c y).2 = true := by
      intro c y hy; unfold sgS; rw [if_neg]; rintro ⟨a, _⟩; rw [hy] at a; cases a
    refine B _ _ (B _ _ ?_)
    unfold sgS
    rw [if_neg]
    simp only
    rintro ⟨a, b, d⟩
    rcases h2 with h2 | h2
    · rw [h2] at a; cases a
    · rw [h2.2] at d; cases d
/-- Bars from a place on. -/
def barsTo (t : ByteArray) (i : Nat) : Nat := if i < t.size then if bt t i = 124 then barsTo t (i + 1) else i else i
theorem barsTo_on {t : ByteArray} {i : Nat} (h : i < t.size) (h1 : bt t i = 124) : barsTo t i = barsTo t (i + 1) := by rw [barsTo, if_pos h, if_pos h1]
theorem barsTo_no {t : ByteArray} {i : Nat} (h : ¬ (i < t.size ∧ bt t i = 124)) : barsTo t i = i := by
  rw [barsTo]
  by_cases h1 : i < t.size
  · rw [if_pos h1, if_neg (fun e => h ⟨h1, e⟩)]
  · rw [if_neg h1]
theorem barsTo_le (t : ByteArray) (n : Nat) : ∀ i, t.size - i ≤ n → i ≤ t.size → i ≤ barsTo t i ∧ barsTo t i ≤ t.size ∧ (barsTo t i = t.size ↔ ∀ k, i ≤ k → k < t.size → bt t k = 124) := by
  induction n with
  | zero => intro i h1 h2; rw [barsTo_no (by omega)]; exact ⟨Nat.le_refl _, h2, fun _ k a b => by omega, fun _ => by omega⟩
  | succ n ih =>
    intro i h1 h2
    by_cases h : i < t.size ∧ bt t i = 124
    · rw [barsTo_on h.1 h.2]
      obtain ⟨a, b, c⟩ := ih (i + 1) (by omega) (by omega)
      refine ⟨by omega, b, c.trans ⟨fun e k h3 h4 => ?_, fun e k h3 h4 => e k (by omega) h4⟩⟩
      by_cases hk : k = i
      · rw [hk]; exact h.2
      · exact e k (by omega) h4
    · rw [barsTo_no h]
      refine ⟨Nat.le_refl _, h2, fun e k a b => by omega, fun e => ?_⟩
      by_cases h3 : i < t.size
      · exact absurd ⟨h3, e i (Nat.le_refl _) h3⟩ h
      · omega
/-- All that is left of the line is nothing, or a blank and some bars. -/
def endB (t : ByteArray) (i : Nat) : Bool := decide (i = t.size) || (decide (i + 1 < t.size) && (bt t i == 32) && decide (barsTo t (i + 1) = t.size))
/-- A rule, and whether the line is one: as the program reads it. -/
def ruI (t : ByteArray) : Ru × Bool :=
  let a := tI t (0, false)
  let b := tI t (sgI t [91] a.2)
  let c := tI t (sgI t [93] b.2)
  let d := tI t (sgI t [32, 62, 32] c.2)
  ((strOfNums a.1, strOfNums b.1, strOfNums c.1, strOfNums d.1, if d.2.1 = t.size then 0 else (t.size - d.2.1 - 1 : Nat)), !(d.2.2 || !endB t d.2.1))
/-- What is told behind the last text, by the specification: how often, the place, whether it is wrong. -/
def agS (t : ByteArray) (y : Nat × Bool) : Int × Nat × Bool :=
  if y.2 = false ∧ y.1 < t.size ∧ bt t y.1 = 32 then
    if y.1 + 1 < t.size ∧ bt t (y.1 + 1) = 124 then ((barsTo t (y.1 + 2) - (y.1 + 1) : Nat), barsTo t (y.1 + 2), false) else (1, y.1 + 1, true)
  else (0, y.1, y.2)
def ruS (t : ByteArray) : Ru × Bool :=
  let a := tS t (0, false)
  let b := tS t (sgS t 91 a.2)
  let c := tS t (sgS t 93 b.2)
  let d := tS t (sgS t 32 (sgS t 62 (sgS t 32 c.2)))
  let g := agS t d.2
  ((strOfNums a.1, strOfNums b.1, strOfNums c.1, strOfNums d.1, g.1), !g.2.2 && decide (g.2.1 = t.size))
theorem Rel.tail {t : ByteArray} {x y : Nat × Bool} (hx : x.1 ≤ t.size) (h : Rel t x y) :
    (!(agS t y).2.2 && decide ((agS t y).2.1 = t.size)) = !(x.2 || !endB t x.1) ∧ (x.2 = false → endB t x.1 = true → (agS t y).1 = if x.1 = t.size then 0 else ((t.size - x.1 - 1 : Nat) : Int)) := by
  obtain ⟨i, q⟩ := x
  obtain ⟨j, p⟩ := y
  rcases h with ⟨h1, h2⟩ | ⟨h1, h2⟩
  · simp only [Prod.mk.injEq] at h1 h2 hx
    obtain ⟨rfl, rfl⟩ := h2
    subst h1
    unfold agS
    simp only [true_and, Bool.false_or, Bool.not_not]
    by_cases hj : j = t.size
    · rw [if_neg (by omega)]
      simp [endB, hj]
    · by_cases h3 : j < t.size ∧ bt t j = 32
      · rw [if_pos h3]
        by_cases h4 : j + 1 < t.size ∧ bt t (j + 1) = 124
        · rw [if_pos h4]
          have e : barsTo t (j + 1) = barsTo t (j + 2) := barsTo_on h4.1 h4.2
          unfold endB
          rw [decide_eq_false hj, decide_eq_true h4.1, h3.2, e]
          simp only [Bool.not_false, Bool.true_and, Bool.false_or, beq_self_eq_true]
          refine ⟨trivial, fun _ he => ?_⟩
          rw [decide_eq_true_eq] at he
          rw [he, if_neg hj]
          omega
        · rw [if_neg h4]
          have e : endB t j = false := by
            unfold endB
            rw [decide_eq_false hj, Bool.false_or]
            by_cases h5 : j + 1 < t.size
            · have := barsTo_no (t := t) (i := j + 1) h4
              rw [this, decide_eq_false (p := j + 1 = t.size) (by omega), Bool.and_false]
            · rw [decide_eq_false h5]; rfl
          rw [e]
          exact ⟨rfl, fun _ he => by cases he⟩
      · rw [if_neg h3]
        have e : endB t j = false := by
          unfold endB
          rw [decide_eq_false hj, Bool.false_or]
          by_cases h5 : j + 1 < t.size
          · have : (bt t j == 32) = false := by rw [beq_eq_false_iff_ne]; exact fun e => h3 ⟨by omega, e⟩
            rw [this]; simp
          · rw [decide_eq_false h5]; rfl
        rw [e]
        exact ⟨by simp [hj], fun _ he => by cases he⟩
  · simp only at h1 h2
    subst h1
    refine ⟨?_, fun e => by cases e⟩
    simp only [Bool.true_or, Bool.not_true]
    unfold agS
    rcases h2 with h2 | h2
    · rw [if_neg (by simp only; rintro ⟨a, _⟩; rw [h2] at a; cases a)]
      simp [h2]
    · rw [if_neg (by simp only; rintro ⟨_, _, a⟩; rw [h2.2] at a; cases a)]
      have : ¬ j = t.size := by have := h2.1; omega
      simp [this]
theorem sgI_le {t : ByteArray} {p : List Nat} {x : Nat × Bool} (h : x.1 ≤ t.size) : (sgI t p x).1 ≤ t.size := by
  have : ∀ (p : List Nat) i, i ≤ t.size → pfx t i p = true → i + p.length ≤ t.size := by
    intro p
    induction p with
    | nil => intro i h _; simpa using h
    | cons c r ih =>
      intro i h e
      simp only [pfx, Bool.and_eq_true, decide_eq_true_eq] at e
      have := ih (i + 1) (by omega) e.2
      simp only [List.length_cons]; omega
  unfold sgI
  split
  · exact this _ _ h (by assumption)
  · exact h
theorem tI_le {t : ByteArray} {x : Nat × Bool} (h : x.1 ≤ t.size) : (tI t x).2.1 ≤ t.size := (txI_le t _ x.1 (Nat.le_refl _) h).2.1
/-- Both read one rule, or none. -/
theorem ru_same (t : ByteArray) (hn : noNl t) : (ruS t).2 = (ruI t).2 ∧ ((ruI t).2 = true → (ruS t).1 = (ruI t).1) := by
  have r0 : Rel t (0, false) (0, false) := .inl ⟨rfl, rfl⟩
  obtain ⟨a1, a2⟩ := r0.text hn
  obtain ⟨b1, b2⟩ := a1.sign (c := 91) (by decide)
  obtain ⟨c1, c2⟩ := b1.text hn
  obtain ⟨d1, d2⟩ := c1.sign (c := 93) (by decide)
  obtain ⟨e1, e2⟩ := d1.text hn
  obtain ⟨f1, f2⟩ := e1.sign3
  obtain ⟨g1, g2⟩ := f1.text hn
  have le : (tI t (sgI t [32, 62, 32] (tI t (sgI t [93] (tI t (sgI t [91] (tI t (0, false)).2)).2)).2)).2.1 ≤ t.size := tI_le (sgI_le (tI_le (sgI_le (tI_le (sgI_le (tI_le (Nat.zero_le _)))))))
  obtain ⟨k1, k2⟩ := g1.tail le
  refine ⟨k1, fun h => ?_⟩
  have h' : (!((tI t (sgI t [32, 62, 32] (tI t (sgI t [93] (tI t (sgI t [91] (tI t (0, false)).2)).2)).2)).2.2 || !endB t (tI t (sgI t [32, 62, 32] (tI t (sgI t [93] (tI t (sgI t [91] (tI t (0, false)).2)).2)).2)).2.1)) = true := h
  rw [Bool.not_eq_true', Bool.or_eq_false_iff, Bool.not_eq_false'] at h'
  obtain ⟨hq, he⟩ := h'
  obtain ⟨q1, x1⟩ := g2 hq
  obtain ⟨q2, x2⟩ := e2 (f2 q1)
  obtain ⟨q3, x3⟩ := c2 (d2 q2)
  obtain ⟨q4, x4⟩ := a2 (b2 q3)
  have y := k2 hq he
  unfold ruS ruI
  simp only [Prod.mk.injEq]
  exact ⟨by rw [x4], by rw [x3], by rw [x2], by rw [x1], y⟩
end Go.Proofs.YtklakcnapdhcnaaDoor.Pas
