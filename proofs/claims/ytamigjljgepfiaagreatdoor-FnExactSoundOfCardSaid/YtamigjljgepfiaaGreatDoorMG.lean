/- Several texts in one. -/
import Derived.Test.YtamigjljgepfiaaGreatDoorRows
import Derived.Test.YtamigjljgepfiaaGreatDoorMA
import Derived.WalkKit
import Derived.WalkLawsBesides
import Derived.WalkSpells
import Derived.Below
import Derived.BigQuiet
import Derived.Deep.QuietTactic
import Derived.Outline
import Derived.Great.Walk
/- The repertoire in plain numbers: the rows of the program and those of the specification tell of every number the same. No Go in sight. -/
namespace Go.Proofs.YtamigjljgepfiaaGreatDoor
def tab : List (Int × Int × Int × Int) :=
  [(0, 31, 1, 0), (32, 32, 2, 0), (33, 47, 9, 0), (48, 57, 8, 0), (58, 64, 9, 0), (65, 90, 4, 1), (91, 96, 9, 0), (97, 122, 5, 1), (123, 126, 9, 0), (127, 159, 1, 0),
   (160, 160, 2, 0), (161, 172, 10, 0), (173, 173, 11, 0), (174, 191, 10, 0), (512, 543, 4, 2), (544, 575, 5, 2), (576, 579, 4, 2), (580, 583, 6, 2), (584, 587, 5, 2),
   (592, 601, 8, 2), (608, 609, 5, 2), (1280, 1311, 7, 5), (1360, 1369, 8, 5), (1536, 1567, 7, 6), (1568, 1579, 3, 6), (1584, 1585, 3, 6), (1616, 1625, 8, 6), (1792, 1810, 7, 7),
   (1824, 1844, 7, 7), (1857, 1883, 7, 7), (2048, 2095, 7, 8), (4096, 4159, 3, 0), (7680, 7748, 10, 0), (7760, 7785, 10, 0), (7936, 7947, 11, 0), (7953, 7954, 11, 0),
   (8064, 8064, 2, 0), (8192, 8399, 4, 1), (8400, 8607, 5, 1), (8704, 8911, 4, 1), (8912, 9119, 5, 1), (9216, 9423, 4, 1), (9424, 9631, 5, 1), (9728, 9753, 4, 1),
   (9984, 10009, 10, 0), (10016, 10025, 8, 0), (10032, 10035, 10, 0), (12288, 23459, 7, 7), (24576, 26623, 7, 9)]
def spc : List (Int × Int × Int × Int) :=
  [(0, 31, 1, 0), (32, 32, 2, 0), (48, 57, 8, 0), (65, 90, 4, 1), (97, 122, 5, 1), (33, 126, 9, 0), (127, 159, 1, 0), (160, 160, 2, 0), (173, 173, 11, 0), (161, 191, 10, 0),
   (1280, 1311, 7, 5), (1360, 1369, 8, 5), (1536, 1567, 7, 6), (1568, 1579, 3, 6), (1584, 1585, 3, 6), (1616, 1625, 8, 6), (1792, 1810, 7, 7), (1824, 1844, 7, 7),
   (1857, 1883, 7, 7), (2048, 2095, 7, 8), (4096, 4159, 3, 0), (7680, 7748, 10, 0), (7760, 7785, 10, 0), (7936, 7947, 11, 0), (7953, 7954, 11, 0), (8064, 8064, 2, 0),
   (9728, 9753, 4, 1), (9984, 10009, 10, 0), (10016, 10025, 8, 0), (10032, 10035, 10, 0), (12288, 23459, 7, 7), (24576, 26623, 7, 9)]
def csd : List (Int × Int × Int × Int) :=
  [(0, 31, 4, 0), (32, 63, 5, 0), (64, 67, 4, 0), (68, 71, 6, 0), (72, 75, 5, 0), (80, 89, 8, 0), (96, 97, 5, 0)]
def Z4 : Int × Int × Int × Int := (0, 0, 0, 0)
def inRow (p : Int) (r : Int × Int × Int × Int) : Bool := decide (r.1 ≤ p) && decide (p ≤ r.2.1)
/-- The first row that has p. -/
def find (l : List (Int × Int × Int × Int)) (p : Int) : Int × Int × Int × Int := (l.find? (inRow p)).getD Z4
/-- No row begins or ends within lo .. hi. -/
def unif (l : List (Int × Int × Int × Int)) (lo hi : Int) : Bool :=
  l.all fun r => (decide (hi < r.1) || decide (r.1 ≤ lo)) && (decide (hi ≤ r.2.1) || decide (r.2.1 < lo))
theorem find_const (l : List (Int × Int × Int × Int)) (lo hi p : Int) (h1 : lo ≤ p) (h2 : p ≤ hi) (hu : unif l lo hi = true) : find l p = find l lo := by
  have hr : ∀ r ∈ l, inRow p r = inRow lo r := by
    intro r hr
    have := List.all_eq_true.1 hu r hr
    simp only [Bool.and_eq_true, Bool.or_eq_true, decide_eq_true_eq] at this
    unfold inRow
    rw [Bool.eq_iff_iff]
    simp only [Bool.and_eq_true, decide_eq_true_eq]
    omega
  unfold find
  clear hu
  induction l with
  | nil => rfl
  | cons r t ih =>
    have e := hr r (by simp)
    have iht := ih fun x hx => hr x (by simp [hx])
    simp only [List.find?_cons, e]
    cases inRow lo r
    · exact iht
    · rfl
/-- What holds on each stretch between two edges holds from the first edge up to the last one. -/
def stretches (f : Int → Int → Bool) : List Int → Bool
  | a :: b :: r => f a (b - 1) && stretches f (b :: r)
  | _ => true
theorem of_stretches (f : Int → Int → Bool) (P : Int → Prop) (hf : ∀ lo hi, f lo hi = true → ∀ p, lo ≤ p → p ≤ hi → P p) :
    ∀ (l : List Int) (a z : Int), stretches f (a :: l) = true → (a :: l).getLast? = some z → ∀ p, a ≤ p → p < z → P p
  | [], a, z, _, hz, p, h1, h2 => by simp at hz; omega
  | b :: r, a, z, hs, hz, p, h1, h2 => by
    simp only [stretches, Bool.and_eq_true] at hs
    by_cases h : p < b
    · exact hf a (b - 1) hs.1 p h1 (by omega)
    · exact of_stretches f P hf r b z hs.2 (by simpa using hz) p (by omega) h2
def twin (p : Int) : Int := if 768 ≤ p ∧ p < 1280 then 512 + p % 256 else p
def known (p : Int) : Int × Int :=
  if 512 ≤ p ∧ p < 1280 then (if (find csd (p % 256)).2.2.1 = 0 then (0, 0) else ((find csd (p % 256)).2.2.1, p / 256))
  else if 8192 ≤ p ∧ p < 9728 then (if 416 ≤ p % 512 then (0, 0) else if p % 512 < 208 then (4, 1) else (5, 1))
  else ((find spc p).2.2.1, (find spc p).2.2.2)
def rowOf (p : Int) : Int × Int × Int × Int := find tab p
def catI (p : Int) : Int := (rowOf (twin p)).2.2.1
def scrI (p : Int) : Int := if (rowOf (twin p)).2.2.2 = 0 then 0 else (rowOf (twin p)).2.2.2 + (p - twin p) / 256
/-- The digit of a point by its row: how far it stands behind the row's beginning. -/
def Fine (p : Int) : Prop := catI p = (known p).1 ∧ scrI p = (known p).2 ∧ (catI p = 8 → twin p - (rowOf (twin p)).1 = p % 16 % 10 ∧ 0 ≤ p) ∧ (scrI p = 9 ↔ 24576 ≤ p ∧ p ≤ 26623)

def edA : List Int := [0, 32, 33, 48, 58, 65, 91, 97, 123, 127, 160, 161, 173, 174, 192, 512]
def edB : List Int := [1280, 1312, 1360, 1370, 1536, 1568, 1580, 1584, 1586, 1616, 1626, 1792, 1811, 1824, 1845, 1857, 1884, 2048, 2096, 4096, 4160, 7680, 7749, 7760, 7786, 7936, 7948, 7953, 7955, 8064, 8065, 8192]
def edC : List Int := [9728, 9754, 9984, 10010, 10016, 10026, 10032, 10036, 12288, 23460, 24576, 26624, 32768]
def edQ : List Int := [0, 32, 64, 68, 72, 76, 80, 90, 96, 98, 256]
def edR : List Int := [0, 208, 416, 512]

/-- A stretch outside of the three cased scripts and the letters with marks. -/
def okMain (lo hi : Int) : Bool :=
  unif tab lo hi && unif spc lo hi && ((find tab lo).2.2.1 == (find spc lo).2.2.1) && ((find tab lo).2.2.2 == (find spc lo).2.2.2) &&
  (((find tab lo).2.2.1 != 8) || (decide (lo % 16 = 0) && decide (hi < lo + 10) && ((find tab lo).1 == lo) && decide (0 ≤ lo))) &&
  (((find tab lo).2.2.2 == 9) == (decide (24576 ≤ lo) && decide (hi ≤ 26623))) && (decide (hi < 24576) || decide (26623 < lo) || (decide (24576 ≤ lo) && decide (hi ≤ 26623)))
theorem fine_main (lo hi : Int) (h : okMain lo hi = true) (p : Int) (h1 : lo ≤ p) (h2 : p ≤ hi) (hn : ¬ (512 ≤ p ∧ p < 1280)) (hn2 : ¬ (8192 ≤ p ∧ p < 9728)) : Fine p := by
  simp only [okMain, Bool.and_eq_true] at h
  obtain ⟨⟨⟨⟨⟨⟨u1, u2⟩, e1⟩, e2⟩, e3⟩, e4⟩, e5⟩ := h
  have ht : twin p = p := by unfold twin; rw [if_neg (by omega)]
  have hk : known p = ((find spc p).2.2.1, (find spc p).2.2.2) := by unfold known; rw [if_neg hn, if_neg hn2]
  have c1 := find_const tab lo hi p h1 h2 u1
  have c2 := find_const spc lo hi p h1 h2 u2
  have e1 := eq_of_beq e1
  have e2 := eq_of_beq e2
  have e4 := eq_of_beq e4
  generalize hx : find tab lo = x at *
  generalize hy : find spc lo = y at *
  have hs : scrI p = x.2.2.2 := by
    unfold scrI rowOf; rw [ht, c1]
    by_cases h0 : x.2.2.2 = 0
    · rw [if_pos h0, h0]
    · rw [if_neg h0]; simp
  have hc : catI p = x.2.2.1 := by unfold catI rowOf; rw [ht, c1]
  refine ⟨?_, ?_, ?_, ?_⟩
  · rw [hc, hk, c2]; exact e1
  · rw [hs, hk, c2]; exact e2
  · intro h8
    rw [hc] at h8
    rw [h8] at e3
    simp only [Bool.or_eq_true, Bool.and_eq_true, decide_eq_true_eq, beq_iff_eq] at e3
    rcases e3 with e3 | ⟨⟨⟨a1, a2⟩, a3⟩, a4⟩
    · exact absurd e3 (by decide)
    · unfold rowOf; rw [ht, c1, a3]; omega
  · rw [hs]
    simp only [Bool.or_eq_true, Bool.and_eq_true, decide_eq_true_eq] at e5
    by_cases h9 : x.2.2.2 = 9
    · rw [h9] at e4
      have : (decide (24576 ≤ lo) && decide (hi ≤ 26623)) = true := by rw [← e4]; decide
      simp only [Bool.and_eq_true, decide_eq_true_eq] at this
      omega
    · have : (x.2.2.2 == 9) = false := by simpa using h9
      rw [this] at e4
      have : ¬ (24576 ≤ lo ∧ hi ≤ 26623) := by
        intro hh
        have : (decide (24576 ≤ lo) && decide (hi ≤ 26623)) = true := by simpa using hh
        rw [this] at e4; cases e4
      omega
theorem fineA (p : Int) (h1 : 0 ≤ p) (h2 : p < 512) : Fine p :=
  of_stretches (fun lo hi => okMain lo hi && decide (hi < 512)) Fine (fun lo hi h q a b => by
    simp only [Bool.and_eq_true, decide_eq_true_eq] at h
    exact fine_main lo hi h.1 q a b (by omega) (by omega)) edA.tail 0 512 (by decide +kernel) (by decide) p h1 h2
theorem fineB (p : Int) (h1 : 1280 ≤ p) (h2 : p < 8192) : Fine p :=
  of_stretches (fun lo hi => okMain lo hi && (decide (1280 ≤ lo) && decide (hi < 8192))) Fine (fun lo hi h q a b => by
    simp only [Bool.and_eq_true, decide_eq_true_eq] at h
    exact fine_main lo hi h.1 q a b (by omega) (by omega)) edB.tail 1280 8192 (by decide +kernel) (by decide) p h1 h2
theorem fineC (p : Int) (h1 : 9728 ≤ p) (h2 : p < 32768) : Fine p :=
  of_stretches (fun lo hi => okMain lo hi && decide (9728 ≤ lo)) Fine (fun lo hi h q a b => by
    simp only [Bool.and_eq_true, decide_eq_true_eq] at h
    exact fine_main lo hi h.1 q a b (by omega) (by omega)) edC.tail 9728 32768 (by decide +kernel) (by decide) p h1 h2
theorem none_low (l : List (Int × Int × Int × Int)) (p : Int) (h : (l.all fun r => decide (p < r.1)) = true) : find l p = Z4 := by
  unfold find
  have : l.find? (inRow p) = none := by
    rw [List.find?_eq_none]
    intro r hr
    have := List.all_eq_true.1 h r hr
    simp only [decide_eq_true_eq] at this
    simp only [inRow, Bool.and_eq_true, decide_eq_true_eq]
    omega
  rw [this]; rfl
theorem none_high (l : List (Int × Int × Int × Int)) (p : Int) (h : (l.all fun r => decide (r.2.1 < p)) = true) : find l p = Z4 := by
  unfold find
  have : l.find? (inRow p) = none := by
    rw [List.find?_eq_none]
    intro r hr
    have := List.all_eq_true.1 h r hr
    simp only [decide_eq_true_eq] at this
    simp only [inRow, Bool.and_eq_true, decide_eq_true_eq]
    omega
  rw [this]; rfl
theorem all_lt (l : List (Int × Int × Int × Int)) (a p : Int) (hp : p ≤ a) (h : (l.all fun r => decide (a < r.1)) = true) : (l.all fun r => decide (p < r.1)) = true := by
  rw [List.all_eq_true] at h ⊢
  intro r hr
  have := h r hr
  simp only [decide_eq_true_eq] at this ⊢
  omega
theorem all_gt (l : List (Int × Int × Int × Int)) (a p : Int) (hp : a ≤ p) (h : (l.all fun r => decide (r.2.1 < a)) = true) : (l.all fun r => decide (r.2.1 < p)) = true := by
  rw [List.all_eq_true] at h ⊢
  intro r hr
  have := h r hr
  simp only [decide_eq_true_eq] at this ⊢
  omega
theorem fine_none (p : Int) (hn : ¬ (512 ≤ p ∧ p < 1280)) (hn2 : ¬ (8192 ≤ p ∧ p < 9728)) (h9 : ¬ (24576 ≤ p ∧ p ≤ 26623)) (c1 : find tab p = Z4) (c2 : find spc p = Z4) : Fine p := by
  have ht : twin p = p := by unfold twin; rw [if_neg (by omega)]
  have hk : known p = ((find spc p).2.2.1, (find spc p).2.2.2) := by unfold known; rw [if_neg hn, if_neg hn2]
  have hs : scrI p = 0 := by unfold scrI rowOf; rw [ht, c1]; rfl
  have hc : catI p = 0 := by unfold catI rowOf; rw [ht, c1]; rfl
  refine ⟨?_, ?_, ?_, ?_⟩
  · rw [hc, hk, c2]; rfl
  · rw [hs, hk, c2]; rfl
  · intro h8; rw [hc] at h8; exact absurd h8 (by decide)
  · rw [hs]; constructor
    · intro h; exact absurd h (by decide)
    · intro h; exact absurd h h9
theorem fineLow (p : Int) (h : p < 0) : Fine p :=
  fine_none p (by omega) (by omega) (by omega) (none_low _ _ (all_lt _ (-1) _ (by omega) (by decide +kernel))) (none_low _ _ (all_lt _ (-1) _ (by omega) (by decide +kernel)))
theorem fineHigh (p : Int) (h : 32768 ≤ p) : Fine p :=
  fine_none p (by omega) (by omega) (by omega) (none_high _ _ (all_gt _ 32768 _ h (by decide +kernel))) (none_high _ _ (all_gt _ 32768 _ h (by decide +kernel)))
/-- A stretch of a cased script, counted from its beginning. -/
def okQ (lo hi : Int) : Bool :=
  unif csd lo hi && unif tab (512 + lo) (512 + hi) && ((find tab (512 + lo)).2.2.1 == (find csd lo).2.2.1) &&
  ((find tab (512 + lo)).2.2.2 == (if (find csd lo).2.2.1 = 0 then 0 else 2)) &&
  (((find tab (512 + lo)).2.2.1 != 8) || (decide (lo % 16 = 0) && decide (hi < lo + 10) && ((find tab (512 + lo)).1 == 512 + lo))) && decide (0 ≤ lo)
def FineQ (q : Int) : Prop := ∀ b : Int, 2 ≤ b → b ≤ 4 → 0 ≤ q → q < 256 → Fine (256 * b + q)
theorem fine_q (lo hi : Int) (h : okQ lo hi = true) (q : Int) (h1 : lo ≤ q) (h2 : q ≤ hi) : FineQ q := by
  intro b hb1 hb2 hq1 hq2
  simp only [okQ, Bool.and_eq_true] at h
  obtain ⟨⟨⟨⟨⟨u1, u2⟩, e1⟩, e2⟩, e3⟩, e4⟩ := h
  have e1 := eq_of_beq e1
  have e2 := eq_of_beq e2
  have c1 := find_const csd lo hi q h1 h2 u1
  have c2 := find_const tab (512 + lo) (512 + hi) (512 + q) (by omega) (by omega) u2
  have ht : twin (256 * b + q) = 512 + q := by
    unfold twin
    by_cases hb : b = 2
    · rw [if_neg (by omega)]; omega
    · rw [if_pos (by omega)]; omega
  have hm : (256 * b + q) % 256 = q := by omega
  have hd : (256 * b + q) / 256 = b := by omega
  have hk : known (256 * b + q) = if (find csd q).2.2.1 = 0 then (0, 0) else ((find csd q).2.2.1, b) := by
    unfold known; rw [if_pos (by omega), hm, hd]
  rw [c1] at hk
  generalize hx : find tab (512 + lo) = x at *
  generalize hy : find csd lo = y at *
  have hc : catI (256 * b + q) = x.2.2.1 := by unfold catI rowOf; rw [ht, c2]
  have hs : scrI (256 * b + q) = if y.2.2.1 = 0 then 0 else b := by
    unfold scrI rowOf; rw [ht, c2, e2]
    by_cases h0 : y.2.2.1 = 0
    · rw [if_pos h0, if_pos rfl, if_pos h0]
    · rw [if_neg h0, if_neg (by decide), if_neg h0]; omega
  refine ⟨?_, ?_, ?_, ?_⟩
  · rw [hc, hk, e1]
    by_cases h0 : y.2.2.1 = 0
    · rw [if_pos h0, h0]
    · rw [if_neg h0]
  · rw [hs, hk]
    by_cases h0 : y.2.2.1 = 0
    · rw [if_pos h0, if_pos h0]
    · rw [if_neg h0, if_neg h0]
  · intro h8
    rw [hc] at h8
    rw [h8] at e3
    simp only [Bool.or_eq_true, Bool.and_eq_true, decide_eq_true_eq, beq_iff_eq] at e3 e4
    rcases e3 with e3 | ⟨⟨a1, a2⟩, a3⟩
    · exact absurd e3 (by decide)
    · unfold rowOf; rw [ht, c2, a3]; omega
  · rw [hs]
    by_cases h0 : y.2.2.1 = 0
    · rw [if_pos h0]; omega
    · rw [if_neg h0]; omega
theorem fineQ (p : Int) (h1 : 512 ≤ p) (h2 : p < 1280) : Fine p := by
  have := of_stretches okQ FineQ fine_q edQ.tail 0 256 (by decide +kernel) (by decide) (p % 256) (by omega) (by omega) (p / 256) (by omega) (by omega) (by omega) (by omega)
  rwa [show 256 * (p / 256) + p % 256 = p by omega] at this
/-- A stretch of the letters with marks. -/
def okR (lo hi : Int) : Bool :=
  ([16, 17, 18] : List Int).all fun m => unif tab (512 * m + lo) (512 * m + hi) && ((find tab (512 * m + lo)).2.2.1 == (if 416 ≤ lo then 0 else if lo < 208 then 4 else 5)) &&
    ((find tab (512 * m + lo)).2.2.2 == (if 416 ≤ lo then 0 else 1)) && (decide (416 ≤ lo) || (decide (208 ≤ lo) && decide (hi < 416)) || decide (hi < 208))
def FineR (q : Int) : Prop := ∀ m : Int, 16 ≤ m → m ≤ 18 → 0 ≤ q → q < 512 → Fine (512 * m + q)
theorem fine_r (lo hi : Int) (h : okR lo hi = true) (q : Int) (h1 : lo ≤ q) (h2 : q ≤ hi) : FineR q := by
  intro m hm1 hm2 hq1 hq2
  have hm : m ∈ ([16, 17, 18] : List Int) := by simp; omega
  have h := List.all_eq_true.1 h m hm
  simp only [Bool.and_eq_true, Bool.or_eq_true, decide_eq_true_eq] at h
  obtain ⟨⟨⟨u, e1⟩, e2⟩, e3⟩ := h
  have e1 := eq_of_beq e1
  have e2 := eq_of_beq e2
  have c := find_const tab (512 * m + lo) (512 * m + hi) (512 * m + q) (by omega) (by omega) u
  have ht : twin (512 * m + q) = 512 * m + q := by unfold twin; rw [if_neg (by omega)]
  have hmod : (512 * m + q) % 512 = q := by omega
  have hk : known (512 * m + q) = if 416 ≤ q then (0, 0) else if q < 208 then (4, 1) else (5, 1) := by
    unfold known; rw [if_neg (by omega), if_pos (by omega), hmod]
  generalize hx : find tab (512 * m + lo) = x at *
  have hc : catI (512 * m + q) = x.2.2.1 := by unfold catI rowOf; rw [ht, c]
  have hs : scrI (512 * m + q) = x.2.2.2 := by
    unfold scrI rowOf; rw [ht, c]
    by_cases h0 : x.2.2.2 = 0
    · rw [if_pos h0, h0]
    · rw [if_neg h0]; simp
  have hlo : (416 ≤ lo ∧ 416 ≤ q) ∨ (208 ≤ lo ∧ lo < 416 ∧ 208 ≤ q ∧ q < 416) ∨ (lo < 208 ∧ q < 208) := by omega
  rcases hlo with ⟨k1, k2⟩ | ⟨k1, k2, k3, k4⟩ | ⟨k1, k2⟩
  · rw [if_pos k1] at e1 e2
    rw [if_pos k2] at hk
    refine ⟨by rw [hc, hk, e1], by rw [hs, hk, e2], fun h8 => by rw [hc, e1] at h8; exact absurd h8 (by decide), ?_⟩
    rw [hs, e2]; omega
  · rw [if_neg (by omega), if_neg (by omega)] at e1
    rw [if_neg (by omega)] at e2
    rw [if_neg (by omega), if_neg (by omega)] at hk
    refine ⟨by rw [hc, hk, e1], by rw [hs, hk, e2], fun h8 => by rw [hc, e1] at h8; exact absurd h8 (by decide), ?_⟩
    rw [hs, e2]; omega
  · rw [if_neg (by omega), if_pos k1] at e1
    rw [if_neg (by omega)] at e2
    rw [if_neg (by omega), if_pos k2] at hk
    refine ⟨by rw [hc, hk, e1], by rw [hs, hk, e2], fun h8 => by rw [hc, e1] at h8; exact absurd h8 (by decide), ?_⟩
    rw [hs, e2]; omega
theorem fineR (p : Int) (h1 : 8192 ≤ p) (h2 : p < 9728) : Fine p := by
  have := of_stretches okR FineR fine_r edR.tail 0 512 (by decide +kernel) (by decide) (p % 512) (by omega) (by omega) (p / 512) (by omega) (by omega) (by omega) (by omega)
  rwa [show 512 * (p / 512) + p % 512 = p by omega] at this
/-- OF EVERY NUMBER the program's rows and the specification's tell the same. -/
theorem fine (p : Int) : Fine p := by
  by_cases h0 : p < 0
  · exact fineLow p h0
  by_cases h1 : p < 512
  · exact fineA p (by omega) h1
  by_cases h2 : p < 1280
  · exact fineQ p (by omega) h2
  by_cases h3 : p < 8192
  · exact fineB p (by omega) h3
  by_cases h4 : p < 9728
  · exact fineR p (by omega) h4
  by_cases h5 : p < 32768
  · exact fineC p (by omega) h5
  exact fineHigh p (by omega)
end Go.Proofs.YtamigjljgepfiaaGreatDoor
/- Cuts of characters in plain numbers: what the program keeps while it goes through a text, and what the specification looks back for, decide alike at every place. No Go in sight. -/
namespace Go.Proofs.YtamigjljgepfiaaGreatDoor
namespace Chr
def cat (p : Int) : Int := (known p).1
theorem cat_i (p : Int) : catI p = cat p := (fine p).1
def ctl (p : Int) : Bool := cat p == 1 || p == 7954
def mrk (p : Int) : Bool := cat p == 3 || p == 7936 || (decide (7744 ≤ p) && decide (p ≤ 7748))
def pic (p : Int) : Bool := decide (7680 ≤ p) && decide (p ≤ 7743)
def flg (p : Int) : Bool := decide (7760 ≤ p) && decide (p ≤ 7785)
def led (p : Int) : Bool := decide (1792 ≤ p) && decide (p ≤ 1810)
def vow (p : Int) : Bool := decide (1824 ≤ p) && decide (p ≤ 1844)
def tai (p : Int) : Bool := decide (1857 ≤ p) && decide (p ≤ 1883)
def sil (p : Int) : Bool := decide (12288 ≤ p) && decide (p ≤ 23459)
def hta (p : Int) : Bool := !((p - 12288) % 28 == 0)
def prt (p : Int) : Int :=
  if led p then 1 else if vow p then 2 else if tai p then 3 else if sil p && (p - 12288) % 28 == 0 then 4 else if sil p then 5 else 0
def sylP (x y : Int) : Bool :=
  if x = 1 then y == 1 || y == 2 || y == 4 || y == 5 else if x = 2 ∨ x = 4 then y == 2 || y == 3 else if x = 3 ∨ x = 5 then y == 3 else false
def sylS (a b : Int) : Bool := sylP (prt a) (prt b)
def sylI (a b : Int) : Bool :=
  if led a then led b || vow b || sil b else if vow a || (sil a && !hta a) then vow b || tai b else if tai a || sil a then tai b else false
/-- The kinds are apart. -/
theorem apart (p : Int) : (led p = true → vow p = false ∧ tai p = false ∧ sil p = false) ∧ (vow p = true → led p = false ∧ tai p = false ∧ sil p = false) ∧ (tai p = true → led p = false ∧ vow p = false ∧ sil p = false) ∧ (sil p = true → led p = false ∧ vow p = false ∧ tai p = false) := by
  simp only [led, vow, tai, sil, Bool.and_eq_true, decide_eq_true_eq, Bool.and_eq_false_iff, decide_eq_false_iff_not]
  omega
theorem prt_kinds (p : Int) : (led p = true ∧ prt p = 1) ∨ (led p = false ∧ vow p = true ∧ tai p = false ∧ sil p = false ∧ prt p = 2) ∨ (led p = false ∧ vow p = false ∧ tai p = true ∧ sil p = false ∧ prt p = 3) ∨
    (led p = false ∧ vow p = false ∧ tai p = false ∧ sil p = true ∧ hta p = false ∧ prt p = 4) ∨ (led p = false ∧ vow p = false ∧ tai p = false ∧ sil p = true ∧ hta p = true ∧ prt p = 5) ∨ (led p = false ∧ vow p = false ∧ tai p = false ∧ sil p = false ∧ prt p = 0) := by
  have ha := apart p
  unfold prt
  cases h1 : led p <;> cases h2 : vow p <;> cases h3 : tai p <;> cases h4 : sil p <;> cases h5 : ((p - 12288) % 28 == 0) <;> simp_all [hta]
theorem syl_eq (a b : Int) : sylI a b = sylS a b := by
  have ha := apart a
  have hb := apart b
  unfold sylI sylS
  rcases prt_kinds a with ⟨a1, e⟩ | ⟨a1, a2, a3, a4, e⟩ | ⟨a1, a2, a3, a4, e⟩ | ⟨a1, a2, a3, a4, a5, e⟩ | ⟨a1, a2, a3, a4, a5, e⟩ | ⟨a1, a2, a3, a4, e⟩ <;>
  rcases prt_kinds b with ⟨b1, f⟩ | ⟨b1, b2, b3, b4, f⟩ | ⟨b1, b2, b3, b4, f⟩ | ⟨b1, b2, b3, b4, b5, f⟩ | ⟨b1, b2, b3, b4, b5, f⟩ | ⟨b1, b2, b3, b4, f⟩ <;>
  simp_all [sylP]
/-- The stroke that binds stands at place k, or ahead of dots there. -/
def bnd (L : List Int) : Nat → Bool
  | 0 => L.getD 0 0 == 1584
  | k + 1 => if L.getD (k + 1) 0 == 1585 then bnd L k else L.getD (k + 1) 0 == 1584
/-- How many flags stand side by side up to place k. -/
def fls (L : List Int) : Nat → Nat
  | 0 => if flg (L.getD 0 0) then 1 else 0
  | k + 1 => if flg (L.getD (k + 1) 0) then fls L k + 1 else 0
/-- Of the first k points that are no marks the last one is a picture. -/
def pik (L : List Int) : Nat → Bool
  | 0 => false
  | k + 1 => if mrk (L.getD k 0) then pik L k else pic (L.getD k 0)
/-- The specification's word on the place ahead of point i. -/
def charS (L : List Int) (i : Nat) : Bool :=
  if L.getD (i - 1) 0 == 13 && L.getD i 0 == 10 then false
  else if ctl (L.getD (i - 1) 0) || ctl (L.getD i 0) then true
  else if sylS (L.getD (i - 1) 0) (L.getD i 0) || mrk (L.getD i 0) then false
  else if (decide (1536 ≤ L.getD i 0) && decide (L.getD i 0 ≤ 1567)) && bnd L (i - 1) then false
  else if L.getD (i - 1) 0 == 7936 && pic (L.getD i 0) then !pik L (i - 1)
  else if flg (L.getD (i - 1) 0) && flg (L.getD i 0) then fls L (i - 1) % 2 == 0
  else true
/-- What the program has of a place. -/
structure Pl where
  l : Int
  r : Int
  b : Int
  f : Nat
  d : Bool
def mov (x : Pl) (n : Int) : Pl :=
  ⟨x.r, n, if mrk x.l then x.b else x.l, if flg x.r then x.f + 1 else 0, x.r == 1584 || x.r == 1585 && x.d⟩
def pl0 : Pl := ⟨-1, -1, -1, 0, false⟩
/-- The place ahead of point i. -/
def plc (L : List Int) : Nat → Pl
  | 0 => mov pl0 (L.getD 0 0)
  | i + 1 => mov (plc L i) (L.getD (i + 1) 0)
/-- The program's rules, in their order. -/
def decI (x : Pl) : Bool :=
  if x.l == 13 && x.r == 10 then false
  else if ctl x.l || ctl x.r then true
  else if sylI x.l x.r then false
  else if mrk x.r then false
  else if x.d && (decide (1536 ≤ x.r) && decide (x.r ≤ 1567)) then false
  else if pic x.b && x.l == 7936 && pic x.r then false
  else if x.f % 2 == 1 && flg x.r then false
  else true
theorem m1 : mrk (-1) = false := by decide +kernel
theorem plc_is (L : List Int) (i : Nat) : (plc L i).l = (if i = 0 then -1 else L.getD (i - 1) 0) ∧ (plc L i).r = L.getD i 0 := by
  cases i with
  | zero => exact ⟨rfl, rfl⟩
  | succ n =>
    have : (plc L n).r = L.getD n 0 := by cases n <;> rfl
    simp only [plc, mov, this]
    simp
theorem plc_st (L : List Int) (i : Nat) : pic (plc L (i + 1)).b = pik L i ∧ (plc L (i + 1)).f = fls L i ∧ (plc L (i + 1)).d = bnd L i := by
  induction i with
  | zero =>
    refine ⟨?_, ?_, ?_⟩
    · simp only [plc, mov, pl0, m1, pik]; decide
    · simp only [plc, mov, pl0, fls]
      have : flg (-1) = false := by decide
      simp [this]
    · simp only [plc, mov, pl0, bnd]
      simp
  | succ n ih =>
    obtain ⟨h1, h2, h3⟩ := ih
    have e := plc_is L (n + 1)
    simp only [Nat.succ_ne_zero, if_false, Nat.add_sub_cancel] at e
    refine ⟨?_, ?_, ?_⟩
    · show pic (mov (plc L (n + 1)) _).b = _
      simp only [mov, e.1, pik]
      split
      · exact h1
      · rfl
    · show (mov (plc L (n + 1)) _).f = _
      simp only [mov, e.2, fls, h2]
    · show (mov (plc L (n + 1)) _).d = _
      simp only [mov, e.2, bnd, h3]
      cases h : (L.getD (n + 1) 0 == 1585)
      · simp
      · have : L.getD (n + 1) 0 = 1585 := eq_of_beq h
        rw [this]; simp
theorem fls_flg (L : List Int) (k : Nat) (h : flg (L.getD k 0) = false) : fls L k = 0 := by
  cases k <;> (unfold fls; rw [h]; rfl)
theorem last_two (pk l7 pr fl fr : Bool) (n : Nat) (h1 : fl = false → n = 0) (h2 : pr = true → fr = false) :
    (if pk && l7 && pr then false else if n % 2 == 1 && fr then false else true) = (if l7 && pr then !pk else if fl && fr then n % 2 == 0 else true) := by
  rcases Nat.mod_two_eq_zero_or_one n with h | h <;> cases pk <;> cases l7 <;> cases pr <;> cases fl <;> cases fr <;> simp_all
theorem pic_not (p : Int) (h : pic p = true) : flg p = false := by
  simp only [pic, flg, Bool.and_eq_true, decide_eq_true_eq, Bool.and_eq_false_iff, decide_eq_false_iff_not] at h ⊢
  omega
theorem dec_eq (L : List Int) (i : Nat) : decI (plc L (i + 1)) = charS L (i + 1) := by
  obtain ⟨h1, h2, h3⟩ := plc_st L i
  obtain ⟨e1, e2⟩ := plc_is L (i + 1)
  simp only [Nat.succ_ne_zero, if_false, Nat.add_sub_cancel] at e1
  unfold decI charS
  rw [h1, h2, h3, e1, e2]
  simp only [Nat.add_sub_cancel]
  rw [syl_eq]
  rw [last_two _ _ _ (flg (L.getD i 0)) _ _ (fls_flg L i) (pic_not (L.getD (i + 1) 0))]
  cases (L.getD i 0 == 13 && L.getD (i + 1) 0 == 10) <;> cases (ctl (L.getD i 0) || ctl (L.getD (i + 1) 0)) <;> cases sylS (L.getD i 0) (L.getD (i + 1) 0) <;> cases mrk (L.getD (i + 1) 0) <;>
    cases (decide (1536 ≤ L.getD (i + 1) 0) && decide (L.getD (i + 1) 0 ≤ 1567)) <;> cases bnd L i <;> rfl
end Chr
end Go.Proofs.YtamigjljgepfiaaGreatDoor
/- The program's rows rise: the row of a number is found by halving. No Go in sight. -/
namespace Go.Proofs.YtamigjljgepfiaaGreatDoor
def F (m : Nat) : Int := (tab.getD m Z4).1
def L (m : Nat) : Int := (tab.getD m Z4).2.1
def C (m : Nat) : Int := (tab.getD m Z4).2.2.1
def S (m : Nat) : Int := (tab.getD m Z4).2.2.2
theorem tab_length : tab.length = 49 := by decide
theorem rise0 : ((List.range 49).all fun i => decide (F i ≤ L i) && ((List.range 49).all fun j => decide (j ≤ i) || decide (L i < F j))) = true := by decide +kernel
theorem rise (i j : Nat) (hi : i < 49) (hj : j < 49) (h : i < j) : L i < F j := by
  have := List.all_eq_true.1 rise0 i (by simpa using hi)
  simp only [Bool.and_eq_true] at this
  have := List.all_eq_true.1 this.2 j (by simpa using hj)
  simp only [Bool.or_eq_true, decide_eq_true_eq] at this
  omega
theorem rise1 (i : Nat) (hi : i < 49) : F i ≤ L i := by
  have := List.all_eq_true.1 rise0 i (by simpa using hi)
  simp only [Bool.and_eq_true, decide_eq_true_eq] at this
  exact this.1
theorem bd0 : ((List.range 49).all fun i => decide (0 ≤ F i) && decide (F i ≤ 65535) && decide (0 ≤ L i) && decide (L i ≤ 65535) && decide (0 ≤ C i) && decide (C i ≤ 255) && decide (0 ≤ S i) && decide (S i ≤ 255)) = true := by decide +kernel
theorem bd (i : Nat) (hi : i < 49) : 0 ≤ F i ∧ F i ≤ 65535 ∧ 0 ≤ L i ∧ L i ≤ 65535 ∧ 0 ≤ C i ∧ C i ≤ 255 ∧ 0 ≤ S i ∧ S i ≤ 255 := by
  have := List.all_eq_true.1 bd0 i (by simpa using hi)
  simp only [Bool.and_eq_true, decide_eq_true_eq] at this
  omega
def upTo (p : Int) (r : Int × Int × Int × Int) : Bool := decide (p ≤ r.2.1)
def idx (p : Int) : Nat := tab.findIdx (upTo p)
theorem idx_le (p : Int) : idx p ≤ 49 := by
  have := List.findIdx_le_length (xs := tab) (p := upTo p)
  rw [tab_length] at this; exact this
theorem get_tab (m : Nat) (h : m < tab.length) : tab[m] = tab.getD m Z4 := by simp [List.getD, h]
theorem lt_idx (p : Int) (m : Nat) (h : m < idx p) : L m < p := by
  have := List.not_of_lt_findIdx (xs := tab) (p := upTo p) h
  have hm : m < tab.length := by rw [tab_length]; have := idx_le p; omega
  rw [get_tab m hm] at this
  simp only [upTo, decide_eq_false_iff_not] at this
  unfold L; omega
theorem at_idx (p : Int) (h : idx p < 49) : p ≤ L (idx p) := by
  have hl : idx p < tab.length := by rw [tab_length]; exact h
  have := List.findIdx_getElem (xs := tab) (p := upTo p) (w := hl)
  simp only [upTo, decide_eq_true_eq] at this
  have e := get_tab (idx p) hl
  unfold L
  rw [← e]
  exact this
theorem ge_idx (p : Int) (m : Nat) (hm : m < 49) (h : idx p ≤ m) : p ≤ L m := by
  have h0 := at_idx p (by omega)
  by_cases e : idx p = m
  · rw [← e]; exact h0
  · have := rise (idx p) m (by omega) hm (by omega)
    have := rise1 m hm
    omega
theorem in_iff (p : Int) (m : Nat) : inRow p (tab.getD m Z4) = true ↔ F m ≤ p ∧ p ≤ L m := by
  unfold inRow F L; simp
theorem row_none (p : Int) (h : idx p = 49 ∨ p < F (idx p)) : rowOf p = Z4 := by
  unfold rowOf find
  have : tab.find? (inRow p) = none := by
    rw [List.find?_eq_none]
    intro r hr
    obtain ⟨m, hm, rfl⟩ := List.getElem_of_mem hr
    have hm' : m < 49 := by rw [tab_length] at hm; exact hm
    rw [get_tab m hm, in_iff]
    intro ⟨a, b⟩
    by_cases hlt : m < idx p
    · have := lt_idx p m hlt; omega
    · rcases h with h | h
      · omega
      · by_cases e : idx p = m
        · rw [e] at h; omega
        · have h1 := rise (idx p) m (by omega) hm' (by omega)
          have h2 := at_idx p (by omega)
          omega
  rw [this]; rfl
theorem row_some (p : Int) (h : idx p < 49) (hf : F (idx p) ≤ p) : rowOf p = (F (idx p), L (idx p), C (idx p), S (idx p)) := by
  unfold rowOf find
  have hl : idx p < tab.length := by rw [tab_length]; exact h
  have : tab.find? (inRow p) = some (tab.getD (idx p) Z4) := by
    rw [List.find?_eq_some_iff_getElem]
    refine ⟨(in_iff p _).2 ⟨hf, at_idx p h⟩, idx p, hl, get_tab _ hl, ?_⟩
    intro j hj
    have hjl : j < tab.length := by omega
    rw [get_tab j hjl]
    have := lt_idx p j hj
    cases hh : inRow p (tab.getD j Z4)
    · rfl
    · have := (in_iff p j).1 hh; omega
  rw [this]; rfl
theorem find_nil (l : List (Int × Int × Int × Int)) (p : Int) (h : ∀ i, i < l.length → ¬ ((l.getD i Z4).1 ≤ p ∧ p ≤ (l.getD i Z4).2.1)) : find l p = Z4 := by
  unfold find
  have : l.find? (inRow p) = none := by
    rw [List.find?_eq_none]
    intro r hr
    obtain ⟨m, hm, rfl⟩ := List.getElem_of_mem hr
    have := h m hm
    have e : l.getD m Z4 = l[m] := by simp [List.getD, hm]
    rw [e] at this
    simpa [inRow] using this
  rw [this]; rfl
theorem find_at (l : List (Int × Int × Int × Int)) (p : Int) (k : Nat) (hk : k < l.length) (h : ∀ i, i < k → ¬ ((l.getD i Z4).1 ≤ p ∧ p ≤ (l.getD i Z4).2.1)) (h1 : (l.getD k Z4).1 ≤ p) (h2 : p ≤ (l.getD k Z4).2.1) : find l p = l.getD k Z4 := by
  unfold find
  have e : l.getD k Z4 = l[k] := by simp [List.getD, hk]
  have : l.find? (inRow p) = some (l.getD k Z4) := by
    rw [List.find?_eq_some_iff_getElem]
    refine ⟨by unfold inRow; simp only [Bool.and_eq_true, decide_eq_true_eq]; exact ⟨h1, h2⟩, k, hk, e.symm, ?_⟩
    intro j hj
    have hjl : j < l.length := by omega
    have := h j hj
    have ej : l.getD j Z4 = l[j] := by simp [List.getD, hjl]
    rw [ej] at this
    cases hh : inRow p l[j]
    · rfl
    · unfold inRow at hh; simp only [Bool.and_eq_true, decide_eq_true_eq] at hh; exact absurd hh this
  rw [this]; rfl
end Go.Proofs.YtamigjljgepfiaaGreatDoor
/- The program's rowOf and twinOf answer as the plain numbers say, wherever the table lies as its text lays it. -/
namespace Go.Proofs.YtamigjljgepfiaaGreatDoor
open Go.RowKit
/-- The table lies in the first block: a row is two numbers of 16 bits and two of 8. -/
def TabAt (w : World) : Prop := 2 < w.heap.size ∧ ∀ m : Nat, m < 49 →
  w.cell? ⟨2, m * 4, none⟩ = some (.int .u16 (F m)) ∧ w.cell? ⟨2, m * 4 + 1, none⟩ = some (.int .u16 (L m)) ∧
  w.cell? ⟨2, m * 4 + 2, none⟩ = some (.int .u8 (C m)) ∧ w.cell? ⟨2, m * 4 + 3, none⟩ = some (.int .u8 (S m))
theorem TabAt.below {w w' : World} (h : TabAt w) (hb : Below w.heap.size w w') : TabAt w' := by
  refine ⟨Nat.lt_of_lt_of_le h.1 hb.size, fun m hm => ?_⟩
  have := h.2 m hm
  refine ⟨?_, ?_, ?_, ?_⟩
  · rw [hb.cell (p := ⟨2, m * 4, none⟩) h.1]; exact this.1
  · rw [hb.cell (p := ⟨2, m * 4 + 1, none⟩) h.1]; exact this.2.1
  · rw [hb.cell (p := ⟨2, m * 4 + 2, none⟩) h.1]; exact this.2.2.1
  · rw [hb.cell (p := ⟨2, m * 4 + 3, none⟩) h.1]; exact this.2.2.2
theorem TabAt.alloc {w : World} (h : TabAt w) (o : Obj) : TabAt (w.alloc o) :=
  h.below ((Below.refl _ _).alloc (Nat.le_refl _) o)

set_option maxRecDepth 100000 in
theorem twin_any (p : Int) (w : World) : Calls Tryz.prog 33 #[.int .i64 p] w fun e w' => e = .returned (.int .i64 (twin p)) ∧ w' = w := by
  by_cases h1 : 768 ≤ p
  · by_cases h2 : p < 1280
    · go_enter Tryz.func33, Tryz.ntmps33
      go_wp2
      go_ret
      exact ⟨ret_int (by unfold twin; rw [if_pos ⟨h1, h2⟩]), rfl⟩
    · go_enter Tryz.func33, Tryz.ntmps33
      go_wp2
      go_ret
      exact ⟨ret_int (by unfold twin; rw [if_neg (by omega)]), rfl⟩
  · go_enter Tryz.func33, Tryz.ntmps33
    go_wp2
    go_ret
    exact ⟨ret_int (by unfold twin; rw [if_neg (by omega)]), rfl⟩

theorem wrap_u16 (n : Int) (h0 : 0 ≤ n) (h1 : n ≤ 65535) : wrap64 n = n := by unfold wrap64; omega
set_option maxRecDepth 100000 in
set_option maxHeartbeats 1000000 in
theorem rowOf_ex (p : Int) (w : World) (ht : TabAt w) : Calls Tryz.prog 121 #[.int .i64 p] w fun e w' =>
    e = .returned (.agg #[.int .u16 (rowOf p).1, .int .u16 (rowOf p).2.1, .int .u8 (rowOf p).2.2.1, .int .u8 (rowOf p).2.2.2]) ∧ ∃ o, w' = w.alloc o := by
  have hix := idx_le p
  have H := hide ht
  have hpos := ht.1
  clear ht
  go_enter Tryz.func121, Tryz.ntmps121
  go_wp2
  go_loop [3, 4] (fun l h => ∃ a b : Nat, a ≤ idx p ∧ idx p ≤ b ∧ b ≤ 49 ∧ l = .int .i64 a ∧ h = .int .i64 b) (fun l h => (intOf h).toNat - (intOf l).toNat)
  case atStart => exact ⟨0, 49, by omega, by omega, by omega, rfl, rfl⟩
  case round =>
    obtain ⟨a, b, ha, hb, hb49, rfl, rfl⟩ := hrel
    by_cases hlt : a < b
    · have hm : (a + b) / 2 < 49 := by omega
      have hcell := ((unhide H).2 ((a + b) / 2) hm).2.1
      have hbd := bd ((a + b) / 2) hm
      have hw64 := wrap_u16 (L ((a + b) / 2)) hbd.2.2.1 hbd.2.2.2.1
      clear hbd
      by_cases hc : L ((a + b) / 2) < p
      · have hi : (a + b) / 2 < idx p := by
          by_cases hh : (a + b) / 2 < idx p
          · exact hh
          · have := ge_idx p _ hm (by omega); omega
        go_wp2
        go_round
        case rel => exact ⟨(a + b) / 2 + 1, b, by omega, hb, hb49, by go_num, rfl⟩
        case measure => simp [intOf]; omega
      · have hi : idx p ≤ (a + b) / 2 := by
          by_cases hh : (a + b) / 2 < idx p
          · have := lt_idx p _ hh; omega
          · omega
        go_wp2
        go_round
        case rel => exact ⟨a, (a + b) / 2, ha, hi, by omega, rfl, by go_num⟩
        case measure => simp [intOf]; omega
    · have hai : a = idx p := by omega
      by_cases h49 : a = 49
      · have HR := hide (row_none p (.inl (by omega)))
        clear hai ha hb
        subst h49
        go_wp2
        exact bodyPost_ret (v := .agg #[.int .u16 0, .int .u16 0, .int .u8 0, .int .u8 0]) (by simp [results, Tryz.results121, go_sem]) rfl
          ⟨by rw [unhide HR]; rfl, _, rfl⟩
      · have h49' : ((a : Int) == 49) = false := by simp; omega
        have ha49 : a < 49 := by omega
        have hcell := (unhide H).2 a ha49
        obtain ⟨k0, k1, k2, k3⟩ := hcell
        have hbd := bd a (by omega)
        have hw64 := wrap_u16 (F a) hbd.1 hbd.2.1
        clear hbd
        by_cases hF : p < F a
        · have HR := hide (row_none p (.inr (by rw [← hai]; exact hF)))
          clear hai ha hb h49
          go_wp2
          exact bodyPost_ret (v := .agg #[.int .u16 0, .int .u16 0, .int .u8 0, .int .u8 0]) (by simp [results, Tryz.results121, go_sem]) rfl
            ⟨by rw [unhide HR]; rfl, _, rfl⟩
        · have HR := hide (row_some p (by omega) (by rw [← hai]; omega))
          rw [← hai] at HR
          clear hai ha hb h49
          go_wp2
          exact bodyPost_ret (v := .agg #[.int .u16 (F a), .int .u16 (L a), .int .u8 (C a), .int .u8 (S a)]) (by simp [results, Tryz.results121, go_sem]) rfl
            ⟨by rw [unhide HR], _, rfl⟩
theorem below_ex {w w' : World} (h : ∃ o, w' = w.alloc o) : Below w.heap.size w w' := by obtain ⟨o, rfl⟩ := h; exact (Below.refl _ _).alloc (Nat.le_refl _) _
theorem rowOf_any (p : Int) (w : World) (ht : TabAt w) : Calls Tryz.prog 121 #[.int .i64 p] w fun e w' =>
    e = .returned (.agg #[.int .u16 (rowOf p).1, .int .u16 (rowOf p).2.1, .int .u8 (rowOf p).2.2.1, .int .u8 (rowOf p).2.2.2]) ∧ Below w.heap.size w w' :=
  (rowOf_ex p w ht).mono fun _ _ h => ⟨h.1, below_ex h.2⟩
end Go.Proofs.YtamigjljgepfiaaGreatDoor
/- The specification's l01Known answers as the plain numbers say. -/
namespace Go.Proofs.YtamigjljgepfiaaGreatDoor
open Go.RowKit
def gA (l : List (Int × Int × Int × Int)) (i : Nat) : Int := (l.getD i Z4).1
def gB (l : List (Int × Int × Int × Int)) (i : Nat) : Int := (l.getD i Z4).2.1
def gC (l : List (Int × Int × Int × Int)) (i : Nat) : Int := (l.getD i Z4).2.2.1
def gD (l : List (Int × Int × Int × Int)) (i : Nat) : Int := (l.getD i Z4).2.2.2
/-- A slice of rows in a block of its own: four numbers a row. -/
def RowsAt (w : World) (b : Nat) (l : List (Int × Int × Int × Int)) : Prop := ∀ i : Nat, i < l.length →
  w.cell? ⟨b, i * 4, none⟩ = some (.int .i64 (gA l i)) ∧ w.cell? ⟨b, i * 4 + 1, none⟩ = some (.int .i64 (gB l i)) ∧
  w.cell? ⟨b, i * 4 + 2, none⟩ = some (.int .i64 (gC l i)) ∧ w.cell? ⟨b, i * 4 + 3, none⟩ = some (.int .i64 (gD l i))
def flat : List (Int × Int × Int × Int) → List Value
  | [] => []
  | (a, b, c, d) :: r => .int .i64 a :: .int .i64 b :: .int .i64 c :: .int .i64 d :: flat r
theorem flat_get : ∀ (l : List (Int × Int × Int × Int)) (i : Nat), i < l.length →
    (flat l)[i * 4]? = some (.int .i64 (gA l i)) ∧ (flat l)[i * 4 + 1]? = some (.int .i64 (gB l i)) ∧
    (flat l)[i * 4 + 2]? = some (.int .i64 (gC l i)) ∧ (flat l)[i * 4 + 3]? = some (.int .i64 (gD l i))
  | (a, b, c, d) :: r, 0, _ => by simp [flat, gA, gB, gC, gD]
  | (a, b, c, d) :: r, i + 1, h => by
    have := flat_get r i (by simpa using h)
    have e0 : (i + 1) * 4 = i * 4 + 4 := by omega
    rw [e0]
    simpa [flat, gA, gB, gC, gD] using this
theorem rowsAt_alloc (w : World) (l : List (Int × Int × Int × Int)) (t : TypeId) : RowsAt (w.alloc (.cells (flat l).toArray t)) w.heap.size l := by
  intro i hi
  have := flat_get l i hi
  simpa using this
set_option maxHeartbeats 400000 in
theorem cased_any (w : World) : Calls Tryz.prog 119 #[] w fun e w' => e = .returned (.slice (some ⟨w.heap.size, 0, none⟩) 7 7) ∧ Below w.heap.size w w' ∧ w.heap.size < w'.heap.size ∧ RowsAt w' w.heap.size csd ∧ ∃ c, w'.heap[w.heap.size]? = some (.cells c 122 (0, 0)) := by
  go_enter Tryz.func119, Tryz.ntmps119
  go_wp2
  go_ret
  exact ⟨rfl, (Below.refl _ _).alloc (Nat.le_refl _) _, by simp, rowsAt_alloc w csd _, _, heap_alloc_new _ _⟩
set_option maxHeartbeats 1000000 in
theorem rows_any (w : World) : Calls Tryz.prog 120 #[] w fun e w' => e = .returned (.slice (some ⟨w.heap.size, 0, none⟩) 32 32) ∧ Below w.heap.size w w' ∧ w.heap.size < w'.heap.size ∧ RowsAt w' w.heap.size spc ∧ ∃ c, w'.heap[w.heap.size]? = some (.cells c 122 (0, 0)) := by
  go_enter Tryz.func120, Tryz.ntmps120
  go_wp2_with (refine Great.wpList_buildSliceTo rfl 119 122 32 _ rfl _ rfl _ rfl Tryz.underlying119 (flat spc).toArray (by kernel_rfl) ?_)
  go_ret
  exact ⟨rfl, (Below.refl _ _).alloc (Nat.le_refl _) _, by simp, rowsAt_alloc w spc _, _, heap_alloc_new _ _⟩
end Go.Proofs.YtamigjljgepfiaaGreatDoor
/- The specification's l01Known answers as the plain numbers say. -/
namespace Go.Proofs.YtamigjljgepfiaaGreatDoor
open Go.RowKit
theorem csd_length : csd.length = 7 := by decide
theorem spc_length : spc.length = 32 := by decide
theorem csd_cat0 : ((List.range 7).all fun i => decide (gC csd i ≠ 0)) = true := by decide +kernel
theorem csd_cat (i : Nat) (h : i < 7) : gC csd i ≠ 0 := by
  have := List.all_eq_true.1 csd_cat0 i (by simpa using h)
  simpa using this
/-- None of the first k rows has q. -/
def NoneOf (l : List (Int × Int × Int × Int)) (q : Int) (k : Nat) : Prop := ∀ i, i < k → ¬ (gA l i ≤ q ∧ q ≤ gB l i)
theorem NoneOf.succ {l : List (Int × Int × Int × Int)} {q : Int} {k : Nat} (h : NoneOf l q k) (hk : ¬ (gA l k ≤ q ∧ q ≤ gB l k)) : NoneOf l q (k + 1) := by
  intro i hi
  by_cases e : i = k
  · subst e; exact hk
  · exact h i (by omega)
theorem NoneOf.nil {l : List (Int × Int × Int × Int)} {q : Int} (h : NoneOf l q l.length) : find l q = Z4 := find_nil l q h
theorem NoneOf.at {l : List (Int × Int × Int × Int)} {q : Int} {k : Nat} (h : NoneOf l q k) (hk : k < l.length) (h1 : gA l k ≤ q) (h2 : q ≤ gB l k) : (find l q).2.2.1 = gC l k ∧ (find l q).2.2.2 = gD l k := by
  rw [find_at l q k hk h h1 h2]; exact ⟨rfl, rfl⟩
theorem known_cased (p : Int) (h1 : 512 ≤ p) (h2 : p < 1280) : known p = if (find csd (p % 256)).2.2.1 = 0 then (0, 0) else ((find csd (p % 256)).2.2.1, p / 256) := by
  unfold known; rw [if_pos ⟨h1, h2⟩]
theorem known_main (p : Int) (h1 : ¬ (512 ≤ p ∧ p < 1280)) (h2 : ¬ (8192 ≤ p ∧ p < 9728)) : known p = ((find spc p).2.2.1, (find spc p).2.2.2) := by
  unfold known; rw [if_neg h1, if_neg h2]
theorem ret_two {a b c d : Int} (h1 : a = c) (h2 : b = d) : Ending.returned (.tuple #[.int .i64 a, .int .i64 b]) = .returned (.tuple #[.int .i64 c, .int .i64 d]) := by rw [h1, h2]
set_option maxHeartbeats 1000000 in
theorem known_A (p : Int) (w : World) (h1 : 512 ≤ p) (h2 : p < 1280) : Calls Tryz.prog 112 #[.int .i64 p] w fun e w' =>
    e = .returned (.tuple #[.int .i64 (known p).1, .int .i64 (known p).2]) ∧ Below w.heap.size w w' := by
  go_enter Tryz.func112, Tryz.ntmps112
  go_wp2_with (go_at_call 119; refine (cased_any _).mono ?_; rintro e w' ⟨rfl, hb, hs, hr, _⟩)
  have HB := hide hb
  have HR := hide hr
  clear hb hr
  go_loop [5] (fun i => ∃ k : Nat, k ≤ 7 ∧ i = .int .i64 k ∧ Hid (NoneOf csd (p % 256) k)) (fun i => 7 - (intOf i).toNat)
  case atStart => exact ⟨0, by omega, rfl, hide (fun i hi => by omega)⟩
  case round =>
    obtain ⟨k, hk, rfl, HN⟩ := hrel
    by_cases hlt : k < 7
    · obtain ⟨k0, k1, k2, _⟩ := (unhide HR) k (by rw [csd_length]; exact hlt)
      by_cases t1 : gA csd k ≤ p % 256
      · by_cases t2 : p % 256 ≤ gB csd k
        · have HE := hide ((unhide HN).at (by rw [csd_length]; exact hlt) t1 t2).1
          go_wp2
          go_ret2
          have e := unhide HE
          have n := csd_cat k hlt
          exact ⟨ret_two (by rw [known_cased p h1 h2, e, if_neg n]) (by rw [known_cased p h1 h2, e, if_neg n]), unhide HB⟩
        · have HN' := hide ((unhide HN).succ (k := k) (by omega))
          clear HN
          go_wp2
          go_round
          case rel => exact ⟨k + 1, by omega, by go_num, HN'⟩
          case measure => simp [intOf]; omega
      · have HN' := hide ((unhide HN).succ (k := k) (by omega))
        clear HN
        go_wp2
        go_round
        case rel => exact ⟨k + 1, by omega, by go_num, HN'⟩
        case measure => simp [intOf]; omega
    · obtain rfl : k = 7 := by omega
      have HE := hide (NoneOf.nil (l := csd) (by rw [csd_length]; exact unhide HN))
      go_wp2
      go_ret2
      have e := unhide HE
      exact ⟨ret_two (by rw [known_cased p h1 h2, e]; rfl) (by rw [known_cased p h1 h2, e]; rfl), unhide HB⟩
set_option maxHeartbeats 400000 in
theorem known_B (p : Int) (w : World) (h1 : 8192 ≤ p) (h2 : p < 9728) : Calls Tryz.prog 112 #[.int .i64 p] w fun e w' =>
    e = .returned (.tuple #[.int .i64 (known p).1, .int .i64 (known p).2]) ∧ Below w.heap.size w w' := by
  have hk : known p = if 416 ≤ p % 512 then (0, 0) else if p % 512 < 208 then (4, 1) else (5, 1) := by
    unfold known; rw [if_neg (by omega), if_pos ⟨h1, h2⟩]
  have HK := hide hk
  clear hk
  have n1 : 512 ≤ p := by omega
  have n2 : ¬ p < 1280 := by omega
  by_cases c1 : 416 ≤ p % 512
  · go_enter Tryz.func112, Tryz.ntmps112
    go_wp2
    go_ret2
    exact ⟨ret_two (by rw [unhide HK, if_pos c1]) (by rw [unhide HK, if_pos c1]), Below.refl _ _⟩
  · by_cases c2 : p % 512 < 208
    · go_enter Tryz.func112, Tryz.ntmps112
      go_wp2
      go_ret2
      exact ⟨ret_two (by rw [unhide HK, if_neg (by omega), if_pos c2]) (by rw [unhide HK, if_neg (by omega), if_pos c2]), Below.refl _ _⟩
    · go_enter Tryz.func112, Tryz.ntmps112
      go_wp2
      go_ret2
      exact ⟨ret_two (by rw [unhide HK, if_neg (by omega), if_neg (by omega)]) (by rw [unhide HK, if_neg (by omega), if_neg (by omega)]), Below.refl _ _⟩
set_option maxHeartbeats 1000000 in
theorem known_C1 (p : Int) (w : World) (h1 : p < 512) : Calls Tryz.prog 112 #[.int .i64 p] w fun e w' =>
    e = .returned (.tuple #[.int .i64 (known p).1, .int .i64 (known p).2]) ∧ Below w.heap.size w w' := by
  have HK := hide (known_main p (by omega) (by omega))
  go_enter Tryz.func112, Tryz.ntmps112
  go_wp2_with (go_at_call 120; refine (rows_any _).mono ?_; rintro e w' ⟨rfl, hb, hs, hr, _⟩)
  have HB := hide hb
  have HR := hide hr
  clear hb hr
  go_loop [8] (fun i => ∃ k : Nat, k ≤ 32 ∧ i = .int .i64 k ∧ Hid (NoneOf spc p k)) (fun i => 32 - (intOf i).toNat)
  case atStart => exact ⟨0, by omega, rfl, hide (fun i hi => by omega)⟩
  case round =>
    obtain ⟨k, hk, rfl, HN⟩ := hrel
    by_cases hlt : k < 32
    · obtain ⟨k0, k1, k2, k3⟩ := (unhide HR) k (by rw [spc_length]; exact hlt)
      by_cases t1 : gA spc k ≤ p
      · by_cases t2 : p ≤ gB spc k
        · have HE := hide ((unhide HN).at (by rw [spc_length]; exact hlt) t1 t2)
          go_wp2
          go_quiet (fail)
          go_wp2
          go_ret2
          have e := unhide HE
          exact ⟨ret_two (by rw [unhide HK]; exact e.1.symm) (by rw [unhide HK]; exact e.2.symm), bdrew (unhide HB) _⟩
        · have HN' := hide ((unhide HN).succ (k := k) (by omega))
          clear HN
          go_wp2
          go_round
          case rel => exact ⟨k + 1, by omega, by go_num, HN'⟩
          case measure => simp [intOf]; omega
      · have HN' := hide ((unhide HN).succ (k := k) (by omega))
        clear HN
        go_wp2
        go_round
        case rel => exact ⟨k + 1, by omega, by go_num, HN'⟩
        case measure => simp [intOf]; omega
    · obtain rfl : k = 32 := by omega
      have HE := hide (NoneOf.nil (l := spc) (by rw [spc_length]; exact unhide HN))
      go_wp2
      go_ret2
      have e := unhide HE
      exact ⟨ret_two (by rw [unhide HK, e]; rfl) (by rw [unhide HK, e]; rfl), unhide HB⟩
set_option maxHeartbeats 1000000 in
theorem known_C2 (p : Int) (w : World) (h1 : 1280 ≤ p) (h2 : p < 8192) : Calls Tryz.prog 112 #[.int .i64 p] w fun e w' =>
    e = .returned (.tuple #[.int .i64 (known p).1, .int .i64 (known p).2]) ∧ Below w.heap.size w w' := by
  have n1 : 512 ≤ p := by omega
  have HK := hide (known_main p (by omega) (by omega))
  go_enter Tryz.func112, Tryz.ntmps112
  go_wp2_with (go_at_call 120; refine (rows_any _).mono ?_; rintro e w' ⟨rfl, hb, hs, hr, _⟩)
  have HB := hide hb
  have HR := hide hr
  clear hb hr
  go_loop [8] (fun i => ∃ k : Nat, k ≤ 32 ∧ i = .int .i64 k ∧ Hid (NoneOf spc p k)) (fun i => 32 - (intOf i).toNat)
  case atStart => exact ⟨0, by omega, rfl, hide (fun i hi => by omega)⟩
  case round =>
    obtain ⟨k, hk, rfl, HN⟩ := hrel
    by_cases hlt : k < 32
    · obtain ⟨k0, k1, k2, k3⟩ := (unhide HR) k (by rw [spc_length]; exact hlt)
      by_cases t1 : gA spc k ≤ p
      · by_cases t2 : p ≤ gB spc k
        · have HE := hide ((unhide HN).at (by rw [spc_length]; exact hlt) t1 t2)
          go_wp2
          go_quiet (fail)
          go_wp2
          go_ret2
          have e := unhide HE
          exact ⟨ret_two (by rw [unhide HK]; exact e.1.symm) (by rw [unhide HK]; exact e.2.symm), bdrew (unhide HB) _⟩
        · have HN' := hide ((unhide HN).succ (k := k) (by omega))
          clear HN
          go_wp2
          go_round
          case rel => exact ⟨k + 1, by omega, by go_num, HN'⟩
          case measure => simp [intOf]; omega
      · have HN' := hide ((unhide HN).succ (k := k) (by omega))
        clear HN
        go_wp2
        go_round
        case rel => exact ⟨k + 1, by omega, by go_num, HN'⟩
        case measure => simp [intOf]; omega
    · obtain rfl : k = 32 := by omega
      have HE := hide (NoneOf.nil (l := spc) (by rw [spc_length]; exact unhide HN))
      go_wp2
      go_ret2
      have e := unhide HE
      exact ⟨ret_two (by rw [unhide HK, e]; rfl) (by rw [unhide HK, e]; rfl), unhide HB⟩
set_option maxHeartbeats 1000000 in
theorem known_C3 (p : Int) (w : World) (h1 : 9728 ≤ p) : Calls Tryz.prog 112 #[.int .i64 p] w fun e w' =>
    e = .returned (.tuple #[.int .i64 (known p).1, .int .i64 (known p).2]) ∧ Below w.heap.size w w' := by
  have n1 : 512 ≤ p := by omega
  have n2 : 1280 ≤ p := by omega
  have n3 : 8192 ≤ p := by omega
  have HK := hide (known_main p (by omega) (by omega))
  go_enter Tryz.func112, Tryz.ntmps112
  go_wp2_with (go_at_call 120; refine (rows_any _).mono ?_; rintro e w' ⟨rfl, hb, hs, hr, _⟩)
  have HB := hide hb
  have HR := hide hr
  clear hb hr
  go_loop [8] (fun i => ∃ k : Nat, k ≤ 32 ∧ i = .int .i64 k ∧ Hid (NoneOf spc p k)) (fun i => 32 - (intOf i).toNat)
  case atStart => exact ⟨0, by omega, rfl, hide (fun i hi => by omega)⟩
  case round =>
    obtain ⟨k, hk, rfl, HN⟩ := hrel
    by_cases hlt : k < 32
    · obtain ⟨k0, k1, k2, k3⟩ := (unhide HR) k (by rw [spc_length]; exact hlt)
      by_cases t1 : gA spc k ≤ p
      · by_cases t2 : p ≤ gB spc k
        · have HE := hide ((unhide HN).at (by rw [spc_length]; exact hlt) t1 t2)
          go_wp2
          go_quiet (fail)
          go_wp2
          go_ret2
          have e := unhide HE
          exact ⟨ret_two (by rw [unhide HK]; exact e.1.symm) (by rw [unhide HK]; exact e.2.symm), bdrew (unhide HB) _⟩
        · have HN' := hide ((unhide HN).succ (k := k) (by omega))
          clear HN
          go_wp2
          go_round
          case rel => exact ⟨k + 1, by omega, by go_num, HN'⟩
          case measure => simp [intOf]; omega
      · have HN' := hide ((unhide HN).succ (k := k) (by omega))
        clear HN
        go_wp2
        go_round
        case rel => exact ⟨k + 1, by omega, by go_num, HN'⟩
        case measure => simp [intOf]; omega
    · obtain rfl : k = 32 := by omega
      have HE := hide (NoneOf.nil (l := spc) (by rw [spc_length]; exact unhide HN))
      go_wp2
      go_ret2
      have e := unhide HE
      exact ⟨ret_two (by rw [unhide HK, e]; rfl) (by rw [unhide HK, e]; rfl), unhide HB⟩
theorem known_any (p : Int) (w : World) : Calls Tryz.prog 112 #[.int .i64 p] w fun e w' =>
    e = .returned (.tuple #[.int .i64 (known p).1, .int .i64 (known p).2]) ∧ Below w.heap.size w w' := by
  by_cases h1 : p < 512
  · exact known_C1 p w h1
  by_cases h2 : p < 1280
  · exact known_A p w (by omega) h2
  by_cases h3 : p < 8192
  · exact known_C2 p w (by omega) h3
  by_cases h4 : p < 9728
  · exact known_B p w (by omega) h4
  exact known_C3 p w (by omega)
end Go.Proofs.YtamigjljgepfiaaGreatDoor
/- Category and Script of the program and of the specification answer as the plain numbers say. -/
namespace Go.Proofs.YtamigjljgepfiaaGreatDoor
open Go.RowKit
theorem row_bd (p : Int) : 0 ≤ (rowOf p).1 ∧ (rowOf p).1 ≤ 65535 ∧ 0 ≤ (rowOf p).2.2.1 ∧ (rowOf p).2.2.1 ≤ 255 ∧ 0 ≤ (rowOf p).2.2.2 ∧ (rowOf p).2.2.2 ≤ 255 := by
  by_cases h : idx p = 49 ∨ p < F (idx p)
  · rw [row_none p h]; decide
  · have hi : idx p < 49 := by have := idx_le p; omega
    rw [row_some p hi (by omega)]
    have := bd (idx p) hi
    exact ⟨this.1, this.2.1, this.2.2.2.2.1, this.2.2.2.2.2.1, this.2.2.2.2.2.2.1, this.2.2.2.2.2.2.2⟩
theorem twin_bd (p : Int) : 0 ≤ p - twin p ∧ p - twin p ≤ 512 ∧ (p - twin p = 0 ∨ 768 ≤ p) := by
  unfold twin; split <;> omega
def rowC (p : Int) : Int := (rowOf p).2.2.1
def rowS (p : Int) : Int := (rowOf p).2.2.2
def rowF (p : Int) : Int := (rowOf p).1
theorem row_any (p : Int) (w : World) (ht : TabAt w) : Calls Tryz.prog 121 #[.int .i64 p] w fun e w' =>
    e = .returned (.agg #[.int .u16 (rowF p), .int .u16 (rowOf p).2.1, .int .u8 (rowC p), .int .u8 (rowS p)]) ∧ Below w.heap.size w w' := rowOf_any p w ht
theorem wrap_small (n : Int) (h0 : 0 ≤ n) (h1 : n ≤ 65535) : wrap64 n = n := by unfold wrap64; omega
theorem field2 (x y z t : Int) (w : World) : (Instr.field 125 (.agg #[.int .u16 x, .int .u16 y, .int .u8 z, .int .u8 t]) 2).run Tryz.prog w = .ok (.int .u8 z) w := by kernel_rfl
theorem field3 (x y z t : Int) (w : World) : (Instr.field 125 (.agg #[.int .u16 x, .int .u16 y, .int .u8 z, .int .u8 t]) 3).run Tryz.prog w = .ok (.int .u8 t) w := by kernel_rfl
set_option maxRecDepth 100000 in
theorem specCat (p : Int) (w : World) : Calls Tryz.prog 90 #[.int .i64 p] w fun e w' => e = .returned (.int .i64 (known p).1) ∧ Below w.heap.size w w' := by
  go_enter Tryz.func90, Tryz.ntmps90
  go_wp2_with (go_at_call 112; refine (known_any p _).mono ?_; rintro e w' ⟨rfl, hb⟩)
  go_ret
  exact ⟨rfl, hb⟩
theorem row_ex (p : Int) (w : World) (ht : TabAt w) : Calls Tryz.prog 121 #[.int .i64 p] w fun e w' =>
    e = .returned (.agg #[.int .u16 (rowF p), .int .u16 (rowOf p).2.1, .int .u8 (rowC p), .int .u8 (rowS p)]) ∧ ∃ o, w' = w.alloc o := rowOf_ex p w ht
set_option maxRecDepth 100000 in
theorem implCat_ex (p : Int) (w : World) (ht : TabAt w) : Calls Tryz.prog 117 #[.int .i64 p] w fun e w' => e = .returned (.int .i64 (catI p)) ∧ ∃ o, w' = w.alloc o := by
  have hbd := row_bd (twin p)
  have hw := wrap_small (rowC (twin p)) hbd.2.2.1 (by have : rowC (twin p) = (rowOf (twin p)).2.2.1 := rfl; omega)
  clear hbd
  have HW := hide hw
  clear hw
  have H := hide ht
  clear ht
  have f2 := field2
  go_enter Tryz.func117, Tryz.ntmps117
  go_wp2_with (first | (go_at_call 33; refine (twin_any p _).mono ?_; rintro e w' ⟨rfl, rfl⟩) | (go_at_call 121; refine (row_ex (twin p) _ (unhide H)).mono ?_; rintro e w' ⟨rfl, o, rfl⟩))
  go_ret
  exact ⟨ret_int (unhide HW), _, rfl⟩
set_option maxRecDepth 100000 in
theorem implCat (p : Int) (w : World) (ht : TabAt w) : Calls Tryz.prog 117 #[.int .i64 p] w fun e w' => e = .returned (.int .i64 (catI p)) ∧ Below w.heap.size w w' := by
  have hbd := row_bd (twin p)
  have hw := wrap_small (rowC (twin p)) hbd.2.2.1 (by have : rowC (twin p) = (rowOf (twin p)).2.2.1 := rfl; omega)
  clear hbd
  have HW := hide hw
  clear hw
  have H := hide ht
  clear ht
  have f2 := field2
  go_enter Tryz.func117, Tryz.ntmps117
  go_wp2_with (first | (go_at_call 33; refine (twin_any p _).mono ?_; rintro e w' ⟨rfl, rfl⟩) | (go_at_call 121; refine (row_any (twin p) _ (unhide H)).mono ?_; rintro e w' ⟨rfl, hb⟩))
  go_ret
  exact ⟨ret_int (unhide HW), hb⟩
end Go.Proofs.YtamigjljgepfiaaGreatDoor
/- The classes of points that cuts of characters ask for, as the program tells them; a place and what it is moved to. -/
namespace Go.Proofs.YtamigjljgepfiaaGreatDoor
namespace Chr
open Go.RowKit
theorem ret_bool {x y : Bool} (h : x = y) : (Ending.returned (.bool x) : Ending) = .returned (.bool y) := by rw [h]
set_option maxRecDepth 100000 in
theorem cw_any (p a b : Int) (w : World) : Calls Tryz.prog 14 #[.int .i64 p, .int .i64 a, .int .i64 b] w fun e w' => e = .returned (.bool (decide (a ≤ p) && decide (p ≤ b))) ∧ w' = w := by
  by_cases h1 : a ≤ p
  · by_cases h2 : p ≤ b
    · go_enter Tryz.func14, Tryz.ntmps14
      go_wp2
      go_ret
      exact ⟨ret_bool (x := true) (by simp [h1, h2]), rfl⟩
    · go_enter Tryz.func14, Tryz.ntmps14
      go_wp2
      go_ret
      exact ⟨ret_bool (x := false) (by simp [h2]), rfl⟩
  · go_enter Tryz.func14, Tryz.ntmps14
    go_wp2
    go_ret
    exact ⟨ret_bool (x := false) (by simp; omega), rfl⟩
set_option maxRecDepth 100000 in
theorem isFlag_any (p : Int) (w : World) : Calls Tryz.prog 100 #[.int .i64 p] w fun e w' => e = .returned (.bool (flg p)) ∧ w' = w := by
  go_enter Tryz.func100, Tryz.ntmps100
  go_wp2_with (go_at_call 14; refine (cw_any _ _ _ _).mono ?_; rintro e w' ⟨rfl, rfl⟩)
  go_ret
  exact ⟨rfl, rfl⟩
set_option maxRecDepth 100000 in
theorem isPicture_any (p : Int) (w : World) : Calls Tryz.prog 116 #[.int .i64 p] w fun e w' => e = .returned (.bool (pic p)) ∧ w' = w := by
  go_enter Tryz.func116, Tryz.ntmps116
  go_wp2_with (go_at_call 14; refine (cw_any _ _ _ _).mono ?_; rintro e w' ⟨rfl, rfl⟩)
  go_ret
  exact ⟨rfl, rfl⟩
set_option maxRecDepth 100000 in
theorem isLead_any (p : Int) (w : World) : Calls Tryz.prog 110 #[.int .i64 p] w fun e w' => e = .returned (.bool (led p)) ∧ w' = w := by
  go_enter Tryz.func110, Tryz.ntmps110
  go_wp2_with (go_at_call 14; refine (cw_any _ _ _ _).mono ?_; rintro e w' ⟨rfl, rfl⟩)
  go_ret
  exact ⟨rfl, rfl⟩
set_option maxRecDepth 100000 in
theorem isVowel_any (p : Int) (w : World) : Calls Tryz.prog 114 #[.int .i64 p] w fun e w' => e = .returned (.bool (vow p)) ∧ w' = w := by
  go_enter Tryz.func114, Tryz.ntmps114
  go_wp2_with (go_at_call 14; refine (cw_any _ _ _ _).mono ?_; rintro e w' ⟨rfl, rfl⟩)
  go_ret
  exact ⟨rfl, rfl⟩
set_option maxRecDepth 100000 in
theorem isTail_any (p : Int) (w : World) : Calls Tryz.prog 115 #[.int .i64 p] w fun e w' => e = .returned (.bool (tai p)) ∧ w' = w := by
  go_enter Tryz.func115, Tryz.ntmps115
  go_wp2_with (go_at_call 14; refine (cw_any _ _ _ _).mono ?_; rintro e w' ⟨rfl, rfl⟩)
  go_ret
  exact ⟨rfl, rfl⟩
set_option maxRecDepth 100000 in
theorem isSyllable_any (p : Int) (w : World) : Calls Tryz.prog 102 #[.int .i64 p] w fun e w' => e = .returned (.bool (sil p)) ∧ w' = w := by
  go_enter Tryz.func102, Tryz.ntmps102
  go_wp2_with (go_at_call 14; refine (cw_any _ _ _ _).mono ?_; rintro e w' ⟨rfl, rfl⟩)
  go_ret
  exact ⟨rfl, rfl⟩
set_option maxRecDepth 100000 in
theorem hasTail_any (p : Int) (w : World) (h : sil p = true) : Calls Tryz.prog 111 #[.int .i64 p] w fun e w' => e = .returned (.bool (hta p)) ∧ w' = w := by
  simp only [sil, Bool.and_eq_true, decide_eq_true_eq] at h
  obtain ⟨h1, h2⟩ := h
  obtain ⟨r, hr⟩ : ∃ r, (p - 12288) % 28 = r := ⟨_, rfl⟩
  have e2 : (p - 12288).tmod 28 = r := by rw [Int.tmod_eq_emod_of_nonneg (by omega)]; exact hr
  have b2 : 0 ≤ r ∧ r ≤ 27 := by omega
  obtain ⟨b0, b1⟩ := b2
  have HH := hide (show hta p = !(r == 0) by unfold hta; rw [hr])
  clear hr
  go_enter Tryz.func111, Tryz.ntmps111
  go_wp2
  go_ret
  exact ⟨by rw [unhide HH]; rfl, rfl⟩
theorem cat_any (p : Int) (w : World) (ht : TabAt w) : Calls Tryz.prog 117 #[.int .i64 p] w fun e w' => e = .returned (.int .i64 (cat p)) ∧ ∃ o, w' = w.alloc o := by
  have := implCat_ex p w ht
  rw [cat_i] at this
  exact this
set_option maxRecDepth 100000 in
theorem isControl_any (p : Int) (w : World) (ht : TabAt w) : Calls Tryz.prog 113 #[.int .i64 p] w fun e w' => e = .returned (.bool (ctl p)) ∧ ∃ o, w' = w.alloc o := by
  have H := hide ht
  clear ht
  cases h1 : (cat p == 1)
  · have HR := hide (show ctl p = (p == 7954) by unfold ctl; rw [h1]; rfl)
    go_enter Tryz.func113, Tryz.ntmps113
    go_wp2_with (go_at_call 117; refine (cat_any _ _ (unhide H)).mono ?_; rintro e w' ⟨rfl, o, rfl⟩)
    go_ret
    exact ⟨by rw [unhide HR]; rfl, _, rfl⟩
  · have HR := hide (show ctl p = true by unfold ctl; rw [h1]; rfl)
    go_enter Tryz.func113, Tryz.ntmps113
    go_wp2_with (go_at_call 117; refine (cat_any _ _ (unhide H)).mono ?_; rintro e w' ⟨rfl, o, rfl⟩)
    go_ret
    exact ⟨by rw [unhide HR]; rfl, _, rfl⟩
set_option maxRecDepth 100000 in
theorem isMark_any (p : Int) (w : World) (ht : TabAt w) : Calls Tryz.prog 99 #[.int .i64 p] w fun e w' => e = .returned (.bool (mrk p)) ∧ ∃ o, w' = w.alloc o := by
  have H := hide ht
  clear ht
  cases h1 : (cat p == 3)
  · cases h2 : (p == 7936)
    · have HR := hide (show mrk p = (decide (7744 ≤ p) && decide (p ≤ 7748)) by unfold mrk; rw [h1, h2]; rfl)
      go_enter Tryz.func99, Tryz.ntmps99
      go_wp2_with (first | (go_at_call 117; refine (cat_any _ _ (unhide H)).mono ?_; rintro e w' ⟨rfl, o, rfl⟩) | (go_at_call 14; refine (cw_any _ _ _ _).mono ?_; rintro e w' ⟨rfl, rfl⟩))
      go_ret
      exact ⟨by rw [unhide HR]; rfl, _, rfl⟩
    · have HR := hide (show mrk p = true by unfold mrk; rw [h1, h2]; rfl)
      go_enter Tryz.func99, Tryz.ntmps99
      go_wp2_with (first | (go_at_call 117; refine (cat_any _ _ (unhide H)).mono ?_; rintro e w' ⟨rfl, o, rfl⟩))
      go_ret
      exact ⟨by rw [unhide HR]; rfl, _, rfl⟩
  · have HR := hide (show mrk p = true by unfold mrk; rw [h1]; rfl)
    go_enter Tryz.func99, Tryz.ntmps99
    go_wp2_with (first | (go_at_call 117; refine (cat_any _ _ (unhide H)).mono ?_; rintro e w' ⟨rfl, o, rfl⟩))
    go_ret
    exact ⟨by rw [unhide HR]; rfl, _, rfl⟩
end Chr
end Go.Proofs.YtamigjljgepfiaaGreatDoor
