/- The repertoire in plain numbers: the rows of the program and those of the specification tell of every number the same. No Go in sight. -/
namespace Go.Proofs.YtbaedapnikhdgaaGreatDoor
def tab : List (Int × Int × Int × Int) :=
  [(0, 31, 1, 0), (32, 32, 2, 0), (33, 47, 9, 0), (48, 57, 8, 0), (58, 64, 9, 0), (65, 90, 4, 1), (91, 96, 9, 0), (97, 122, 5, 1), (123, 126, 9, 0), (127, 159, 1, 0),
   (160, 160, 2, 0), (161, 172, 10, 0), (173, 173, 11, 0), (174, 191, 10, 0), (512, 543, 4, 2), (544, 575, 5, 2), (576, 579, 4, 2), (580, 583, 6, 2), (584, 587, 5, 2),
   (592, 601, 8, 2), (608, 609, 5, 2), (1280, 1311, 7, 5), (1360, 1369, 8, 5), (1536, 1567, 7, 6), (1568, 1579, 3, 6), (1584, 1585, 3, 6), (1616, 1625, 8, 6), (1792, 1810, 7, 7),
   (1824, 1844, 7, 7), (1857, 1883, 7, 7), (2048, 2095, 7, 8), (4096, 4159, 3, 0), (7680, 7748, 10, 0), (7760, 7785, 10, 0), (7936, 7947, 11, 0), (7953, 7954, 11, 0),
   (8064, 8064, 2, 0), (8192, 8399, 4, 1), (8400, 8607, 5, 1), (8704, 8911, 4, 1), (8912, 9119, 5, 1), (9216, 9423, 4, 1), (9424, 9631, 5, 1), (9728, 9753, 4, 1),
   (9984, 10009, 10, 0), (10016, 10025, 8, 0), (10032, 10035, 10, 0), (12288, 23459, 7, 7), (24576, 26623, 7, 9)]
def spc : List (Int × Int × Int × Int) :=
  [(0, 31, 1, 0), (32, 32, 2, 0), (48, 57, 8, 0), (65, 90, 4, 1), (97, 122, 5, 1), (33, 126, 9, 0), (127, 159, 1, 0), (160, 160, 2, 0), (173, 173, 11, 0), (161, 191, 10, 0),
   (1280, 1311, 7, 5), (1360, 1369, 8, 5), (1536, 1567, 7, 6), (1568, 1579, 3, 6), (1584, 1585, 3, 6), (1616, 1625, 8, 6), (1792, 1810, 7, 7), (1824, 1844, 7, 7),
   (1857, 1883, 7, 7), (2048, 2095, 7, 8), (4096, 4159, 3, 0), (7680, 7748, 10, 0), (7760, 7785, 10, 0), (7936, 7947, 11, 0), (7953, 7954, 11, 0), (8064, 8064, 2, 0),
   (9728, 9753, 4, 1), (9984, 10009, 10, 0), (10016, 10025, 8, 0), (10032, 10035, 10, 0), (12288, 23459, 7, 7), (24576, 26623, 7, 9)]
def csd : List (Int × Int × Int × Int) :=
  [(0, 31, 4, 0), (32, 63, 5, 0), (64, 67, 4, 0), (68, 71, 6, 0), (72, 75, 5, 0), (80, 89, 8, 0), (96, 97, 5, 0)]
def Z4 : Int × Int × Int × Int := (0, 0, 0, 0)
def inRow (p : Int) (r : Int × Int × Int × Int) : Bool := decide (r.1 ≤ p) && decide (p ≤ r.2.1)
/-- The first row that has p. -/
def find (l : List (Int × Int × Int × Int)) (p : Int) : Int × Int × Int × Int := (l.find? (inRow p)).getD Z4
/-- No row begins or ends within lo .. hi. -/
def unif (l : List (Int × Int × Int × Int)) (lo hi : Int) : Bool :=
  l.all fun r => (decide (hi < r.1) || decide (r.1 ≤ lo)) && (decide (hi ≤ r.2.1) || decide (r.2.1 < lo))
theorem find_const (l : List (Int × Int × Int × Int)) (lo hi p : Int) (h1 : lo ≤ p) (h2 : p ≤ hi) (hu : unif l lo hi = true) : find l p = find l lo := by
  have hr : ∀ r ∈ l, inRow p r = inRow lo r := by
    intro r hr
    have := List.all_eq_true.1 hu r hr
    simp only [Bool.and_eq_true, Bool.or_eq_true, decide_eq_true_eq] at this
    unfold inRow
    rw [Bool.eq_iff_iff]
    simp only [Bool.and_eq_true, decide_eq_true_eq]
    omega
  unfold find
  clear hu
  induction l with
  | nil => rfl
  | cons r t ih =>
    have e := hr r (by simp)
    have iht := ih fun x hx => hr x (by simp [hx])
    simp only [List.find?_cons, e]
    cases inRow lo r
    · exact iht
    · rfl
/-- What holds on each stretch between two edges holds from the first edge up to the last one. -/
def stretches (f : Int → Int → Bool) : List Int → Bool
  | a :: b :: r => f a (b - 1) && stretches f (b :: r)
  | _ => true
theorem of_stretches (f : Int → Int → Bool) (P : Int → Prop) (hf : ∀ lo hi, f lo hi = true → ∀ p, lo ≤ p → p ≤ hi → P p) :
    ∀ (l : List Int) (a z : Int), stretches f (a :: l) = true → (a :: l).getLast? = some z → ∀ p, a ≤ p → p < z → P p
  | [], a, z, _, hz, p, h1, h2 => by simp at hz; omega
  | b :: r, a, z, hs, hz, p, h1, h2 => by
    simp only [stretches, Bool.and_eq_true] at hs
    by_cases h : p < b
    · exact hf a (b - 1) hs.1 p h1 (by omega)
    · exact of_stretches f P hf r b z hs.2 (by simpa using hz) p (by omega) h2
def twin (p : Int) : Int := if 768 ≤ p ∧ p < 1280 then 512 + p % 256 else p
def known (p : Int) : Int × Int :=
  if 512 ≤ p ∧ p < 1280 then (if (find csd (p % 256)).2.2.1 = 0 then (0, 0) else ((find csd (p % 256)).2.2.1, p / 256))
  else if 8192 ≤ p ∧ p < 9728 then (if 416 ≤ p % 512 then (0, 0) else if p % 512 < 208 then (4, 1) else (5, 1))
  else ((find spc p).2.2.1, (find spc p).2.2.2)
def rowOf (p : Int) : Int × Int × Int × Int := find tab p
def catI (p : Int) : Int := (rowOf (twin p)).2.2.1
def scrI (p : Int) : Int := if (rowOf (twin p)).2.2.2 = 0 then 0 else (rowOf (twin p)).2.2.2 + (p - twin p) / 256
/-- The digit of a point by its row: how far it stands behind the row's beginning. -/
def Fine (p : Int) : Prop := catI p = (known p).1 ∧ scrI p = (known p).2 ∧ (catI p = 8 → twin p - (rowOf (twin p)).1 = p % 16 % 10 ∧ 0 ≤ p) ∧ (scrI p = 9 ↔ 24576 ≤ p ∧ p ≤ 26623)

def edA : List Int := [0, 32, 33, 48, 58, 65, 91, 97, 123, 127, 160, 161, 173, 174, 192, 512]
def edB : List Int := [1280, 1312, 1360, 1370, 1536, 1568, 1580, 1584, 1586, 1616, 1626, 1792, 1811, 1824, 1845, 1857, 1884, 2048, 2096, 4096, 4160, 7680, 7749, 7760, 7786, 7936, 7948, 7953, 7955, 8064, 8065, 8192]
def edC : List Int := [9728, 9754, 9984, 10010, 10016, 10026, 10032, 10036, 12288, 23460, 24576, 26624, 32768]
def edQ : List Int := [0, 32, 64, 68, 72, 76, 80, 90, 96, 98, 256]
def edR : List Int := [0, 208, 416, 512]

/-- A stretch outside of the three cased scripts and the letters with marks. -/
def okMain (lo hi : Int) : Bool :=
  unif tab lo hi && unif spc lo hi && ((find tab lo).2.2.1 == (find spc lo).2.2.1) && ((find tab lo).2.2.2 == (find spc lo).2.2.2) &&
  (((find tab lo).2.2.1 != 8) || (decide (lo % 16 = 0) && decide (hi < lo + 10) && ((find tab lo).1 == lo) && decide (0 ≤ lo))) &&
  (((find tab lo).2.2.2 == 9) == (decide (24576 ≤ lo) && decide (hi ≤ 26623))) && (decide (hi < 24576) || decide (26623 < lo) || (decide (24576 ≤ lo) && decide (hi ≤ 26623)))
theorem fine_main (lo hi : Int) (h : okMain lo hi = true) (p : Int) (h1 : lo ≤ p) (h2 : p ≤ hi) (hn : ¬ (512 ≤ p ∧ p < 1280)) (hn2 : ¬ (8192 ≤ p ∧ p < 9728)) : Fine p := by
  simp only [okMain, Bool.and_eq_true] at h
  obtain ⟨⟨⟨⟨⟨⟨u1, u2⟩, e1⟩, e2⟩, e3⟩, e4⟩, e5⟩ := h
  have ht : twin p = p := by unfold twin; rw [if_neg (by omega)]
  have hk : known p = ((find spc p).2.2.1, (find spc p).2.2.2) := by unfold known; rw [if_neg hn, if_neg hn2]
  have c1 := find_const tab lo hi p h1 h2 u1
  have c2 := find_const spc lo hi p h1 h2 u2
  have e1 := eq_of_beq e1
  have e2 := eq_of_beq e2
  have e4 := eq_of_beq e4
  generalize hx : find tab lo = x at *
  generalize hy : find spc lo = y at *
  have hs : scrI p = x.2.2.2 := by
    unfold scrI rowOf; rw [ht, c1]
    by_cases h0 : x.2.2.2 = 0
    · rw [if_pos h0, h0]
    · rw [if_neg h0]; simp
  have hc : catI p = x.2.2.1 := by unfold catI rowOf; rw [ht, c1]
  refine ⟨?_, ?_, ?_, ?_⟩
  · rw [hc, hk, c2]; exact e1
  · rw [hs, hk, c2]; exact e2
  · intro h8
    rw [hc] at h8
    rw [h8] at e3
    simp only [Bool.or_eq_true, Bool.and_eq_true, decide_eq_true_eq, beq_iff_eq] at e3
    rcases e3 with e3 | ⟨⟨⟨a1, a2⟩, a3⟩, a4⟩
    · exact absurd e3 (by decide)
    · unfold rowOf; rw [ht, c1, a3]; omega
  · rw [hs]
    simp only [Bool.or_eq_true, Bool.and_eq_true, decide_eq_true_eq] at e5
    by_cases h9 : x.2.2.2 = 9
    · rw [h9] at e4
      have : (decide (24576 ≤ lo) && decide (hi ≤ 26623)) = true := by rw [← e4]; decide
      simp only [Bool.and_eq_true, decide_eq_true_eq] at this
      omega
    · have : (x.2.2.2 == 9) = false := by simpa using h9
      rw [this] at e4
      have : ¬ (24576 ≤ lo ∧ hi ≤ 26623) := by
        intro hh
        have : (decide (24576 ≤ lo) && decide (hi ≤ 26623)) = true := by simpa using hh
        rw [this] at e4; cases e4
      omega
theorem fineA (p : Int) (h1 : 0 ≤ p) (h2 : p < 512) : Fine p :=
  of_stretches (fun lo hi => okMain lo hi && decide (hi < 512)) Fine (fun lo hi h q a b => by
    simp only [Bool.and_eq_true, decide_eq_true_eq] at h
    exact fine_main lo hi h.1 q a b (by omega) (by omega)) edA.tail 0 512 (by decide +kernel) (by decide) p h1 h2
theorem fineB (p : Int) (h1 : 1280 ≤ p) (h2 : p < 8192) : Fine p :=
  of_stretches (fun lo hi => okMain lo hi && (decide (1280 ≤ lo) && decide (hi < 8192))) Fine (fun lo hi h q a b => by
    simp only [Bool.and_eq_true, decide_eq_true_eq] at h
    exact fine_main lo hi h.1 q a b (by omega) (by omega)) edB.tail 1280 8192 (by decide +kernel) (by decide) p h1 h2
theorem fineC (p : Int) (h1 : 9728 ≤ p) (h2 : p < 32768) : Fine p :=
  of_stretches (fun lo hi => okMain lo hi && decide (9728 ≤ lo)) Fine (fun lo hi h q a b => by
    simp only [Bool.and_eq_true, decide_eq_true_eq] at h
    exact fine_main lo hi h.1 q a b (by omega) (by omega)) edC.tail 9728 32768 (by decide +kernel) (by decide) p h1 h2
theorem none_low (l : List (Int × Int × Int × Int)) (p : Int) (h : (l.all fun r => decide (p < r.1)) = true) : find l p = Z4 := by
  unfold find
  have : l.find? (inRow p) = none := by
    rw [List.find?_eq_none]
    intro r hr
    have := List.all_eq_true.1 h r hr
    simp only [decide_eq_true_eq] at this
    simp only [inRow, Bool.and_eq_true, decide_eq_true_eq]
    omega
  rw [this]; rfl
theorem none_high (l : List (Int × Int × Int × Int)) (p : Int) (h : (l.all fun r => decide (r.2.1 < p)) = true) : find l p = Z4 := by
  unfold find
  have : l.find? (inRow p) = none := by
    rw [List.find?_eq_none]
    intro r hr
    have := List.all_eq_true.1 h r hr
    simp only [decide_eq_true_eq] at this
    simp only [inRow, Bool.and_eq_true, decide_eq_true_eq]
    omega
  rw [this]; rfl
theorem all_lt (l : List (Int × Int × Int × Int)) (a p : Int) (hp : p ≤ a) (h : (l.all fun r => decide (a < r.1)) = true) : (l.all fun r => decide (p < r.1)) = true := by
  rw [List.all_eq_true] at h ⊢
  intro r hr
  have := h r hr
  simp only [decide_eq_true_eq] at this ⊢
  omega
theorem all_gt (l : List (Int × Int × Int × Int)) (a p : Int) (hp : a ≤ p) (h : (l.all fun r => decide (r.2.1 < a)) = true) : (l.all fun r => decide (r.2.1 < p)) = true := by
  rw [List.all_eq_true] at h ⊢
  intro r hr
  have := h r hr
  simp only [decide_eq_true_eq] at this ⊢
  omega
theorem fine_none (p : Int) (hn : ¬ (512 ≤ p ∧ p < 1280)) (hn2 : ¬ (8192 ≤ p ∧ p < 9728)) (h9 : ¬ (24576 ≤ p ∧ p ≤ 26623)) (c1 : find tab p = Z4) (c2 : find spc p = Z4) : Fine p := by
  have ht : twin p = p := by unfold twin; rw [if_neg (by omega)]
  have hk : known p = ((find spc p).2.2.1, (find spc p).2.2.2) := by unfold known; rw [if_neg hn, if_neg hn2]
  have hs : scrI p = 0 := by unfold scrI rowOf; rw [ht, c1]; rfl
  have hc : catI p = 0 := by unfold catI rowOf; rw [ht, c1]; rfl
  refine ⟨?_, ?_, ?_, ?_⟩
  · rw [hc, hk, c2]; rfl
  · rw [hs, hk, c2]; rfl
  · intro h8; rw [hc] at h8; exact absurd h8 (by decide)
  · rw [hs]; constructor
    · intro h; exact absurd h (by decide)
    · intro h; exact absurd h h9
theorem fineLow (p : Int) (h : p < 0) : Fine p :=
  fine_none p (by omega) (by omega) (by omega) (none_low _ _ (all_lt _ (-1) _ (by omega) (by decide +kernel))) (none_low _ _ (all_lt _ (-1) _ (by omega) (by decide +kernel)))
theorem fineHigh (p : Int) (h : 32768 ≤ p) : Fine p :=
  fine_none p (by omega) (by omega) (by omega) (none_high _ _ (all_gt _ 32768 _ h (by decide +kernel))) (none_high _ _ (all_gt _ 32768 _ h (by decide +kernel)))
/-- A stretch of a cased script, counted from its beginning. -/
def okQ (lo hi : Int) : Bool :=
  unif csd lo hi && unif tab (512 + lo) (512 + hi) && ((find tab (512 + lo)).2.2.1 == (find csd lo).2.2.1) &&
  ((find tab (512 + lo)).2.2.2 == (if (find csd lo).2.2.1 = 0 then 0 else 2)) &&
  (((find tab (512 + lo)).2.2.1 != 8) || (decide (lo % 16 = 0) && decide (hi < lo + 10) && ((find tab (512 + lo)).1 == 512 + lo))) && decide (0 ≤ lo)
def FineQ (q : Int) : Prop := ∀ b : Int, 2 ≤ b → b ≤ 4 → 0 ≤ q → q < 256 → Fine (256 * b + q)
theorem fine_q (lo hi : Int) (h : okQ lo hi = true) (q : Int) (h1 : lo ≤ q) (h2 : q ≤ hi) : FineQ q := by
  intro b hb1 hb2 hq1 hq2
  simp only [okQ, Bool.and_eq_true] at h
  obtain ⟨⟨⟨⟨⟨u1, u2⟩, e1⟩, e2⟩, e3⟩, e4⟩ := h
  have e1 := eq_of_beq e1
  have e2 := eq_of_beq e2
  have c1 := find_const csd lo hi q h1 h2 u1
  have c2 := find_const tab (512 + lo) (512 + hi) (512 + q) (by omega) (by omega) u2
  have ht : twin (256 * b + q) = 512 + q := by
    unfold twin
    by_cases hb : b = 2
    · rw [if_neg (by omega)]; omega
    · rw [if_pos (by omega)]; omega
  have hm : (256 * b + q) % 256 = q := by omega
  have hd : (256 * b + q) / 256 = b := by omega
  have hk : known (256 * b + q) = if (find csd q).2.2.1 = 0 then (0, 0) else ((find csd q).2.2.1, b) := by
    unfold known; rw [if_pos (by omega), hm, hd]
  rw [c1] at hk
  generalize hx : find tab (512 + lo) = x at *
  generalize hy : find csd lo = y at *
  have hc : catI (256 * b + q) = x.2.2.1 := by unfold catI rowOf; rw [ht, c2]
  have hs : scrI (256 * b + q) = if y.2.2.1 = 0 then 0 else b := by
    unfold scrI rowOf; rw [ht, c2, e2]
    by_cases h0 : y.2.2.1 = 0
    · rw [if_pos h0, if_pos rfl, if_pos h0]
    · rw [if_neg h0, if_neg (by decide), if_neg h0]; omega
  refine ⟨?_, ?_, ?_, ?_⟩
  · rw [hc, hk, e1]
    by_cases h0 : y.2.2.1 = 0
    · rw [if_pos h0, h0]
    · rw [if_neg h0]
  · rw [hs, hk]
    by_cases h0 : y.2.2.1 = 0
    · rw [if_pos h0, if_pos h0]
    · rw [if_neg h0, if_neg h0]
  · intro h8
    rw [hc] at h8
    rw [h8] at e3
    simp only [Bool.or_eq_true, Bool.and_eq_true, decide_eq_true_eq, beq_iff_eq] at e3 e4
    rcases e3 with e3 | ⟨⟨a1, a2⟩, a3⟩
    · exact absurd e3 (by decide)
    · unfold rowOf; rw [ht, c2, a3]; omega
  · rw [hs]
    by_cases h0 : y.2.2.1 = 0
    · rw [if_pos h0]; omega
    · rw [if_neg h0]; omega
theorem fineQ (p : Int) (h1 : 512 ≤ p) (h2 : p < 1280) : Fine p := by
  have := of_stretches okQ FineQ fine_q edQ.tail 0 256 (by decide +kernel) (by decide) (p % 256) (by omega) (by omega) (p / 256) (by omega) (by omega) (by omega) (by omega)
  rwa [show 256 * (p / 256) + p % 256 = p by omega] at this
/-- A stretch of the letters with marks. -/
def okR (lo hi : Int) : Bool :=
  ([16, 17, 18] : List Int).all fun m => unif tab (512 * m + lo) (512 * m + hi) && ((find tab (512 * m + lo)).2.2.1 == (if 416 ≤ lo then 0 else if lo < 208 then 4 else 5)) &&
    ((find tab (512 * m + lo)).2.2.2 == (if 416 ≤ lo then 0 else 1)) && (decide (416 ≤ lo) || (decide (208 ≤ lo) && decide (hi < 416)) || decide (hi < 208))
def FineR (q : Int) : Prop := ∀ m : Int, 16 ≤ m → m ≤ 18 → 0 ≤ q → q < 512 → Fine (512 * m + q)
theorem fine_r (lo hi : Int) (h : okR lo hi = true) (q : Int) (h1 : lo ≤ q) (h2 : q ≤ hi) : FineR q := by
  intro m hm1 hm2 hq1 hq2
  have hm : m ∈ ([16, 17, 18] : List Int) := by simp; omega
  have h := List.all_eq_true.1 h m hm
  simp only [Bool.and_eq_true, Bool.or_eq_true, decide_eq_true_eq] at h
  obtain ⟨⟨⟨u, e1⟩, e2⟩, e3⟩ := h
  have e1 := eq_of_beq e1
  have e2 := eq_of_beq e2
  have c := find_const tab (512 * m + lo) (512 * m + hi) (512 * m + q) (by omega) (by omega) u
  have ht : twin (512 * m + q) = 512 * m + q := by unfold twin; rw [if_neg (by omega)]
  have hmod : (512 * m + q) % 512 = q := by omega
  have hk : known (512 * m + q) = if 416 ≤ q then (0, 0) else if q < 208 then (4, 1) else (5, 1) := by
    unfold known; rw [if_neg (by omega), if_pos (by omega), hmod]
  generalize hx : find tab (512 * m + lo) = x at *
  have hc : catI (512 * m + q) = x.2.2.1 := by unfold catI rowOf; rw [ht, c]
  have hs : scrI (512 * m + q) = x.2.2.2 := by
    unfold scrI rowOf; rw [ht, c]
    by_cases h0 : x.2.2.2 = 0
    · rw [if_pos h0, h0]
    · rw [if_neg h0]; simp
  have hlo : (416 ≤ lo ∧ 416 ≤ q) ∨ (208 ≤ lo ∧ lo < 416 ∧ 208 ≤ q ∧ q < 416) ∨ (lo < 208 ∧ q < 208) := by omega
  rcases hlo with ⟨k1, k2⟩ | ⟨k1, k2, k3, k4⟩ | ⟨k1, k2⟩
  · rw [if_pos k1] at e1 e2
    rw [if_pos k2] at hk
    refine ⟨by rw [hc, hk, e1], by rw [hs, hk, e2], fun h8 => by rw [hc, e1] at h8; exact absurd h8 (by decide), ?_⟩
    rw [hs, e2]; omega
  · rw [if_neg (by omega), if_neg (by omega)] at e1
    rw [if_neg (by omega)] at e2
    rw [if_neg (by omega), if_neg (by omega)] at hk
    refine ⟨by rw [hc, hk, e1], by rw [hs, hk, e2], fun h8 => by rw [hc, e1] at h8; exact absurd h8 (by decide), ?_⟩
    rw [hs, e2]; omega
  · rw [if_neg (by omega), if_pos k1] at e1
    rw [if_neg (by omega)] at e2
    rw [if_neg (by omega), if_pos k2] at hk
    refine ⟨by rw [hc, hk, e1], by rw [hs, hk, e2], fun h8 => by rw [hc, e1] at h8; exact absurd h8 (by decide), ?_⟩
    rw [hs, e2]; omega
theorem fineR (p : Int) (h1 : 8192 ≤ p) (h2 : p < 9728) : Fine p := by
  have := of_stretches okR FineR fine_r edR.tail 0 512 (by decide +kernel) (by decide) (p % 512) (by omega) (by omega) (p / 512) (by omega) (by omega) (by omega) (by omega)
  rwa [show 512 * (p / 512) + p % 512 = p by omega] at this
/-- OF EVERY NUMBER the program's rows and the specification's tell the same. -/
theorem fine (p : Int) : Fine p := by
  by_cases h0 : p < 0
  · exact fineLow p h0
  by_cases h1 : p < 512
  · exact fineA p (by omega) h1
  by_cases h2 : p < 1280
  · exact fineQ p (by omega) h2
  by_cases h3 : p < 8192
  · exact fineB p (by omega) h3
  by_cases h4 : p < 9728
  · exact fineR p (by omega) h4
  by_cases h5 : p < 32768
  · exact fineC p (by omega) h5
  exact fineHigh p (by omega)
end Go.Proofs.YtbaedapnikhdgaaGreatDoor
