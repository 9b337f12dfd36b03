/- Right spans, their points, and sets of points as spans: there is one set. No Go in sight. -/
import Derived.Test.YtigobciichnccaaDoorRunP
namespace Go.Proofs.YtigobciichnccaaDoor
def gx (L : List Sp) (i : Nat) : Sp := L.getD i (0, 0, 0)
theorem drop_gx (L : List Sp) (k : Nat) (h : k < L.length) : L.drop k = gx L k :: L.drop (k + 1) := by
  rw [List.drop_eq_getElem_cons h]
  simp [gx, List.getD, h]
/-- Spans rise behind e, each right. -/
def okFrom : Int → List Sp → Bool
  | _, [] => true
  | e, r :: t => decide (e < r.1) && decide (r.1 ≤ r.2.1) && decide (r.2.1 ≤ 32767) && okFrom r.2.1 t
def right (L : List Sp) : Bool := decide (L.length ≤ 1000) && okFrom (-1) L
def faultOf (L : List Sp) : Int := if right L = true then 0 else 1
/-- Where the span ahead of the k-th one ends. -/
def endAt (L : List Sp) : Nat → Int
  | 0 => -1
  | k + 1 => (gx L k).2.1
def okAt (L : List Sp) (k : Nat) : Bool := okFrom (endAt L k) (L.drop k)
theorem okAt_zero (L : List Sp) : okAt L 0 = okFrom (-1) L := rfl
theorem okAt_end (L : List Sp) (k : Nat) (h : ¬ k < L.length) : okAt L k = true := by
  unfold okAt
  rw [List.drop_eq_nil_of_le (by omega)]
  rfl
theorem okAt_step (L : List Sp) (k : Nat) (h : k < L.length) : okAt L k = (decide (endAt L k < (gx L k).1) && decide ((gx L k).1 ≤ (gx L k).2.1) && decide ((gx L k).2.1 ≤ 32767) && okAt L (k + 1)) := by
  unfold okAt
  rw [drop_gx L k h]
  rfl
theorem okFrom_all {e : Int} {L : List Sp} (h : okFrom e L = true) (he : -1 ≤ e) : ∀ i, i < L.length → e < (gx L i).1 ∧ (gx L i).1 ≤ (gx L i).2.1 ∧ (gx L i).2.1 ≤ 32767 := by
  induction L generalizing e with
  | nil => intro i hi; simp at hi
  | cons r t ih =>
    simp only [okFrom, Bool.and_eq_true, decide_eq_true_eq] at h
    obtain ⟨⟨⟨h1, h2⟩, h3⟩, h4⟩ := h
    intro i hi
    match i with
    | 0 => exact ⟨h1, h2, h3⟩
    | i + 1 =>
      have := ih h4 (by omega) i (by simpa using hi)
      have e2 : gx (r :: t) (i + 1) = gx t i := by simp [gx]
      rw [e2]
      exact ⟨by omega, this.2⟩
theorem right_ok {L : List Sp} (h : right L = true) : L.length ≤ 1000 ∧ okFrom (-1) L = true := by
  simpa [right] using h
theorem right_all {L : List Sp} (h : right L = true) (i : Nat) (hi : i < L.length) : 0 ≤ (gx L i).1 ∧ (gx L i).1 ≤ (gx L i).2.1 ∧ (gx L i).2.1 ≤ 32767 := by
  have := okFrom_all (right_ok h).2 (by omega) i hi
  exact ⟨by omega, this.2⟩
theorem okFrom_next {e : Int} {L : List Sp} (h : okFrom e L = true) : ∀ i, i + 1 < L.length → (gx L i).2.1 < (gx L (i + 1)).1 := by
  induction L generalizing e with
  | nil => intro i hi; simp at hi
  | cons r t ih =>
    simp only [okFrom, Bool.and_eq_true, decide_eq_true_eq] at h
    obtain ⟨⟨⟨h1, h2⟩, h3⟩, h4⟩ := h
    intro i hi
    match i with
    | 0 =>
      match t, h4, hi with
      | s :: u, h4, _ =>
        simp only [okFrom, Bool.and_eq_true, decide_eq_true_eq] at h4
        exact h4.1.1.1
    | i + 1 =>
      have := ih h4 i (by simpa using hi)
      simpa [gx] using this
theorem right_next {L : List Sp} (h : right L = true) (i : Nat) (hi : i + 1 < L.length) : (gx L i).2.1 < (gx L (i + 1)).1 := okFrom_next (right_ok h).2 i hi
/-- One of the spans has the point. -/
def has (L : List Sp) (p : Int) : Bool := L.any fun r => decide (r.1 ≤ p) && decide (p ≤ r.2.1)
def hasAt (L : List Sp) (k : Nat) (p : Int) : Bool := has (L.drop k) p
theorem hasAt_zero (L : List Sp) (p : Int) : hasAt L 0 p = has L p := rfl
theorem hasAt_end (L : List Sp) (k : Nat) (p : Int) (h : ¬ k < L.length) : hasAt L k p = false := by
  unfold hasAt
  rw [List.drop_eq_nil_of_le (by omega)]
  rfl
theorem hasAt_step (L : List Sp) (k : Nat) (p : Int) (h : k < L.length) : hasAt L k p = ((decide ((gx L k).1 ≤ p) && decide (p ≤ (gx L k).2.1)) || hasAt L (k + 1) p) := by
  unfold hasAt
  rw [drop_gx L k h]
  rfl
theorem has_iff (L : List Sp) (p : Int) : has L p = true ↔ ∃ i, i < L.length ∧ (gx L i).1 ≤ p ∧ p ≤ (gx L i).2.1 := by
  unfold has
  rw [List.any_eq_true]
  constructor
  · rintro ⟨r, hr, h⟩
    obtain ⟨i, hi, rfl⟩ := List.getElem_of_mem hr
    simp only [Bool.and_eq_true, decide_eq_true_eq] at h
    exact ⟨i, hi, by simpa [gx, List.getD, hi] using h⟩
  · rintro ⟨i, hi, h⟩
    refine ⟨L[i], List.getElem_mem hi, ?_⟩
    simp only [Bool.and_eq_true, decide_eq_true_eq]
    simpa [gx, List.getD, hi] using h
/-- The edges: the first point of each span, and the first one behind it. -/
def edge (L : List Sp) (k : Nat) : Int := if k = 2 * L.length then 32769 else if k % 2 = 1 then (gx L (k / 2)).2.1 + 1 else (gx L (k / 2)).1
theorem edge_end (L : List Sp) : edge L (2 * L.length) = 32769 := by simp [edge]
theorem edge_odd (L : List Sp) (k : Nat) (_ : k < 2 * L.length) (ho : k % 2 = 1) : edge L k = (gx L (k / 2)).2.1 + 1 := by
  unfold edge; rw [if_neg (by omega), if_pos ho]
theorem edge_even (L : List Sp) (k : Nat) (h : k < 2 * L.length) (ho : ¬ k % 2 = 1) : edge L k = (gx L (k / 2)).1 := by
  unfold edge; rw [if_neg (by omega), if_neg ho]
theorem edge_bd {L : List Sp} (hr : right L = true) (k : Nat) (h : k < 2 * L.length) : 0 ≤ edge L k ∧ edge L k ≤ 32768 := by
  have := right_all hr (k / 2) (by omega)
  by_cases ho : k % 2 = 1
  · rw [edge_odd L k h ho]; omega
  · rw [edge_even L k h ho]; omega
theorem edge_mono {L : List Sp} (hr : right L = true) (k : Nat) (h : k < 2 * L.length) : edge L k ≤ edge L (k + 1) := by
  by_cases he : k + 1 = 2 * L.length
  · rw [he, edge_end]
    have := edge_bd hr k h
    omega
  · by_cases ho : k % 2 = 1
    · rw [edge_odd L k h ho, edge_even L (k + 1) (by omega) (by omega)]
      have := right_next hr (k / 2) (by omega)
      have e : (k + 1) / 2 = k / 2 + 1 := by omega
      rw [e]
      omega
    · rw [edge_even L k h ho, edge_odd L (k + 1) (by omega) (by omega)]
      have := right_all hr (k / 2) (by omega)
      have e : (k + 1) / 2 = k / 2 := by omega
      rw [e]
      omega
theorem right_mono {L : List Sp} (hr : right L = true) : ∀ (j i : Nat), i < j → j < L.length → (gx L i).2.1 < (gx L j).1 := by
  intro j
  induction j with
  | zero => intro i h; omega
  | succ j ih =>
    intro i hij hj
    have h1 := right_next hr j hj
    by_cases e : i = j
    · subst e; exact h1
    · have h2 := ih i (by omega) (by omega)
      have h3 := right_all hr j (by omega)
      omega
/-- Between two edges side by side all points are in, or none is. -/
theorem has_between {L : List Sp} (hr : right L = true) (k : Nat) (hk : k ≤ 2 * L.length) (p : Int) (h1 : k = 0 ∨ edge L (k - 1) ≤ p) (h2 : p < edge L k) : has L p = decide (k % 2 = 1) := by
  by_cases ho : k % 2 = 1
  · rw [decide_eq_true ho]
    rw [edge_odd L k (by omega) ho] at h2
    have h1' : edge L (k - 1) ≤ p := h1.resolve_left (by omega)
    rw [edge_even L (k - 1) (by omega) (by omega)] at h1'
    have e : (k - 1) / 2 = k / 2 := by omega
    rw [e] at h1'
    exact (has_iff L p).2 ⟨k / 2, by omega, h1', by omega⟩
  · rw [decide_eq_false ho]
    rw [Bool.eq_false_iff]
    intro hh
    obtain ⟨i, hi, a, b⟩ := (has_iff L p).1 hh
    by_cases hlt : i < k / 2
    · have h1' : edge L (k - 1) ≤ p := h1.resolve_left (by omega)
      rw [edge_odd L (k - 1) (by omega) (by omega)] at h1'
      by_cases e : i = (k - 1) / 2
      · rw [← e] at h1'; omega
      · have := right_mono hr ((k - 1) / 2) i (by omega) (by omega)
        have := right_all hr ((k - 1) / 2) (by omega)
        omega
    · have hke : ¬ k = 2 * L.length := by omega
      rw [edge_even L k (by omega) ho] at h2
      by_cases e : i = k / 2
      · rw [← e] at h2; omega
      · have := right_mono hr i (k / 2) (by omega) hi
        have := right_all hr (k / 2) (by omega)
        omega
/-- The spans, the last one first, are of the value 1 and the longest stretches of the points 0 .. b - 1 of which f is true. -/
def SetsR (f : Int → Bool) : List Sp → Int → Prop
  | [], b => 0 ≤ b ∧ ∀ p, 0 ≤ p → p < b → f p = false
  | (x, y, v) :: t, b => v = 1 ∧ 0 ≤ x ∧ x ≤ y ∧ y < b ∧ (∀ p, x ≤ p → p ≤ y → f p = true) ∧ (∀ p, y < p → p < b → f p = false) ∧ (0 < x → f (x - 1) = false) ∧ SetsR f t x
theorem sets_nonneg {f : Int → Bool} {l : List Sp} {b : Int} (h : SetsR f l b) : 0 ≤ b := by
  match l, h with
  | [], h => exact h.1
  | (x, y, v) :: t, h => obtain ⟨_, h1, h2, h3, _⟩ := h; omega
theorem sets_one (f : Int → Bool) : ∀ (l l' : List Sp) (b : Int), SetsR f l b → SetsR f l' b → l = l'
  | [], [], _, _, _ => rfl
  | [], (x, y, v) :: t, b, h, h' => by
    obtain ⟨_, h1, h2, h3, h4, _⟩ := h'
    have := h.2 y (by omega) h3
    rw [h4 y h2 (Int.le_refl _)] at this
    cases this
  | (x, y, v) :: t, [], b, h, h' => by
    obtain ⟨_, h1, h2, h3, h4, _⟩ := h
    have := h'.2 y (by omega) h3
    rw [h4 y h2 (Int.le_refl _)] at this
    cases this
  | (x, y, v) :: t, (x', y', v') :: t', b, h, h' => by
    obtain ⟨rfl, h1, h2, h3, h4, h5, h6, h7⟩ := h
    obtain ⟨rfl, k1, k2, k3, k4, k5, k6, k7⟩ := h'
    have hy : y = y' := by
      by_cases e : y < y'
      · have := h5 y' e k3
        rw [k4 y' k2 (Int.le_refl _)] at this
        cases this
      · by_cases e' : y' < y
        · have := k5 y e' h3
          rw [h4 y h2 (Int.le_refl _)] at this
          cases this
        · omega
    subst hy
    have hx : x = x' := by
      by_cases e : x < x'
      · have := k6 (by omega)
        rw [h4 (x' - 1) (by omega) (by omega)] at this
        cases this
      · by_cases e' : x' < x
        · have := h6 (by omega)
          rw [k4 (x - 1) (by omega) (by omega)] at this
          cases this
        · omega
    subst hx
    rw [sets_one f t t' x h7 k7]
/-- Points that are not in, behind all. -/
theorem sets_gap {f : Int → Bool} {l : List Sp} {b c : Int} (h : SetsR f l b) (hbc : b ≤ c) (hf : ∀ p, b ≤ p → p < c → f p = false) : SetsR f l c := by
  match l, h with
  | [], h =>
    refine ⟨by have := h.1; omega, fun p h0 h1 => ?_⟩
    by_cases e : p < b
    · exact h.2 p h0 e
    · exact hf p (by omega) h1
  | (x, y, v) :: t, h =>
    obtain ⟨h0, h1, h2, h3, h4, h5, h6, h7⟩ := h
    refine ⟨h0, h1, h2, by omega, h4, fun p a c' => ?_, h6, h7⟩
    by_cases e : p < b
    · exact h5 p a e
    · exact hf p (by omega) c'
/-- A stretch more, not side by side with the last span. -/
theorem sets_new {f : Int → Bool} {l : List Sp} {b c : Int} (h : SetsR f l b) (hbc : b ≤ c) (hf : ∀ p, b ≤ p → p ≤ c → f p = true) (hn : 0 < b → f (b - 1) = false) : SetsR f ((b, c, 1) :: l) (c + 1) :=
  ⟨rfl, sets_nonneg h, hbc, by omega, hf, fun p a c' => by omega, hn, h⟩
/-- The last span goes on. -/
theorem sets_on {f : Int → Bool} {t : List Sp} {x y v b c : Int} (h : SetsR f ((x, y, v) :: t) b) (hy : y + 1 = b) (hbc : b ≤ c) (hf : ∀ p, b ≤ p → p ≤ c → f p = true) : SetsR f ((x, c, v) :: t) (c + 1) := by
  obtain ⟨h0, h1, h2, h3, h4, h5, h6, h7⟩ := h
  refine ⟨h0, h1, by omega, by omega, fun p a d => ?_, fun p a d => by omega, h6, h7⟩
  by_cases e : p ≤ y
  · exact h4 p a e
  · exact hf p (by omega) d
/-- Where the last span does not end right ahead of b, the point there is not in. -/
theorem sets_before {f : Int → Bool} {l : List Sp} {b : Int} (h : SetsR f l b) (hn : ∀ r ∈ l.head?, r.2.1 + 1 ≠ b) (hb : 0 < b) : f (b - 1) = false := by
  match l, h, hn with
  | [], h, _ => exact h.2 (b - 1) (by omega) (by omega)
  | (x, y, v) :: t, h, hn =>
    obtain ⟨h0, h1, h2, h3, h4, h5, h6, h7⟩ := h
    have : y + 1 ≠ b := hn (x, y, v) (by simp)
    exact h5 (b - 1) (by omega) (by omega)
def bI (b : Bool) : Int := if b = true then 1 else 0
/-- Of stretches of 0 and 1 those of 1 are the set. -/
theorem sets_of_runs (f : Int → Bool) : ∀ (l : List Sp) (b : Int), RunsR (fun p => bI (f p)) l b → SetsR f (l.filter fun r => r.2.2 == 1) b
  | [], b, h => by
    have h' : b = 0 := h
    exact ⟨by omega, fun p a c => by omega⟩
  | (x, y, v) :: t, b, h => by
    obtain ⟨h1, h2, h3, h4, h5⟩ := h
    have ih := sets_of_runs f t x h4
    have hx0 := (runs_nonneg _ t x h4).1
    have hvy := h3 y h2 (Int.le_refl _)
    by_cases hv : v = 1
    · subst hv
      have e : ((x, y, (1 : Int)) :: t).filter (fun r => r.2.2 == 1) = (x, y, 1) :: t.filter (fun r => r.2.2 == 1) := by simp
      rw [e]
      have hf : ∀ p, x ≤ p → p ≤ y → f p = true := fun p a c => by
        have := h3 p a c
        simp only [bI] at this
        split at this
        · assumption
        · omega
      have := sets_new ih h2 hf (fun hx => by
        match t, h4, h5 with
        | [], h4, _ => have : x = 0 := h4; omega
        | (x', y', v') :: t', h4, h5 =>
          obtain ⟨k1, k2, k3, _, _⟩ := h4
          have hne : v' ≠ 1 := h5 (x', y', v') (by simp)
          have := k3 y' k2 (Int.le_refl _)
          rw [show x - 1 = y' by omega]
          simp only [bI] at this
          cases hq : f y'
          · rfl
          · rw [hq] at this; simp at this; omega)
      rwa [h1] at this
    · have e : ((x, y, v) :: t).filter (fun r => r.2.2 == 1) = t.filter (fun r => r.2.2 == 1) := by
        rw [List.filter_cons_of_neg]
        simpa using hv
      rw [e]
      refine sets_gap ih (by omega) (fun p a c => ?_)
      have := h3 p a (by omega)
      have hb := hvy
      simp only [bI] at this
      cases hq : f p
      · rfl
      · rw [hq] at this; simp at this; omega
end Go.Proofs.YtigobciichnccaaDoor
