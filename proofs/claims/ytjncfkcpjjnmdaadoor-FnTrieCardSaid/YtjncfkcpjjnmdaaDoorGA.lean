/- Several texts in one. -/
import Derived.WalkKit
import Derived.Test.YtjncfkcpjjnmdaaDoorRows
import Derived.Test.YtjncfkcpjjnmdaaDoorBase
import Derived.BigQuiet
import Derived.Deep.QuietTactic
import Derived.Deep.RegionWith
import Derived.Handy
import Derived.WalkLawsBesides
import Derived.WalkSpells
import Derived.Below
import Derived.Lib.RuneBytes
import Derived.Lib.SlBytesRow
import Derived.Lib.AppendStr
import Derived.Lib.BufferRead
import Derived.Outline
/- Stretches of points of one value: there is one list of them. No Go in sight. -/
namespace Go.Proofs.YtjncfkcpjjnmdaaDoor
abbrev Sp := Int × Int × Int
/-- No span ahead has this value. -/
def headNe (t : List Sp) (v : Int) : Prop := ∀ r ∈ t.head?, r.2.2 ≠ v
/-- The spans, the last one first, are the longest stretches of one value of the points 0 .. b - 1. -/
def RunsR (f : Int → Int) : List Sp → Int → Prop
  | [], b => b = 0
  | (x, y, v) :: t, b => y + 1 = b ∧ x ≤ y ∧ (∀ p, x ≤ p → p ≤ y → f p = v) ∧ RunsR f t x ∧ headNe t v
theorem runs_nonneg (f : Int → Int) : ∀ (l : List Sp) (b : Int), RunsR f l b → 0 ≤ b ∧ (l = [] → b = 0)
  | [], b, h => by
    have h' : b = 0 := h
    omega
  | (x, y, v) :: t, b, h => by
    obtain ⟨h1, h2, _, h4, _⟩ := h
    have := (runs_nonneg f t x h4).1
    exact ⟨by omega, fun e => by cases e⟩
theorem runs_one (f : Int → Int) : ∀ (l l' : List Sp) (b : Int), RunsR f l b → RunsR f l' b → l = l'
  | [], [], _, _, _ => rfl
  | [], (x, y, v) :: t, b, h, h' => by
    have hb : b = 0 := h
    obtain ⟨h1, h2, _, h4, _⟩ := h'
    have := (runs_nonneg f t x h4).1
    omega
  | (x, y, v) :: t, [], b, h, h' => by
    have hb : b = 0 := h'
    obtain ⟨h1, h2, _, h4, _⟩ := h
    have := (runs_nonneg f t x h4).1
    omega
  | (x, y, v) :: t, (x', y', v') :: t', b, h, h' => by
    obtain ⟨h1, h2, h3, h4, h5⟩ := h
    obtain ⟨k1, k2, k3, k4, k5⟩ := h'
    have hy : y = y' := by omega
    subst hy
    have hv : v = v' := by rw [← h3 y h2 (Int.le_refl _), ← k3 y k2 (Int.le_refl _)]
    subst hv
    have gap : ∀ (a c : Int) (s : List Sp), a < c → c ≤ y → 0 ≤ a → (∀ p, a ≤ p → p ≤ y → f p = v) → RunsR f s c → headNe s v → False := by
      intro a c s hac hcy ha hf hs hn
      match s, hs, hn with
      | [], hs, _ => have : c = 0 := hs; omega
      | (p, q, u) :: r, hs, hn =>
        obtain ⟨s1, s2, s3, _, _⟩ := hs
        have hu : u = v := by rw [← s3 q s2 (Int.le_refl _), hf q (by omega) (by omega)]
        exact hn (p, q, u) (by simp) hu
    have hx : x = x' := by
      by_cases e : x < x'
      · exact (gap x x' t' e k2 (runs_nonneg f t x h4).1 h3 k4 k5).elim
      · by_cases e' : x' < x
        · exact (gap x' x t e' h2 (runs_nonneg f t' x' k4).1 k3 h4 h5).elim
        · omega
    subst hx
    rw [runs_one f t t' x h4 k4]
/-- One more span. -/
theorem runs_new {f : Int → Int} {t : List Sp} {x y v : Int} (h : RunsR f t x) (hxy : x ≤ y) (hv : ∀ p, x ≤ p → p ≤ y → f p = v) (hn : headNe t v) : RunsR f ((x, y, v) :: t) (y + 1) :=
  ⟨rfl, hxy, hv, h, hn⟩
/-- The last span goes on. -/
theorem runs_on {f : Int → Int} {t : List Sp} {x y v b : Int} (h : RunsR f ((x, y, v) :: t) b) (y' : Int) (hy : b ≤ y') (hv : ∀ p, b ≤ p → p ≤ y' → f p = v) : RunsR f ((x, y', v) :: t) (y' + 1) := by
  obtain ⟨h1, h2, h3, h4, h5⟩ := h
  refine ⟨rfl, by omega, fun p hp1 hp2 => ?_, h4, h5⟩
  by_cases e : p ≤ y
  · exact h3 p hp1 e
  · exact hv p (by omega) hp2
theorem headNe_nil (v : Int) : headNe [] v := fun r h => by simp at h
theorem headNe_cons (r : Sp) (t : List Sp) (v : Int) (h : r.2.2 ≠ v) : headNe (r :: t) v := by
  intro r' h'
  simp at h'
  rw [← h']; exact h
end Go.Proofs.YtjncfkcpjjnmdaaDoor
/- Right spans, their points, and sets of points as spans: there is one set. No Go in sight. -/
namespace Go.Proofs.YtjncfkcpjjnmdaaDoor
def gx (L : List Sp) (i : Nat) : Sp := L.getD i (0, 0, 0)
theorem drop_gx (L : List Sp) (k : Nat) (h : k < L.length) : L.drop k = gx L k :: L.drop (k + 1) := by
  rw [List.drop_eq_getElem_cons h]
  simp [gx, List.getD, h]
/-- Spans rise behind e, each right. -/
def okFrom : Int → List Sp → Bool
  | _, [] => true
  | e, r :: t => decide (e < r.1) && decide (r.1 ≤ r.2.1) && decide (r.2.1 ≤ 32767) && okFrom r.2.1 t
def right (L : List Sp) : Bool := decide (L.length ≤ 1000) && okFrom (-1) L
def faultOf (L : List Sp) : Int := if right L = true then 0 else 1
/-- Where the span ahead of the k-th one ends. -/
def endAt (L : List Sp) : Nat → Int
  | 0 => -1
  | k + 1 => (gx L k).2.1
def okAt (L : List Sp) (k : Nat) : Bool := okFrom (endAt L k) (L.drop k)
theorem okAt_zero (L : List Sp) : okAt L 0 = okFrom (-1) L := rfl
theorem okAt_end (L : List Sp) (k : Nat) (h : ¬ k < L.length) : okAt L k = true := by
  unfold okAt
  rw [List.drop_eq_nil_of_le (by omega)]
  rfl
theorem okAt_step (L : List Sp) (k : Nat) (h : k < L.length) : okAt L k = (decide (endAt L k < (gx L k).1) && decide ((gx L k).1 ≤ (gx L k).2.1) && decide ((gx L k).2.1 ≤ 32767) && okAt L (k + 1)) := by
  unfold okAt
  rw [drop_gx L k h]
  rfl
theorem okFrom_all {e : Int} {L : List Sp} (h : okFrom e L = true) (he : -1 ≤ e) : ∀ i, i < L.length → e < (gx L i).1 ∧ (gx L i).1 ≤ (gx L i).2.1 ∧ (gx L i).2.1 ≤ 32767 := by
  induction L generalizing e with
  | nil => intro i hi; simp at hi
  | cons r t ih =>
    simp only [okFrom, Bool.and_eq_true, decide_eq_true_eq] at h
    obtain ⟨⟨⟨h1, h2⟩, h3⟩, h4⟩ := h
    intro i hi
    match i with
    | 0 => exact ⟨h1, h2, h3⟩
    | i + 1 =>
      have := ih h4 (by omega) i (by simpa using hi)
      have e2 : gx (r :: t) (i + 1) = gx t i := by simp [gx]
      rw [e2]
      exact ⟨by omega, this.2⟩
theorem right_ok {L : List Sp} (h : right L = true) : L.length ≤ 1000 ∧ okFrom (-1) L = true := by
  simpa [right] using h
theorem right_all {L : List Sp} (h : right L = true) (i : Nat) (hi : i < L.length) : 0 ≤ (gx L i).1 ∧ (gx L i).1 ≤ (gx L i).2.1 ∧ (gx L i).2.1 ≤ 32767 := by
  have := okFrom_all (right_ok h).2 (by omega) i hi
  exact ⟨by omega, this.2⟩
theorem okFrom_next {e : Int} {L : List Sp} (h : okFrom e L = true) : ∀ i, i + 1 < L.length → (gx L i).2.1 < (gx L (i + 1)).1 := by
  induction L generalizing e with
  | nil => intro i hi; simp at hi
  | cons r t ih =>
    simp only [okFrom, Bool.and_eq_true, decide_eq_true_eq] at h
    obtain ⟨⟨⟨h1, h2⟩, h3⟩, h4⟩ := h
    intro i hi
    match i with
    | 0 =>
      match t, h4, hi with
      | s :: u, h4, _ =>
        simp only [okFrom, Bool.and_eq_true, decide_eq_true_eq] at h4
        exact h4.1.1.1
    | i + 1 =>
      have := ih h4 i (by simpa using hi)
      simpa [gx] using this
theorem right_next {L : List Sp} (h : right L = true) (i : Nat) (hi : i + 1 < L.length) : (gx L i).2.1 < (gx L (i + 1)).1 := okFrom_next (right_ok h).2 i hi
/-- One of the spans has the point. -/
def has (L : List Sp) (p : Int) : Bool := L.any fun r => decide (r.1 ≤ p) && decide (p ≤ r.2.1)
def hasAt (L : List Sp) (k : Nat) (p : Int) : Bool := has (L.drop k) p
theorem hasAt_zero (L : List Sp) (p : Int) : hasAt L 0 p = has L p := rfl
theorem hasAt_end (L : List Sp) (k : Nat) (p : Int) (h : ¬ k < L.length) : hasAt L k p = false := by
  unfold hasAt
  rw [List.drop_eq_nil_of_le (by omega)]
  rfl
theorem hasAt_step (L : List Sp) (k : Nat) (p : Int) (h : k < L.length) : hasAt L k p = ((decide ((gx L k).1 ≤ p) && decide (p ≤ (gx L k).2.1)) || hasAt L (k + 1) p) := by
  unfold hasAt
  rw [drop_gx L k h]
  rfl
theorem has_iff (L : List Sp) (p : Int) : has L p = true ↔ ∃ i, i < L.length ∧ (gx L i).1 ≤ p ∧ p ≤ (gx L i).2.1 := by
  unfold has
  rw [List.any_eq_true]
  constructor
  · rintro ⟨r, hr, h⟩
    obtain ⟨i, hi, rfl⟩ := List.getElem_of_mem hr
    simp only [Bool.and_eq_true, decide_eq_true_eq] at h
    exact ⟨i, hi, by simpa [gx, List.getD, hi] using h⟩
  · rintro ⟨i, hi, h⟩
    refine ⟨L[i], List.getElem_mem hi, ?_⟩
    simp only [Bool.and_eq_true, decide_eq_true_eq]
    simpa [gx, List.getD, hi] using h
/-- The edges: the first point of each span, and the first one behind it. -/
def edge (L : List Sp) (k : Nat) : Int := if k = 2 * L.length then 32769 else if k % 2 = 1 then (gx L (k / 2)).2.1 + 1 else (gx L (k / 2)).1
theorem edge_end (L : List Sp) : edge L (2 * L.length) = 32769 := by simp [edge]
theorem edge_odd (L : List Sp) (k : Nat) (_ : k < 2 * L.length) (ho : k % 2 = 1) : edge L k = (gx L (k / 2)).2.1 + 1 := by
  unfold edge; rw [if_neg (by omega), if_pos ho]
theorem edge_even (L : List Sp) (k : Nat) (h : k < 2 * L.length) (ho : ¬ k % 2 = 1) : edge L k = (gx L (k / 2)).1 := by
  unfold edge; rw [if_neg (by omega), if_neg ho]
theorem edge_bd {L : List Sp} (hr : right L = true) (k : Nat) (h : k < 2 * L.length) : 0 ≤ edge L k ∧ edge L k ≤ 32768 := by
  have := right_all hr (k / 2) (by omega)
  by_cases ho : k % 2 = 1
  · rw [edge_odd L k h ho]; omega
  · rw [edge_even L k h ho]; omega
theorem edge_mono {L : List Sp} (hr : right L = true) (k : Nat) (h : k < 2 * L.length) : edge L k ≤ edge L (k + 1) := by
  by_cases he : k + 1 = 2 * L.length
  · rw [he, edge_end]
    have := edge_bd hr k h
    omega
  · by_cases ho : k % 2 = 1
    · rw [edge_odd L k h ho, edge_even L (k + 1) (by omega) (by omega)]
      have := right_next hr (k / 2) (by omega)
      have e : (k + 1) / 2 = k / 2 + 1 := by omega
      rw [e]
      omega
    · rw [edge_even L k h ho, edge_odd L (k + 1) (by omega) (by omega)]
      have := right_all hr (k / 2) (by omega)
      have e : (k + 1) / 2 = k / 2 := by omega
      rw [e]
      omega
theorem right_mono {L : List Sp} (hr : right L = true) : ∀ (j i : Nat), i < j → j < L.length → (gx L i).2.1 < (gx L j).1 := by
  intro j
  induction j with
  | zero => intro i h; omega
  | succ j ih =>
    intro i hij hj
    have h1 := right_next hr j hj
    by_cases e : i = j
    · subst e; exact h1
    · have h2 := ih i (by omega) (by omega)
      have h3 := right_all hr j (by omega)
      omega
/-- Between two edges side by side all points are in, or none is. -/
theorem has_between {L : List Sp} (hr : right L = true) (k : Nat) (hk : k ≤ 2 * L.length) (p : Int) (h1 : k = 0 ∨ edge L (k - 1) ≤ p) (h2 : p < edge L k) : has L p = decide (k % 2 = 1) := by
  by_cases ho : k % 2 = 1
  · rw [decide_eq_true ho]
    rw [edge_odd L k (by omega) ho] at h2
    have h1' : edge L (k - 1) ≤ p := h1.resolve_left (by omega)
    rw [edge_even L (k - 1) (by omega) (by omega)] at h1'
    have e : (k - 1) / 2 = k / 2 := by omega
    rw [e] at h1'
    exact (has_iff L p).2 ⟨k / 2, by omega, h1', by omega⟩
  · rw [decide_eq_false ho]
    rw [Bool.eq_false_iff]
    intro hh
    obtain ⟨i, hi, a, b⟩ := (has_iff L p).1 hh
    by_cases hlt : i < k / 2
    · have h1' : edge L (k - 1) ≤ p := h1.resolve_left (by omega)
      rw [edge_odd L (k - 1) (by omega) (by omega)] at h1'
      by_cases e : i = (k - 1) / 2
      · rw [← e] at h1'; omega
      · have := right_mono hr ((k - 1) / 2) i (by omega) (by omega)
        have := right_all hr ((k - 1) / 2) (by omega)
        omega
    · have hke : ¬ k = 2 * L.length := by omega
      rw [edge_even L k (by omega) ho] at h2
      by_cases e : i = k / 2
      · rw [← e] at h2; omega
      · have := right_mono hr i (k / 2) (by omega) hi
        have := right_all hr (k / 2) (by omega)
        omega
/-- The spans, the last one first, are of the value 1 and the longest stretches of the points 0 .. b - 1 of which f is true. -/
def SetsR (f : Int → Bool) : List Sp → Int → Prop
  | [], b => 0 ≤ b ∧ ∀ p, 0 ≤ p → p < b → f p = false
  | (x, y, v) :: t, b => v = 1 ∧ 0 ≤ x ∧ x ≤ y ∧ y < b ∧ (∀ p, x ≤ p → p ≤ y → f p = true) ∧ (∀ p, y < p → p < b → f p = false) ∧ (0 < x → f (x - 1) = false) ∧ SetsR f t x
theorem sets_nonneg {f : Int → Bool} {l : List Sp} {b : Int} (h : SetsR f l b) : 0 ≤ b := by
  match l, h with
  | [], h => exact h.1
  | (x, y, v) :: t, h => obtain ⟨_, h1, h2, h3, _⟩ := h; omega
theorem sets_one (f : Int → Bool) : ∀ (l l' : List Sp) (b : Int), SetsR f l b → SetsR f l' b → l = l'
  | [], [], _, _, _ => rfl
  | [], (x, y, v) :: t, b, h, h' => by
    obtain ⟨_, h1, h2, h3, h4, _⟩ := h'
    have := h.2 y (by omega) h3
    rw [h4 y h2 (Int.le_refl _)] at this
    cases this
  | (x, y, v) :: t, [], b, h, h' => by
    obtain ⟨_, h1, h2, h3, h4, _⟩ := h
    have := h'.2 y (by omega) h3
    rw [h4 y h2 (Int.le_refl _)] at this
    cases this
  | (x, y, v) :: t, (x', y', v') :: t', b, h, h' => by
    obtain ⟨rfl, h1, h2, h3, h4, h5, h6, h7⟩ := h
    obtain ⟨rfl, k1, k2, k3, k4, k5, k6, k7⟩ := h'
    have hy : y = y' := by
      by_cases e : y < y'
      · have := h5 y' e k3
        rw [k4 y' k2 (Int.le_refl _)] at this
        cases this
      · by_cases e' : y' < y
        · have := k5 y e' h3
          rw [h4 y h2 (Int.le_refl _)] at this
          cases this
        · omega
    subst hy
    have hx : x = x' := by
      by_cases e : x < x'
      · have := k6 (by omega)
        rw [h4 (x' - 1) (by omega) (by omega)] at this
        cases this
      · by_cases e' : x' < x
        · have := h6 (by omega)
          rw [k4 (x - 1) (by omega) (by omega)] at this
          cases this
        · omega
    subst hx
    rw [sets_one f t t' x h7 k7]
/-- Points that are not in, behind all. -/
theorem sets_gap {f : Int → Bool} {l : List Sp} {b c : Int} (h : SetsR f l b) (hbc : b ≤ c) (hf : ∀ p, b ≤ p → p < c → f p = false) : SetsR f l c := by
  match l, h with
  | [], h =>
    refine ⟨by have := h.1; omega, fun p h0 h1 => ?_⟩
    by_cases e : p < b
    · exact h.2 p h0 e
    · exact hf p (by omega) h1
  | (x, y, v) :: t, h =>
    obtain ⟨h0, h1, h2, h3, h4, h5, h6, h7⟩ := h
    refine ⟨h0, h1, h2, by omega, h4, fun p a c' => ?_, h6, h7⟩
    by_cases e : p < b
    · exact h5 p a e
    · exact hf p (by omega) c'
/-- A stretch more, not side by side with the last span. -/
theorem sets_new {f : Int → Bool} {l : List Sp} {b c : Int} (h : SetsR f l b) (hbc : b ≤ c) (hf : ∀ p, b ≤ p → p ≤ c → f p = true) (hn : 0 < b → f (b - 1) = false) : SetsR f ((b, c, 1) :: l) (c + 1) :=
  ⟨rfl, sets_nonneg h, hbc, by omega, hf, fun p a c' => by omega, hn, h⟩
/-- The last span goes on. -/
theorem sets_on {f : Int → Bool} {t : List Sp} {x y v b c : Int} (h : SetsR f ((x, y, v) :: t) b) (hy : y + 1 = b) (hbc : b ≤ c) (hf : ∀ p, b ≤ p → p ≤ c → f p = true) : SetsR f ((x, c, v) :: t) (c + 1) := by
  obtain ⟨h0, h1, h2, h3, h4, h5, h6, h7⟩ := h
  refine ⟨h0, h1, by omega, by omega, fun p a d => ?_, fun p a d => by omega, h6, h7⟩
  by_cases e : p ≤ y
  · exact h4 p a e
  · exact hf p (by omega) d
/-- Where the last span does not end right ahead of b, the point there is not in. -/
theorem sets_before {f : Int → Bool} {l : List Sp} {b : Int} (h : SetsR f l b) (hn : ∀ r ∈ l.head?, r.2.1 + 1 ≠ b) (hb : 0 < b) : f (b - 1) = false := by
  match l, h, hn with
  | [], h, _ => exact h.2 (b - 1) (by omega) (by omega)
  | (x, y, v) :: t, h, hn =>
    obtain ⟨h0, h1, h2, h3, h4, h5, h6, h7⟩ := h
    have : y + 1 ≠ b := hn (x, y, v) (by simp)
    exact h5 (b - 1) (by omega) (by omega)
def bI (b : Bool) : Int := if b = true then 1 else 0
/-- Of stretches of 0 and 1 those of 1 are the set. -/
theorem sets_of_runs (f : Int → Bool) : ∀ (l : List Sp) (b : Int), RunsR (fun p => bI (f p)) l b → SetsR f (l.filter fun r => r.2.2 == 1) b
  | [], b, h => by
    have h' : b = 0 := h
    exact ⟨by omega, fun p a c => by omega⟩
  | (x, y, v) :: t, b, h => by
    obtain ⟨h1, h2, h3, h4, h5⟩ := h
    have ih := sets_of_runs f t x h4
    have hx0 := (runs_nonneg _ t x h4).1
    have hvy := h3 y h2 (Int.le_refl _)
    by_cases hv : v = 1
    · subst hv
      have e : ((x, y, (1 : Int)) :: t).filter (fun r => r.2.2 == 1) = (x, y, 1) :: t.filter (fun r => r.2.2 == 1) := by simp
      rw [e]
      have hf : ∀ p, x ≤ p → p ≤ y → f p = true := fun p a c => by
        have := h3 p a c
        simp only [bI] at this
        split at this
        · assumption
        · omega
      have := sets_new ih h2 hf (fun hx => by
        match t, h4, h5 with
        | [], h4, _ => have : x = 0 := h4; omega
        | (x', y', v') :: t', h4, h5 =>
          obtain ⟨k1, k2, k3, _, _⟩ := h4
          have hne : v' ≠ 1 := h5 (x', y', v') (by simp)
          have := k3 y' k2 (Int.le_refl _)
          rw [show x - 1 = y' by omega]
          simp only [bI] at this
          cases hq : f y'
          · rfl
          · rw [hq] at this; simp at this; omega)
      rwa [h1] at this
    · have e : ((x, y, v) :: t).filter (fun r => r.2.2 == 1) = t.filter (fun r => r.2.2 == 1) := by
        rw [List.filter_cons_of_neg]
        simpa using hv
      rw [e]
      refine sets_gap ih (by omega) (fun p a c => ?_)
      have := h3 p a (by omega)
      have hb := hvy
      simp only [bI] at this
      cases hq : f p
      · rfl
      · rw [hq] at this; simp at this; omega
end Go.Proofs.YtjncfkcpjjnmdaaDoor
/- Rows of spans: a copy of one, and what is read of one. -/
namespace Go.Proofs.YtjncfkcpjjnmdaaDoor
open Go.RowKit
theorem infoSp : (Tryd.prog.info? 33).map (fun i => (i.zero, i.size, i.bytes)) = some (some (.agg #[.int .i64 0, .int .i64 0, .int .i64 0]), 3, 24) := by kernel_rfl
/-- The cells of spans. -/
def cells (L : List Sp) : List Value := L.flatMap fun r => [.int .i64 r.1, .int .i64 r.2.1, .int .i64 r.2.2]
theorem cells_cons (a : Sp) (t : List Sp) : cells (a :: t) = [.int .i64 a.1, .int .i64 a.2.1, .int .i64 a.2.2] ++ cells t := rfl
theorem cells_len (L : List Sp) : (cells L).length = L.length * 3 := by
  induction L with
  | nil => rfl
  | cons a t ih => rw [cells_cons, List.length_append, ih, List.length_cons]; simp; omega
theorem cells_snoc (L : List Sp) (r : Sp) : cells (L ++ [r]) = cells L ++ [.int .i64 r.1, .int .i64 r.2.1, .int .i64 r.2.2] := by
  unfold cells; rw [List.flatMap_append, List.flatMap_singleton]
theorem cells_append (L M : List Sp) : cells (L ++ M) = cells L ++ cells M := by unfold cells; rw [List.flatMap_append]
/-- Spans in a row of the call's own. -/
def SpRow (w : World) (B : Nat) (v : Value) (L : List Sp) : Prop := w.ownsRow B 33 3 v L.length (cells L)
theorem SpRow.below {w w' : World} {B : Nat} {v : Value} {L : List Sp} (h : SpRow w B v L) (hb : Below w.heap.size w w') : SpRow w' B v L := ownsRow_below h hb
theorem cells_at (L : List Sp) (i j : Nat) (hi : i < L.length) (hj : j < 3) : (cells L)[i * 3 + j]? = [Value.int .i64 (gx L i).1, .int .i64 (gx L i).2.1, .int .i64 (gx L i).2.2][j]? := by
  induction L generalizing i with
  | nil => simp at hi
  | cons a t ih =>
    rw [cells_cons]
    match i with
    | 0 =>
      rw [List.getElem?_append_left (by simp; omega)]
      simp [gx]
    | i + 1 =>
      rw [List.getElem?_append_right (by simp; omega)]
      have e : (i + 1) * 3 + j - [Value.int .i64 a.1, .int .i64 a.2.1, .int .i64 a.2.2].length = i * 3 + j := by simp; omega
      rw [e, ih i (by simpa using hi)]
      simp [gx]
theorem SpRow.read {w : World} {B g c : Nat} {L : List Sp} (h : SpRow w B (.slice (some ⟨g, 0, none⟩) L.length c) L) (i : Nat) (hi : i < L.length) :
    w.cell? ⟨g, i * 3, none⟩ = some (.int .i64 (gx L i).1) ∧ w.cell? ⟨g, i * 3 + 1, none⟩ = some (.int .i64 (gx L i).2.1) ∧ w.cell? ⟨g, i * 3 + 2, none⟩ = some (.int .i64 (gx L i).2.2) :=
  ⟨(World.ownsRow.cellAt h (i * 3) (by omega)).trans (cells_at L i 0 hi (by omega)), (World.ownsRow.cellAt h (i * 3 + 1) (by omega)).trans (cells_at L i 1 hi (by omega)), (World.ownsRow.cellAt h (i * 3 + 2) (by omega)).trans (cells_at L i 2 hi (by omega))⟩
theorem SpRow.form {w : World} {B : Nat} {v : Value} {L : List Sp} (h : SpRow w B v L) : ∃ a c, v = .slice a L.length c ∧ (0 < L.length → ∃ g, a = some ⟨g, 0, none⟩ ∧ B ≤ g ∧ g < w.heap.size) := by
  rcases h.2 with ⟨hv, hn⟩ | ⟨g, cap, cur, hv, hg, hh, _⟩
  · exact ⟨none, 0, by rw [hv, hn], fun h => by omega⟩
  · exact ⟨_, _, hv, fun _ => ⟨g, rfl, hg, (Array.getElem?_eq_some_iff.1 hh).1⟩⟩
theorem wrap_in (x : Int) (h0 : -9223372036854775808 ≤ x) (h1 : x ≤ 9223372036854775807) : IntKind.i64.wrap x = x := by
  simp [IntKind.wrap, IntKind.signed, IntKind.bits]; omega
theorem cell_alloc {w : World} {a : Addr} {v : Value} (h : w.cell? a = some v) (o : Obj) : (w.alloc o).cell? a = some v := (World.cell?_of_block (Below.heap_alloc w o a.block (block_lt_of_cell h))).trans h
/-- A slice value that holds just the spans L. -/
def SpsAt (w : World) (v : Value) (L : List Sp) : Prop :=
  ∃ a cap, v = .slice a L.length cap ∧ (L = [] ∨ ∃ b off, a = some ⟨b, off, none⟩ ∧ b < w.heap.size ∧ ∀ i, i < L.length → w.cell? ⟨b, off + i * 3, none⟩ = some (.int .i64 (gx L i).1) ∧ w.cell? ⟨b, off + i * 3 + 1, none⟩ = some (.int .i64 (gx L i).2.1) ∧ w.cell? ⟨b, off + i * 3 + 2, none⟩ = some (.int .i64 (gx L i).2.2))
theorem SpsAt.below {w w' : World} {v : Value} {L : List Sp} (h : SpsAt w v L) (hb : Below w.heap.size w w') : SpsAt w' v L := by
  obtain ⟨a, cap, rfl, h⟩ := h
  refine ⟨a, cap, rfl, ?_⟩
  rcases h with h | ⟨b, off, rfl, hbs, hc⟩
  · exact .inl h
  · exact .inr ⟨b, off, rfl, Nat.lt_of_lt_of_le hbs hb.size, fun i hi => ⟨(hb.cell (p := ⟨b, off + i * 3, none⟩) hbs).trans (hc i hi).1, (hb.cell (p := ⟨b, off + i * 3 + 1, none⟩) hbs).trans (hc i hi).2.1, (hb.cell (p := ⟨b, off + i * 3 + 2, none⟩) hbs).trans (hc i hi).2.2⟩⟩
/-- The first k spans of L, and zeros behind them. -/
def fillS (L : List Sp) (k : Nat) : List Sp := L.take k ++ List.replicate (L.length - k) (0, 0, 0)
theorem fillS_zero (L : List Sp) : fillS L 0 = List.replicate L.length (0, 0, 0) := by simp [fillS]
theorem fillS_all (L : List Sp) : fillS L L.length = L := by simp [fillS]
theorem fillS_len (L : List Sp) (k : Nat) (h : k ≤ L.length) : (fillS L k).length = L.length := by simp [fillS]; omega
theorem rep_cells (n : Nat) : cells (List.replicate n (0, 0, 0)) = (madeCells #[Value.int .i64 0, .int .i64 0, .int .i64 0] (n * 3)).toList := by
  apply List.ext_getElem?
  intro i
  unfold madeCells
  rw [Array.toList_map, List.getElem?_map, Array.toList_range]
  by_cases h : i < n * 3
  · rw [List.getElem?_range h, show i = i / 3 * 3 + i % 3 by omega, cells_at _ _ _ (by simp; omega) (by omega)]
    have e : gx (List.replicate n ((0, 0, 0) : Sp)) (i / 3) = (0, 0, 0) := by
      rw [gx, List.getD_eq_getElem?_getD, List.getElem?_replicate, if_pos (by omega)]; rfl
    rw [e]
    have hm : i % 3 = 0 ∨ i % 3 = 1 ∨ i % 3 = 2 := by omega
    rcases hm with hm | hm | hm <;> simp [hm, Nat.add_mod]
  · rw [List.getElem?_eq_none (by rw [cells_len]; simp; omega), List.getElem?_eq_none (by simp; omega)]
    rfl
theorem cells_set3 (A C : List Sp) (r s : Sp) : (((cells (A ++ r :: C)).set (A.length * 3) (.int .i64 s.1)).set (A.length * 3 + 1) (.int .i64 s.2.1)).set (A.length * 3 + 2) (.int .i64 s.2.2) = cells (A ++ s :: C) := by
  rw [cells_append, cells_append, cells_cons, cells_cons]
  have hl := cells_len A
  rw [List.set_append_right _ _ (by omega), List.set_append_right _ _ (by omega), List.set_append_right _ _ (by omega)]
  congr 1
  rw [hl, Nat.sub_self, show A.length * 3 + 1 - A.length * 3 = 1 by omega, show A.length * 3 + 2 - A.length * 3 = 2 by omega]
  rfl
theorem fillS_set (L : List Sp) (k : Nat) (h : k < L.length) : (((cells (fillS L k)).set (k * 3) (.int .i64 (gx L k).1)).set (k * 3 + 1) (.int .i64 (gx L k).2.1)).set (k * 3 + 2) (.int .i64 (gx L k).2.2) = cells (fillS L (k + 1)) := by
  have hk : (L.take k).length = k := by simp; omega
  have e1 : L.length - k = (L.length - (k + 1)) + 1 := by omega
  have := cells_set3 (L.take k) (List.replicate (L.length - (k + 1)) (0, 0, 0)) (0, 0, 0) (gx L k)
  rw [hk] at this
  unfold fillS
  rw [e1, List.replicate_succ, this, List.take_succ_eq_append_getElem h, List.append_assoc]
  have e2 : gx L k = L[k] := by simp [gx, List.getD, h]
  rw [e2]
  rfl
theorem made_below {w w1 : World} (h : w.grownBy w1 none) : Below w.heap.size w w1 := (Below.refl _ _).grown h (Nat.le_refl _) (fun k hk => by cases hk)
/-- The three cells of one span, stored. -/
theorem row3_stored {w : World} {B g n c : Nat} {xs : List Value} (h : w.ownsRow B 33 3 (.slice (some ⟨g, 0, none⟩) n c) n xs) (k : Nat) (x y z : Value) :
    (((w.setCell ⟨g, k * 3, none⟩ x).setCell ⟨g, k * 3 + 1, none⟩ y).setCell ⟨g, k * 3 + 2, none⟩ z).ownsRow B 33 3 (.slice (some ⟨g, 0, none⟩) n c) n (((xs.set (k * 3) x).set (k * 3 + 1) y).set (k * 3 + 2) z) :=
  (((h.stored (k * 3) x).1.stored (k * 3 + 1) y).1.stored (k * 3 + 2) z).1
theorem row3_at {w : World} {B g n c : Nat} {xs : List Value} (h : w.ownsRow B 33 3 (.slice (some ⟨g, 0, none⟩) n c) n xs) (j : Nat) (hj : j < n * 3) : ∃ x, w.cell? ⟨g, j, none⟩ = some x ∧ w.frozen? ⟨g, j, none⟩ = false := by
  have hn : xs.length = n * 3 := h.1
  have := h.cellAt j hj
  rw [List.getElem?_eq_getElem (by omega)] at this
  exact ⟨_, this, h.frozenAt j⟩
end Go.Proofs.YtjncfkcpjjnmdaaDoor
/- Slices of int64 beside rows of spans: a copy of one, and two that are alike. -/
namespace Go.Proofs.YtjncfkcpjjnmdaaDoor
open Go.RowKit
def nth (l : List Int) (i : Nat) : Int := l.getD i 0
/-- A slice value that holds just the numbers l. -/
def IntsAt (w : World) (v : Value) (l : List Int) : Prop :=
  ∃ a cap, v = .slice a l.length cap ∧ (l = [] ∨ ∃ b off, a = some ⟨b, off, none⟩ ∧ b < w.heap.size ∧ ∀ i, i < l.length → w.cell? ⟨b, off + i, none⟩ = some (.int .i64 (nth l i)))
theorem IntsAt.below {w w' : World} {v : Value} {l : List Int} (h : IntsAt w v l) (hb : Below w.heap.size w w') : IntsAt w' v l := by
  obtain ⟨a, cap, rfl, h⟩ := h
  refine ⟨a, cap, rfl, ?_⟩
  rcases h with h | ⟨b, off, rfl, hbs, hc⟩
  · exact .inl h
  · exact .inr ⟨b, off, rfl, Nat.lt_of_lt_of_le hbs hb.size, fun i hi => (hb.cell (p := ⟨b, off + i, none⟩) hbs).trans (hc i hi)⟩
theorem IntsAt.owned {w : World} {base : Nat} {v : Value} {l : List Int} {n : Nat} (h : w.ownsRow base 2 1 v n (l.map (Value.int .i64))) : IntsAt w v l := by
  have hl : l.length = n := by simpa using h.1
  rcases h.2 with ⟨hv, hn⟩ | ⟨g, cap, cur, hv, hg, hh, hn, hm, hs, ht⟩
  · exact ⟨none, 0, by rw [hv, hl, hn], .inl (List.length_eq_zero_iff.1 (by omega))⟩
  · subst hv
    refine ⟨some ⟨g, 0, none⟩, cap, by rw [hl], .inr ⟨g, 0, rfl, (Array.getElem?_eq_some_iff.1 hh).1, fun i hi => ?_⟩⟩
    have hc := h.cellAt i (by omega)
    rw [Nat.zero_add, hc, List.getElem?_map]
    simp [nth, List.getD, hi]
theorem info2 : (Tryd.prog.info? 2).map (fun i => (i.zero, i.size, i.bytes)) = some (some (.int .i64 0), 1, 8) := by kernel_rfl
/-- The first k numbers of l, and zeros behind them. -/
def fill (l : List Int) (k : Nat) : List Int := l.take k ++ List.replicate (l.length - k) 0
theorem fill_zero (l : List Int) : fill l 0 = List.replicate l.length 0 := by simp [fill]
theorem fill_all (l : List Int) : fill l l.length = l := by simp [fill]
theorem fill_set (l : List Int) (k : Nat) (h : k < l.length) (f : Int → Value) : ((fill l k).map f).set k (f (nth l k)) = (fill l (k + 1)).map f := by
  rw [← List.map_set]
  congr 1
  unfold fill
  have hk : (l.take k).length = k := by simp; omega
  have e1 : l.length - k = (l.length - (k + 1)) + 1 := by omega
  rw [e1, List.replicate_succ, List.set_append_right _ _ (by omega), hk, Nat.sub_self, List.set_cons_zero, List.take_succ_eq_append_getElem h]
  have e2 : nth l k = l[k] := by simp [nth, List.getD, h]
  rw [e2, List.append_assoc]
  rfl
theorem fill_length (l : List Int) (k : Nat) (h : k ≤ l.length) : (fill l k).length = l.length := by simp [fill]; omega
theorem made_owned {w1 : World} {B : Nat} {v : Value} {l : List Int} (h : w1.ownsRow B 2 1 v l.length (madeCells #[Value.int .i64 0] l.length).toList) : w1.ownsRow B 2 1 v l.length ((fill l 0).map (Value.int .i64)) := by
  have e : (madeCells #[Value.int .i64 0] l.length).toList = (fill l 0).map (Value.int .i64) := by
    rw [fill_zero, List.map_replicate]
    exact toList_madeCells_one _ _
  rw [← e]; exact h
theorem owned_lt {w : World} {base g : Nat} {e : TypeId} {n cap m : Nat} {xs : List Value} (h : w.ownsRow base e 1 (.slice (some ⟨g, 0, none⟩) n cap) m xs) : g < w.heap.size := (h.lt g rfl).2
end Go.Proofs.YtjncfkcpjjnmdaaDoor
/- Points and how they are written: the program's and the specification's. -/
namespace Go.Proofs.YtjncfkcpjjnmdaaDoor
open Go.RowKit
def isPt (p : Int) : Bool := decide (0 ≤ p ∧ p ≤ 1114111 ∧ (p < 55296 ∨ 57343 < p))
theorem isPt_iff (p : Int) : isPt p = true ↔ 0 ≤ p ∧ p ≤ 1114111 ∧ (p < 55296 ∨ 57343 < p) := by simp [isPt]
theorem conv_of (w : World) (b cap : Nat) (zs : List Int) (n : Nat) (hn : zs.length = n) (hc : ∀ i, i < n → w.cell? ⟨b, i, none⟩ = some (.int .u8 (zs.getD i 0))) :
    (convert 22 9 (.slice (some ⟨b, 0, none⟩) n cap)).run Tryd.prog w = .ok (.string (strOfNums zs)) w :=
  run_convert_bytes_arg w 22 5 Tryd.underlying22 Tryd.underlying5 b 0 n cap zs hn (fun i hi => by rw [Nat.zero_add]; exact hc i hi) 9 Tryd.underlying9
theorem conv1 (w : World) (a : Int) : (convert 22 9 (.slice (some ⟨w.heap.size, 0, none⟩) 1 1)).run Tryd.prog (w.alloc (.cells #[.int .u8 a] 5)) = .ok (.string (strOfNums [a])) (w.alloc (.cells #[.int .u8 a] 5)) :=
  conv_of _ _ 1 [a] 1 rfl (fun i hi => by match i, hi with | 0, _ => simp)
theorem conv2 (w : World) (a b : Int) : (convert 22 9 (.slice (some ⟨w.heap.size, 0, none⟩) 2 2)).run Tryd.prog (w.alloc (.cells #[.int .u8 a, .int .u8 b] 5)) = .ok (.string (strOfNums [a, b])) (w.alloc (.cells #[.int .u8 a, .int .u8 b] 5)) :=
  conv_of _ _ 2 [a, b] 2 rfl (fun i hi => by match i, hi with | 0, _ => simp | 1, _ => simp)
theorem conv3 (w : World) (a b c : Int) : (convert 22 9 (.slice (some ⟨w.heap.size, 0, none⟩) 3 3)).run Tryd.prog (w.alloc (.cells #[.int .u8 a, .int .u8 b, .int .u8 c] 5)) = .ok (.string (strOfNums [a, b, c])) (w.alloc (.cells #[.int .u8 a, .int .u8 b, .int .u8 c] 5)) :=
  conv_of _ _ 3 [a, b, c] 3 rfl (fun i hi => by match i, hi with | 0, _ => simp | 1, _ => simp | 2, _ => simp)
theorem conv4 (w : World) (a b c d : Int) : (convert 22 9 (.slice (some ⟨w.heap.size, 0, none⟩) 4 4)).run Tryd.prog (w.alloc (.cells #[.int .u8 a, .int .u8 b, .int .u8 c, .int .u8 d] 5)) = .ok (.string (strOfNums [a, b, c, d])) (w.alloc (.cells #[.int .u8 a, .int .u8 b, .int .u8 c, .int .u8 d] 5)) :=
  conv_of _ _ 4 [a, b, c, d] 4 rfl (fun i hi => by match i, hi with | 0, _ => simp | 1, _ => simp | 2, _ => simp | 3, _ => simp)
theorem ret_str {a b : List Int} (h : a = b) : Ending.returned (.string (strOfNums a)) = .returned (.string (strOfNums b)) := by rw [h]
end Go.Proofs.YtjncfkcpjjnmdaaDoor
/- utf8.AppendRune onto a row of bytes that the call owns. -/
namespace Go.Proofs.YtjncfkcpjjnmdaaDoor
open Go.RowKit
theorem info5 : (Tryd.prog.info? 5).map (fun i => (i.zero, i.size, i.bytes)) = some (some (.int .u8 0), 1, 1) := by kernel_rfl
def runeCells (r : Int) : List Value := (Lib.encodeRuneZ r).map (Value.int .u8)
theorem grown_belowA {B : Nat} {w w' : World} {v : Value} {o : Obj} {n : Nat} {xs : List Value} (hown : w.ownsRow B 5 1 v n xs) (hB : B ≤ w.heap.size) (h : (w.alloc o).grownBy w' v.ownBlock) : Below B w w' :=
  ((Below.refl B w).alloc hB o).grown h (by simp; omega) (fun k hk => (hown.lt k hk).1)
end Go.Proofs.YtjncfkcpjjnmdaaDoor
/- TextOf of the program and of the specification answer with the bytes of the points. -/
namespace Go.Proofs.YtjncfkcpjjnmdaaDoor
open Go.RowKit
def textL (l : List Int) : List Int := l.flatMap Lib.encodeRuneZ
theorem textL_snoc (l : List Int) (k : Nat) (h : k < l.length) : textL (l.take (k + 1)) = textL (l.take k) ++ Lib.encodeRuneZ (nth l k) := by
  have e : nth l k = l[k] := by simp [nth, List.getD, h]
  rw [List.take_succ_eq_append_getElem h, e]
  unfold textL
  rw [List.flatMap_append, List.flatMap_singleton]
theorem textL_le (l : List Int) : (textL l).length ≤ 4 * l.length := by
  induction l with
  | nil => simp [textL]
  | cons a t ih =>
    have h1 := (Lib.encodeRuneZ_length a).2
    have h2 : textL (a :: t) = Lib.encodeRuneZ a ++ textL t := by simp [textL]
    rw [h2, List.length_append, List.length_cons]
    omega
theorem textL_take (l : List Int) (k : Nat) : (textL (l.take k)).length ≤ 4 * k := by
  have h1 := textL_le (l.take k)
  have h2 : (l.take k).length ≤ k := List.length_take_le _ _
  omega
theorem conv_owned (w : World) (B : Nat) (v : Value) (n : Nat) (zs : List Int) (h : w.ownsRow B 5 1 v n (zs.map (Value.int .u8))) :
    (convert 22 9 v).run Tryd.prog w = .ok (.string (strOfNums zs)) w := by
  have hl : zs.length = n := by simpa using h.1
  rcases h.2 with ⟨rfl, hn⟩ | ⟨g, cap, cur, hv, hg, hh, hn, hm, hs, ht⟩
  · obtain rfl : zs = [] := List.length_eq_zero_iff.1 (by omega)
    exact Lib.run_convert_nil_bytes w 22 9 5 0 Tryd.underlying22 Tryd.underlying5 Tryd.underlying9
  · subst hv
    refine conv_of w g cap zs n hl fun i hi => ?_
    rw [h.cellAt i (by omega), List.getElem?_map]
    simp [List.getD, show i < zs.length by omega]
theorem strCells_nums (zs : List Int) (h : ∀ x ∈ zs, 0 ≤ x ∧ x < 256) : Lib.strCells (strOfNums zs) = zs.map (Value.int .u8) := by
  unfold Lib.strCells
  rw [strOfNums_data, List.map_map]
  apply List.map_congr_left
  intro x hx
  have := h x hx
  simp only [Function.comp]
  congr 1
  rw [UInt8.toNat_ofNat_of_lt' (by show x.toNat < 256; omega)]
  omega
theorem text_step {w wr w2 w3 : World} {s v' : Value} {l : List Int} {k : Nat} (hk : k < l.length) (hb : Below w.heap.size w wr) (hb2 : Below wr.heap.size wr w2)
    (ho2 : w2.ownsRow w.heap.size 5 1 s (textL (l.take k)).length ((textL (l.take k)).map (Value.int .u8)))
    (ho3 : w3.ownsRow w.heap.size 5 1 v' ((textL (l.take k)).length + (strOfNums (Lib.encodeRuneZ (nth l k))).size) ((textL (l.take k)).map (Value.int .u8) ++ Lib.strCells (strOfNums (Lib.encodeRuneZ (nth l k)))))
    (hg : w2.grownBy w3 s.ownBlock) : w3.ownsRow w.heap.size 5 1 v' (textL (l.take (k + 1))).length ((textL (l.take (k + 1))).map (Value.int .u8)) ∧ Below w.heap.size w w3 := by
  constructor
  · rw [textL_snoc l k hk, List.length_append, List.map_append]
    rw [strCells_nums _ (Lib.encodeRuneZ_byte _), strOfNums_size] at ho3
    exact ho3
  · exact (hb.trans (hb2.mono hb.size)).grown hg (Nat.le_trans hb.size hb2.size) (fun j hj => (ho2.lt j hj).1)
end Go.Proofs.YtjncfkcpjjnmdaaDoor
