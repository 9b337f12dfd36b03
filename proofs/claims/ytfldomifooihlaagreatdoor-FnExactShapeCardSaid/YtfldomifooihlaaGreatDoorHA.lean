/- Several texts in one. -/
import Derived.WalkKit
import Derived.WalkLawsBesides
import Derived.WalkSpells
import Derived.Below
import Derived.Test.YtfldomifooihlaaGreatDoorRows
import Derived.BigQuiet
import Derived.Deep.QuietTactic
import Derived.Deep.RegionWith
import Derived.Handy
import Derived.Deep.Cut
import Derived.ArgAppend
import Derived.Deep.RegionLaw
/- Small things that the walks share. -/
namespace Go.Proofs.YtfldomifooihlaaGreatDoor
open Go.RowKit
theorem hide {p : Prop} (h : p) : Hid p := h
theorem unhide {p : Prop} (h : Hid p) : p := h
theorem bdrew {B : Nat} {a w : World} (h : Below B a w) (n : Nat) : Below B a (w.drewN n) := h.trans ⟨rfl, rfl, rfl, Nat.le_refl _, fun _ _ => rfl⟩
theorem ret_int {k : IntKind} {a b : Int} (h : a = b) : Ending.returned (.int k a) = .returned (.int k b) := by rw [h]
theorem ownsRow_below {w w' : World} {base : Nat} {e : TypeId} {size : Nat} {v : Value} {n : Nat} {xs : List Value} (h : w.ownsRow base e size v n xs) (hb : Below w.heap.size w w') : w'.ownsRow base e size v n xs := by
  refine ⟨h.1, ?_⟩
  rcases h.2 with h' | ⟨g, cap, cur, hv, hg, hh, r⟩
  · exact .inl h'
  · have hlt : g < w.heap.size := (Array.getElem?_eq_some_iff.1 hh).1
    exact .inr ⟨g, cap, cur, hv, hg, (hb.block g hlt).trans hh, r⟩
end Go.Proofs.YtfldomifooihlaaGreatDoor
/- Stretches of points of one value: there is one list of them. No Go in sight. -/
namespace Go.Proofs.YtfldomifooihlaaGreatDoor
abbrev Sp := Int × Int × Int
/-- No span ahead has this value. -/
def headNe (t : List Sp) (v : Int) : Prop := ∀ r ∈ t.head?, r.2.2 ≠ v
/-- The spans, the last one first, are the longest stretches of one value of the points 0 .. b - 1. -/
def RunsR (f : Int → Int) : List Sp → Int → Prop
  | [], b => b = 0
  | (x, y, v) :: t, b => y + 1 = b ∧ x ≤ y ∧ (∀ p, x ≤ p → p ≤ y → f p = v) ∧ RunsR f t x ∧ headNe t v
theorem runs_nonneg (f : Int → Int) : ∀ (l : List Sp) (b : Int), RunsR f l b → 0 ≤ b ∧ (l = [] → b = 0)
  | [], b, h => by
    have h' : b = 0 := h
    omega
  | (x, y, v) :: t, b, h => by
    obtain ⟨h1, h2, _, h4, _⟩ := h
    have := (runs_nonneg f t x h4).1
    exact ⟨by omega, fun e => by cases e⟩
theorem runs_one (f : Int → Int) : ∀ (l l' : List Sp) (b : Int), RunsR f l b → RunsR f l' b → l = l'
  | [], [], _, _, _ => rfl
  | [], (x, y, v) :: t, b, h, h' => by
    have hb : b = 0 := h
    obtain ⟨h1, h2, _, h4, _⟩ := h'
    have := (runs_nonneg f t x h4).1
    omega
  | (x, y, v) :: t, [], b, h, h' => by
    have hb : b = 0 := h'
    obtain ⟨h1, h2, _, h4, _⟩ := h
    have := (runs_nonneg f t x h4).1
    omega
  | (x, y, v) :: t, (x', y', v') :: t', b, h, h' => by
    obtain ⟨h1, h2, h3, h4, h5⟩ := h
    obtain ⟨k1, k2, k3, k4, k5⟩ := h'
    have hy : y = y' := by omega
    subst hy
    have hv : v = v' := by rw [← h3 y h2 (Int.le_refl _), ← k3 y k2 (Int.le_refl _)]
    subst hv
    have gap : ∀ (a c : Int) (s : List Sp), a < c → c ≤ y → 0 ≤ a → (∀ p, a ≤ p → p ≤ y → f p = v) → RunsR f s c → headNe s v → False := by
      intro a c s hac hcy ha hf hs hn
      match s, hs, hn with
      | [], hs, _ => have : c = 0 := hs; omega
      | (p, q, u) :: r, hs, hn =>
        obtain ⟨s1, s2, s3, _, _⟩ := hs
        have hu : u = v := by rw [← s3 q s2 (Int.le_refl _), hf q (by omega) (by omega)]
        exact hn (p, q, u) (by simp) hu
    have hx : x = x' := by
      by_cases e : x < x'
      · exact (gap x x' t' e k2 (runs_nonneg f t x h4).1 h3 k4 k5).elim
      · by_cases e' : x' < x
        · exact (gap x' x t e' h2 (runs_nonneg f t' x' k4).1 k3 h4 h5).elim
        · omega
    subst hx
    rw [runs_one f t t' x h4 k4]
/-- One more span. -/
theorem runs_new {f : Int → Int} {t : List Sp} {x y v : Int} (h : RunsR f t x) (hxy : x ≤ y) (hv : ∀ p, x ≤ p → p ≤ y → f p = v) (hn : headNe t v) : RunsR f ((x, y, v) :: t) (y + 1) :=
  ⟨rfl, hxy, hv, h, hn⟩
/-- The last span goes on. -/
theorem runs_on {f : Int → Int} {t : List Sp} {x y v b : Int} (h : RunsR f ((x, y, v) :: t) b) (y' : Int) (hy : b ≤ y') (hv : ∀ p, b ≤ p → p ≤ y' → f p = v) : RunsR f ((x, y', v) :: t) (y' + 1) := by
  obtain ⟨h1, h2, h3, h4, h5⟩ := h
  refine ⟨rfl, by omega, fun p hp1 hp2 => ?_, h4, h5⟩
  by_cases e : p ≤ y
  · exact h3 p hp1 e
  · exact hv p (by omega) hp2
theorem headNe_nil (v : Int) : headNe [] v := fun r h => by simp at h
theorem headNe_cons (r : Sp) (t : List Sp) (v : Int) (h : r.2.2 ≠ v) : headNe (r :: t) v := by
  intro r' h'
  simp at h'
  rw [← h']; exact h
end Go.Proofs.YtfldomifooihlaaGreatDoor
/- Right spans, their points, and sets of points as spans: there is one set. No Go in sight. -/
namespace Go.Proofs.YtfldomifooihlaaGreatDoor
def gx (L : List Sp) (i : Nat) : Sp := L.getD i (0, 0, 0)
theorem drop_gx (L : List Sp) (k : Nat) (h : k < L.length) : L.drop k = gx L k :: L.drop (k + 1) := by
  rw [List.drop_eq_getElem_cons h]
  simp [gx, List.getD, h]
/-- Spans rise behind e, each right. -/
def okFrom : Int → List Sp → Bool
  | _, [] => true
  | e, r :: t => decide (e < r.1) && decide (r.1 ≤ r.2.1) && decide (r.2.1 ≤ 32767) && okFrom r.2.1 t
def right (L : List Sp) : Bool := decide (L.length ≤ 1000) && okFrom (-1) L
def faultOf (L : List Sp) : Int := if right L = true then 0 else 1
/-- Where the span ahead of the k-th one ends. -/
def endAt (L : List Sp) : Nat → Int
  | 0 => -1
  | k + 1 => (gx L k).2.1
def okAt (L : List Sp) (k : Nat) : Bool := okFrom (endAt L k) (L.drop k)
theorem okAt_zero (L : List Sp) : okAt L 0 = okFrom (-1) L := rfl
theorem okAt_end (L : List Sp) (k : Nat) (h : ¬ k < L.length) : okAt L k = true := by
  unfold okAt
  rw [List.drop_eq_nil_of_le (by omega)]
  rfl
theorem okAt_step (L : List Sp) (k : Nat) (h : k < L.length) : okAt L k = (decide (endAt L k < (gx L k).1) && decide ((gx L k).1 ≤ (gx L k).2.1) && decide ((gx L k).2.1 ≤ 32767) && okAt L (k + 1)) := by
  unfold okAt
  rw [drop_gx L k h]
  rfl
theorem okFrom_all {e : Int} {L : List Sp} (h : okFrom e L = true) (he : -1 ≤ e) : ∀ i, i < L.length → e < (gx L i).1 ∧ (gx L i).1 ≤ (gx L i).2.1 ∧ (gx L i).2.1 ≤ 32767 := by
  induction L generalizing e with
  | nil => intro i hi; simp at hi
  | cons r t ih =>
    simp only [okFrom, Bool.and_eq_true, decide_eq_true_eq] at h
    obtain ⟨⟨⟨h1, h2⟩, h3⟩, h4⟩ := h
    intro i hi
    match i with
    | 0 => exact ⟨h1, h2, h3⟩
    | i + 1 =>
      have := ih h4 (by omega) i (by simpa using hi)
      have e2 : gx (r :: t) (i + 1) = gx t i := by simp [gx]
      rw [e2]
      exact ⟨by omega, this.2⟩
theorem right_ok {L : List Sp} (h : right L = true) : L.length ≤ 1000 ∧ okFrom (-1) L = true := by
  simpa [right] using h
theorem right_all {L : List Sp} (h : right L = true) (i : Nat) (hi : i < L.length) : 0 ≤ (gx L i).1 ∧ (gx L i).1 ≤ (gx L i).2.1 ∧ (gx L i).2.1 ≤ 32767 := by
  have := okFrom_all (right_ok h).2 (by omega) i hi
  exact ⟨by omega, this.2⟩
theorem okFrom_next {e : Int} {L : List Sp} (h : okFrom e L = true) : ∀ i, i + 1 < L.length → (gx L i).2.1 < (gx L (i + 1)).1 := by
  induction L generalizing e with
  | nil => intro i hi; simp at hi
  | cons r t ih =>
    simp only [okFrom, Bool.and_eq_true, decide_eq_true_eq] at h
    obtain ⟨⟨⟨h1, h2⟩, h3⟩, h4⟩ := h
    intro i hi
    match i with
    | 0 =>
      match t, h4, hi with
      | s :: u, h4, _ =>
        simp only [okFrom, Bool.and_eq_true, decide_eq_true_eq] at h4
        exact h4.1.1.1
    | i + 1 =>
      have := ih h4 i (by simpa using hi)
      simpa [gx] using this
theorem right_next {L : List Sp} (h : right L = true) (i : Nat) (hi : i + 1 < L.length) : (gx L i).2.1 < (gx L (i + 1)).1 := okFrom_next (right_ok h).2 i hi
/-- One of the spans has the point. -/
def has (L : List Sp) (p : Int) : Bool := L.any fun r => decide (r.1 ≤ p) && decide (p ≤ r.2.1)
def hasAt (L : List Sp) (k : Nat) (p : Int) : Bool := has (L.drop k) p
theorem hasAt_zero (L : List Sp) (p : Int) : hasAt L 0 p = has L p := rfl
theorem hasAt_end (L : List Sp) (k : Nat) (p : Int) (h : ¬ k < L.length) : hasAt L k p = false := by
  unfold hasAt
  rw [List.drop_eq_nil_of_le (by omega)]
  rfl
theorem hasAt_step (L : List Sp) (k : Nat) (p : Int) (h : k < L.length) : hasAt L k p = ((decide ((gx L k).1 ≤ p) && decide (p ≤ (gx L k).2.1)) || hasAt L (k + 1) p) := by
  unfold hasAt
  rw [drop_gx L k h]
  rfl
theorem has_iff (L : List Sp) (p : Int) : has L p = true ↔ ∃ i, i < L.length ∧ (gx L i).1 ≤ p ∧ p ≤ (gx L i).2.1 := by
  unfold has
  rw [List.any_eq_true]
  constructor
  · rintro ⟨r, hr, h⟩
    obtain ⟨i, hi, rfl⟩ := List.getElem_of_mem hr
    simp only [Bool.and_eq_true, decide_eq_true_eq] at h
    exact ⟨i, hi, by simpa [gx, List.getD, hi] using h⟩
  · rintro ⟨i, hi, h⟩
    refine ⟨L[i], List.getElem_mem hi, ?_⟩
    simp only [Bool.and_eq_true, decide_eq_true_eq]
    simpa [gx, List.getD, hi] using h
/-- The edges: the first point of each span, and the first one behind it. -/
def edge (L : List Sp) (k : Nat) : Int := if k = 2 * L.length then 32769 else if k % 2 = 1 then (gx L (k / 2)).2.1 + 1 else (gx L (k / 2)).1
theorem edge_end (L : List Sp) : edge L (2 * L.length) = 32769 := by simp [edge]
theorem edge_odd (L : List Sp) (k : Nat) (_ : k < 2 * L.length) (ho : k % 2 = 1) : edge L k = (gx L (k / 2)).2.1 + 1 := by
  unfold edge; rw [if_neg (by omega), if_pos ho]
theorem edge_even (L : List Sp) (k : Nat) (h : k < 2 * L.length) (ho : ¬ k % 2 = 1) : edge L k = (gx L (k / 2)).1 := by
  unfold edge; rw [if_neg (by omega), if_neg ho]
theorem edge_bd {L : List Sp} (hr : right L = true) (k : Nat) (h : k < 2 * L.length) : 0 ≤ edge L k ∧ edge L k ≤ 32768 := by
  have := right_all hr (k / 2) (by omega)
  by_cases ho : k % 2 = 1
  · rw [edge_odd L k h ho]; omega
  · rw [edge_even L k h ho]; omega
theorem edge_mono {L : List Sp} (hr : right L = true) (k : Nat) (h : k < 2 * L.length) : edge L k ≤ edge L (k + 1) := by
  by_cases he : k + 1 = 2 * L.length
  · rw [he, edge_end]
    have := edge_bd hr k h
    omega
  · by_cases ho : k % 2 = 1
    · rw [edge_odd L k h ho, edge_even L (k + 1) (by omega) (by omega)]
      have := right_next hr (k / 2) (by omega)
      have e : (k + 1) / 2 = k / 2 + 1 := by omega
      rw [e]
      omega
    · rw [edge_even L k h ho, edge_odd L (k + 1) (by omega) (by omega)]
      have := right_all hr (k / 2) (by omega)
      have e : (k + 1) / 2 = k / 2 := by omega
      rw [e]
      omega
theorem right_mono {L : List Sp} (hr : right L = true) : ∀ (j i : Nat), i < j → j < L.length → (gx L i).2.1 < (gx L j).1 := by
  intro j
  induction j with
  | zero => intro i h; omega
  | succ j ih =>
    intro i hij hj
    have h1 := right_next hr j hj
    by_cases e : i = j
    · subst e; exact h1
    · have h2 := ih i (by omega) (by omega)
      have h3 := right_all hr j (by omega)
      omega
/-- Between two edges side by side all points are in, or none is. -/
theorem has_between {L : List Sp} (hr : right L = true) (k : Nat) (hk : k ≤ 2 * L.length) (p : Int) (h1 : k = 0 ∨ edge L (k - 1) ≤ p) (h2 : p < edge L k) : has L p = decide (k % 2 = 1) := by
  by_cases ho : k % 2 = 1
  · rw [decide_eq_true ho]
    rw [edge_odd L k (by omega) ho] at h2
    have h1' : edge L (k - 1) ≤ p := h1.resolve_left (by omega)
    rw [edge_even L (k - 1) (by omega) (by omega)] at h1'
    have e : (k - 1) / 2 = k / 2 := by omega
    rw [e] at h1'
    exact (has_iff L p).2 ⟨k / 2, by omega, h1', by omega⟩
  · rw [decide_eq_false ho]
    rw [Bool.eq_false_iff]
    intro hh
    obtain ⟨i, hi, a, b⟩ := (has_iff L p).1 hh
    by_cases hlt : i < k / 2
    · have h1' : edge L (k - 1) ≤ p := h1.resolve_left (by omega)
      rw [edge_odd L (k - 1) (by omega) (by omega)] at h1'
      by_cases e : i = (k - 1) / 2
      · rw [← e] at h1'; omega
      · have := right_mono hr ((k - 1) / 2) i (by omega) (by omega)
        have := right_all hr ((k - 1) / 2) (by omega)
        omega
    · have hke : ¬ k = 2 * L.length := by omega
      rw [edge_even L k (by omega) ho] at h2
      by_cases e : i = k / 2
      · rw [← e] at h2; omega
      · have := right_mono hr i (k / 2) (by omega) hi
        have := right_all hr (k / 2) (by omega)
        omega
/-- The spans, the last one first, are of the value 1 and the longest stretches of the points 0 .. b - 1 of which f is true. -/
def SetsR (f : Int → Bool) : List Sp → Int → Prop
  | [], b => 0 ≤ b ∧ ∀ p, 0 ≤ p → p < b → f p = false
  | (x, y, v) :: t, b => v = 1 ∧ 0 ≤ x ∧ x ≤ y ∧ y < b ∧ (∀ p, x ≤ p → p ≤ y → f p = true) ∧ (∀ p, y < p → p < b → f p = false) ∧ (0 < x → f (x - 1) = false) ∧ SetsR f t x
theorem sets_nonneg {f : Int → Bool} {l : List Sp} {b : Int} (h : SetsR f l b) : 0 ≤ b := by
  match l, h with
  | [], h => exact h.1
  | (x, y, v) :: t, h => obtain ⟨_, h1, h2, h3, _⟩ := h; omega
theorem sets_one (f : Int → Bool) : ∀ (l l' : List Sp) (b : Int), SetsR f l b → SetsR f l' b → l = l'
  | [], [], _, _, _ => rfl
  | [], (x, y, v) :: t, b, h, h' => by
    obtain ⟨_, h1, h2, h3, h4, _⟩ := h'
    have := h.2 y (by omega) h3
    rw [h4 y h2 (Int.le_refl _)] at this
    cases this
  | (x, y, v) :: t, [], b, h, h' => by
    obtain ⟨_, h1, h2, h3, h4, _⟩ := h
    have := h'.2 y (by omega) h3
    rw [h4 y h2 (Int.le_refl _)] at this
    cases this
  | (x, y, v) :: t, (x', y', v') :: t', b, h, h' => by
    obtain ⟨rfl, h1, h2, h3, h4, h5, h6, h7⟩ := h
    obtain ⟨rfl, k1, k2, k3, k4, k5, k6, k7⟩ := h'
    have hy : y = y' := by
      by_cases e : y < y'
      · have := h5 y' e k3
        rw [k4 y' k2 (Int.le_refl _)] at this
        cases this
      · by_cases e' : y' < y
        · have := k5 y e' h3
          rw [h4 y h2 (Int.le_refl _)] at this
          cases this
        · omega
    subst hy
    have hx : x = x' := by
      by_cases e : x < x'
      · have := k6 (by omega)
        rw [h4 (x' - 1) (by omega) (by omega)] at this
        cases this
      · by_cases e' : x' < x
        · have := h6 (by omega)
          rw [k4 (x - 1) (by omega) (by omega)] at this
          cases this
        · omega
    subst hx
    rw [sets_one f t t' x h7 k7]
/-- Points that are not in, behind all. -/
theorem sets_gap {f : Int → Bool} {l : List Sp} {b c : Int} (h : SetsR f l b) (hbc : b ≤ c) (hf : ∀ p, b ≤ p → p < c → f p = false) : SetsR f l c := by
  match l, h with
  | [], h =>
    refine ⟨by have := h.1; omega, fun p h0 h1 => ?_⟩
    by_cases e : p < b
    · exact h.2 p h0 e
    · exact hf p (by omega) h1
  | (x, y, v) :: t, h =>
    obtain ⟨h0, h1, h2, h3, h4, h5, h6, h7⟩ := h
    refine ⟨h0, h1, h2, by omega, h4, fun p a c' => ?_, h6, h7⟩
    by_cases e : p < b
    · exact h5 p a e
    · exact hf p (by omega) c'
/-- A stretch more, not side by side with the last span. -/
theorem sets_new {f : Int → Bool} {l : List Sp} {b c : Int} (h : SetsR f l b) (hbc : b ≤ c) (hf : ∀ p, b ≤ p → p ≤ c → f p = true) (hn : 0 < b → f (b - 1) = false) : SetsR f ((b, c, 1) :: l) (c + 1) :=
  ⟨rfl, sets_nonneg h, hbc, by omega, hf, fun p a c' => by omega, hn, h⟩
/-- The last span goes on. -/
theorem sets_on {f : Int → Bool} {t : List Sp} {x y v b c : Int} (h : SetsR f ((x, y, v) :: t) b) (hy : y + 1 = b) (hbc : b ≤ c) (hf : ∀ p, b ≤ p → p ≤ c → f p = true) : SetsR f ((x, c, v) :: t) (c + 1) := by
  obtain ⟨h0, h1, h2, h3, h4, h5, h6, h7⟩ := h
  refine ⟨h0, h1, by omega, by omega, fun p a d => ?_, fun p a d => by omega, h6, h7⟩
  by_cases e : p ≤ y
  · exact h4 p a e
  · exact hf p (by omega) d
/-- Where the last span does not end right ahead of b, the point there is not in. -/
theorem sets_before {f : Int → Bool} {l : List Sp} {b : Int} (h : SetsR f l b) (hn : ∀ r ∈ l.head?, r.2.1 + 1 ≠ b) (hb : 0 < b) : f (b - 1) = false := by
  match l, h, hn with
  | [], h, _ => exact h.2 (b - 1) (by omega) (by omega)
  | (x, y, v) :: t, h, hn =>
    obtain ⟨h0, h1, h2, h3, h4, h5, h6, h7⟩ := h
    have : y + 1 ≠ b := hn (x, y, v) (by simp)
    exact h5 (b - 1) (by omega) (by omega)
def bI (b : Bool) : Int := if b = true then 1 else 0
/-- Of stretches of 0 and 1 those of 1 are the set. -/
theorem sets_of_runs (f : Int → Bool) : ∀ (l : List Sp) (b : Int), RunsR (fun p => bI (f p)) l b → SetsR f (l.filter fun r => r.2.2 == 1) b
  | [], b, h => by
    have h' : b = 0 := h
    exact ⟨by omega, fun p a c => by omega⟩
  | (x, y, v) :: t, b, h => by
    obtain ⟨h1, h2, h3, h4, h5⟩ := h
    have ih := sets_of_runs f t x h4
    have hx0 := (runs_nonneg _ t x h4).1
    have hvy := h3 y h2 (Int.le_refl _)
    by_cases hv : v = 1
    · subst hv
      have e : ((x, y, (1 : Int)) :: t).filter (fun r => r.2.2 == 1) = (x, y, 1) :: t.filter (fun r => r.2.2 == 1) := by simp
      rw [e]
      have hf : ∀ p, x ≤ p → p ≤ y → f p = true := fun p a c => by
        have := h3 p a c
        simp only [bI] at this
        split at this
        · assumption
        · omega
      have := sets_new ih h2 hf (fun hx => by
        match t, h4, h5 with
        | [], h4, _ => have : x = 0 := h4; omega
        | (x', y', v') :: t', h4, h5 =>
          obtain ⟨k1, k2, k3, _, _⟩ := h4
          have hne : v' ≠ 1 := h5 (x', y', v') (by simp)
          have := k3 y' k2 (Int.le_refl _)
          rw [show x - 1 = y' by omega]
          simp only [bI] at this
          cases hq : f y'
          · rfl
          · rw [hq] at this; simp at this; omega)
      rwa [h1] at this
    · have e : ((x, y, v) :: t).filter (fun r => r.2.2 == 1) = t.filter (fun r => r.2.2 == 1) := by
        rw [List.filter_cons_of_neg]
        simpa using hv
      rw [e]
      refine sets_gap ih (by omega) (fun p a c => ?_)
      have := h3 p a (by omega)
      have hb := hvy
      simp only [bI] at this
      cases hq : f p
      · rfl
      · rw [hq] at this; simp at this; omega
end Go.Proofs.YtfldomifooihlaaGreatDoor
/- Rows of spans: a copy of one, and what is read of one. -/
namespace Go.Proofs.YtfldomifooihlaaGreatDoor
open Go.RowKit
theorem infoSp : (Tryz.prog.info? 86).map (fun i => (i.zero, i.size, i.bytes)) = some (some (.agg #[.int .i64 0, .int .i64 0, .int .i64 0]), 3, 24) := by kernel_rfl
/-- The cells of spans. -/
def cells (L : List Sp) : List Value := L.flatMap fun r => [.int .i64 r.1, .int .i64 r.2.1, .int .i64 r.2.2]
theorem cells_cons (a : Sp) (t : List Sp) : cells (a :: t) = [.int .i64 a.1, .int .i64 a.2.1, .int .i64 a.2.2] ++ cells t := rfl
theorem cells_len (L : List Sp) : (cells L).length = L.length * 3 := by
  induction L with
  | nil => rfl
  | cons a t ih => rw [cells_cons, List.length_append, ih, List.length_cons]; simp; omega
theorem cells_snoc (L : List Sp) (r : Sp) : cells (L ++ [r]) = cells L ++ [.int .i64 r.1, .int .i64 r.2.1, .int .i64 r.2.2] := by
  unfold cells; rw [List.flatMap_append, List.flatMap_singleton]
theorem cells_append (L M : List Sp) : cells (L ++ M) = cells L ++ cells M := by unfold cells; rw [List.flatMap_append]
/-- Spans in a row of the call's own. -/
def SpRow (w : World) (B : Nat) (v : Value) (L : List Sp) : Prop := w.ownsRow B 86 3 v L.length (cells L)
theorem SpRow.below {w w' : World} {B : Nat} {v : Value} {L : List Sp} (h : SpRow w B v L) (hb : Below w.heap.size w w') : SpRow w' B v L := ownsRow_below h hb
theorem cells_at (L : List Sp) (i j : Nat) (hi : i < L.length) (hj : j < 3) : (cells L)[i * 3 + j]? = [Value.int .i64 (gx L i).1, .int .i64 (gx L i).2.1, .int .i64 (gx L i).2.2][j]? := by
  induction L generalizing i with
  | nil => simp at hi
  | cons a t ih =>
    rw [cells_cons]
    match i with
    | 0 =>
      rw [List.getElem?_append_left (by simp; omega)]
      simp [gx]
    | i + 1 =>
      rw [List.getElem?_append_right (by simp; omega)]
      have e : (i + 1) * 3 + j - [Value.int .i64 a.1, .int .i64 a.2.1, .int .i64 a.2.2].length = i * 3 + j := by simp; omega
      rw [e, ih i (by simpa using hi)]
      simp [gx]
theorem SpRow.read {w : World} {B g c : Nat} {L : List Sp} (h : SpRow w B (.slice (some ⟨g, 0, none⟩) L.length c) L) (i : Nat) (hi : i < L.length) :
    w.cell? ⟨g, i * 3, none⟩ = some (.int .i64 (gx L i).1) ∧ w.cell? ⟨g, i * 3 + 1, none⟩ = some (.int .i64 (gx L i).2.1) ∧ w.cell? ⟨g, i * 3 + 2, none⟩ = some (.int .i64 (gx L i).2.2) :=
  ⟨(World.ownsRow.cellAt h (i * 3) (by omega)).trans (cells_at L i 0 hi (by omega)), (World.ownsRow.cellAt h (i * 3 + 1) (by omega)).trans (cells_at L i 1 hi (by omega)), (World.ownsRow.cellAt h (i * 3 + 2) (by omega)).trans (cells_at L i 2 hi (by omega))⟩
theorem SpRow.form {w : World} {B : Nat} {v : Value} {L : List Sp} (h : SpRow w B v L) : ∃ a c, v = .slice a L.length c ∧ (0 < L.length → ∃ g, a = some ⟨g, 0, none⟩ ∧ B ≤ g ∧ g < w.heap.size) := by
  rcases h.2 with ⟨hv, hn⟩ | ⟨g, cap, cur, hv, hg, hh, _⟩
  · exact ⟨none, 0, by rw [hv, hn], fun h => by omega⟩
  · exact ⟨_, _, hv, fun _ => ⟨g, rfl, hg, (Array.getElem?_eq_some_iff.1 hh).1⟩⟩
theorem wrap_in (x : Int) (h0 : -9223372036854775808 ≤ x) (h1 : x ≤ 9223372036854775807) : IntKind.i64.wrap x = x := by
  simp [IntKind.wrap, IntKind.signed, IntKind.bits]; omega
theorem cell_alloc {w : World} {a : Addr} {v : Value} (h : w.cell? a = some v) (o : Obj) : (w.alloc o).cell? a = some v := (World.cell?_of_block (Below.heap_alloc w o a.block (block_lt_of_cell h))).trans h
/-- A slice value that holds just the spans L. -/
def SpsAt (w : World) (v : Value) (L : List Sp) : Prop :=
  ∃ a cap, v = .slice a L.length cap ∧ (L = [] ∨ ∃ b off, a = some ⟨b, off, none⟩ ∧ b < w.heap.size ∧ ∀ i, i < L.length → w.cell? ⟨b, off + i * 3, none⟩ = some (.int .i64 (gx L i).1) ∧ w.cell? ⟨b, off + i * 3 + 1, none⟩ = some (.int .i64 (gx L i).2.1) ∧ w.cell? ⟨b, off + i * 3 + 2, none⟩ = some (.int .i64 (gx L i).2.2))
theorem SpsAt.below {w w' : World} {v : Value} {L : List Sp} (h : SpsAt w v L) (hb : Below w.heap.size w w') : SpsAt w' v L := by
  obtain ⟨a, cap, rfl, h⟩ := h
  refine ⟨a, cap, rfl, ?_⟩
  rcases h with h | ⟨b, off, rfl, hbs, hc⟩
  · exact .inl h
  · exact .inr ⟨b, off, rfl, Nat.lt_of_lt_of_le hbs hb.size, fun i hi => ⟨(hb.cell (p := ⟨b, off + i * 3, none⟩) hbs).trans (hc i hi).1, (hb.cell (p := ⟨b, off + i * 3 + 1, none⟩) hbs).trans (hc i hi).2.1, (hb.cell (p := ⟨b, off + i * 3 + 2, none⟩) hbs).trans (hc i hi).2.2⟩⟩
theorem szSpans_any (a : Option Addr) (n c : Nat) (m : Int) (hm : 0 ≤ m ∧ m ≤ 1048576) (w : World) (hn : n ≤ 9223372036854775807) :
    Calls Tryz.prog 13 #[.slice a n c, .int .i64 m] w fun e w' => e = .returned (.int .i64 (if m - (n : Int) < 0 then -1 else m - (n : Int))) ∧ w' = w := by
  by_cases h : m - (n : Int) < 0
  · go_enter Tryz.func13, Tryz.ntmps13
    go_wp2
    go_ret
    exact ⟨rfl, rfl⟩
  · go_enter Tryz.func13, Tryz.ntmps13
    go_wp2
    go_ret
    exact ⟨rfl, rfl⟩
theorem toSpan_any (x y z : Int) (w : World) : Calls Tryz.prog 47 #[.agg #[.int .i64 x, .int .i64 y, .int .i64 z]] w fun e w' => e = .returned (.agg #[.int .i64 x, .int .i64 y, .int .i64 z]) ∧ Below w.heap.size w w' := by
  go_enter Tryz.func47, Tryz.ntmps47
  go_wp2
  go_returns
  exact ⟨rfl, (((Below.refl _ _).alloc (Nat.le_refl _) _).alloc (by simp) _).alloc (by simp; omega) _⟩
/-- The first k spans of L, and zeros behind them. -/
def fillS (L : List Sp) (k : Nat) : List Sp := L.take k ++ List.replicate (L.length - k) (0, 0, 0)
theorem fillS_zero (L : List Sp) : fillS L 0 = List.replicate L.length (0, 0, 0) := by simp [fillS]
theorem fillS_all (L : List Sp) : fillS L L.length = L := by simp [fillS]
theorem fillS_len (L : List Sp) (k : Nat) (h : k ≤ L.length) : (fillS L k).length = L.length := by simp [fillS]; omega
theorem rep_cells (n : Nat) : cells (List.replicate n (0, 0, 0)) = (madeCells #[Value.int .i64 0, .int .i64 0, .int .i64 0] (n * 3)).toList := by
  apply List.ext_getElem?
  intro i
  unfold madeCells
  rw [Array.toList_map, List.getElem?_map, Array.toList_range]
  by_cases h : i < n * 3
  · rw [List.getElem?_range h, show i = i / 3 * 3 + i % 3 by omega, cells_at _ _ _ (by simp; omega) (by omega)]
    have e : gx (List.replicate n ((0, 0, 0) : Sp)) (i / 3) = (0, 0, 0) := by
      rw [gx, List.getD_eq_getElem?_getD, List.getElem?_replicate, if_pos (by omega)]; rfl
    rw [e]
    have hm : i % 3 = 0 ∨ i % 3 = 1 ∨ i % 3 = 2 := by omega
    rcases hm with hm | hm | hm <;> simp [hm, Nat.add_mod]
  · rw [List.getElem?_eq_none (by rw [cells_len]; simp; omega), List.getElem?_eq_none (by simp; omega)]
    rfl
theorem cells_set3 (A C : List Sp) (r s : Sp) : (((cells (A ++ r :: C)).set (A.length * 3) (.int .i64 s.1)).set (A.length * 3 + 1) (.int .i64 s.2.1)).set (A.length * 3 + 2) (.int .i64 s.2.2) = cells (A ++ s :: C) := by
  rw [cells_append, cells_append, cells_cons, cells_cons]
  have hl := cells_len A
  rw [List.set_append_right _ _ (by omega), List.set_append_right _ _ (by omega), List.set_append_right _ _ (by omega)]
  congr 1
  rw [hl, Nat.sub_self, show A.length * 3 + 1 - A.length * 3 = 1 by omega, show A.length * 3 + 2 - A.length * 3 = 2 by omega]
  rfl
theorem fillS_set (L : List Sp) (k : Nat) (h : k < L.length) : (((cells (fillS L k)).set (k * 3) (.int .i64 (gx L k).1)).set (k * 3 + 1) (.int .i64 (gx L k).2.1)).set (k * 3 + 2) (.int .i64 (gx L k).2.2) = cells (fillS L (k + 1)) := by
  have hk : (L.take k).length = k := by simp; omega
  have e1 : L.length - k = (L.length - (k + 1)) + 1 := by omega
  have := cells_set3 (L.take k) (List.replicate (L.length - (k + 1)) (0, 0, 0)) (0, 0, 0) (gx L k)
  rw [hk] at this
  unfold fillS
  rw [e1, List.replicate_succ, this, List.take_succ_eq_append_getElem h, List.append_assoc]
  have e2 : gx L k = L[k] := by simp [gx, List.getD, h]
  rw [e2]
  rfl
theorem made_below {w w1 : World} (h : w.grownBy w1 none) : Below w.heap.size w w1 := (Below.refl _ _).grown h (Nat.le_refl _) (fun k hk => by cases hk)
/-- The three cells of one span, stored. -/
theorem row3_stored {w : World} {B g n c : Nat} {xs : List Value} (h : w.ownsRow B 86 3 (.slice (some ⟨g, 0, none⟩) n c) n xs) (k : Nat) (x y z : Value) :
    (((w.setCell ⟨g, k * 3, none⟩ x).setCell ⟨g, k * 3 + 1, none⟩ y).setCell ⟨g, k * 3 + 2, none⟩ z).ownsRow B 86 3 (.slice (some ⟨g, 0, none⟩) n c) n (((xs.set (k * 3) x).set (k * 3 + 1) y).set (k * 3 + 2) z) :=
  (((h.stored (k * 3) x).1.stored (k * 3 + 1) y).1.stored (k * 3 + 2) z).1
theorem row3_at {w : World} {B g n c : Nat} {xs : List Value} (h : w.ownsRow B 86 3 (.slice (some ⟨g, 0, none⟩) n c) n xs) (j : Nat) (hj : j < n * 3) : ∃ x, w.cell? ⟨g, j, none⟩ = some x ∧ w.frozen? ⟨g, j, none⟩ = false := by
  have hn : xs.length = n * 3 := h.1
  have := h.cellAt j hj
  rw [List.getElem?_eq_getElem (by omega)] at this
  exact ⟨_, this, h.frozenAt j⟩
set_option maxHeartbeats 1000000 in
theorem toSpans_at (b off cap : Nat) (L : List Sp) (w : World) (hbs : b < w.heap.size) (hc : ∀ i, i < L.length → w.cell? ⟨b, off + i * 3, none⟩ = some (.int .i64 (gx L i).1) ∧ w.cell? ⟨b, off + i * 3 + 1, none⟩ = some (.int .i64 (gx L i).2.1) ∧ w.cell? ⟨b, off + i * 3 + 2, none⟩ = some (.int .i64 (gx L i).2.2)) (hl : L.length ≤ 1048576) :
    Calls Tryz.prog 22 #[.slice (some ⟨b, off, none⟩) L.length cap] w fun e w' => e = .returned (.slice (some ⟨w.heap.size, 0, none⟩) L.length L.length) ∧
      SpRow w' w.heap.size (.slice (some ⟨w.heap.size, 0, none⟩) L.length L.length) L ∧ Below w.heap.size w w' := by
  obtain ⟨i0, hi, hz0, hz1, hz2⟩ := info_parts infoSp
  have HC := hide hc
  clear hc
  go_enter Tryz.func22, Tryz.ntmps22
  go_wp2_with (at_make; refine wpList_make_full _ rfl _ _ 32 rfl w.heap.size 86 i0 (.agg #[.int .i64 0, .int .i64 0, .int .i64 0]) 3 Tryz.underlying32 hi hz0 hz1 .i64 .i64 _ _ L.length rfl rfl rfl rfl ?b2 ?b3 ?b4 ?_)
  case b2 => rw [hz2]; omega
  case b3 => unfold maxLen; omega
  case b4 => omega
  intro w1 hown hgrow
  rw [← rep_cells, ← fillS_zero] at hown
  have H1 := hide hown
  have hb1 := hide (made_below hgrow)
  clear hown hgrow
  go_wp2
  go_loopw [4] (fun i wr => ∃ k : Nat, k ≤ L.length ∧ i = .int .i64 k ∧ Hid (wr.ownsRow w.heap.size 86 3 (.slice (some ⟨w.heap.size, 0, none⟩) L.length L.length) L.length (cells (fillS L k))) ∧ Hid (Below w.heap.size w wr)) (fun i _ => L.length - (intOf i).toNat)
  case atStart => exact ⟨0, Nat.zero_le _, rfl, H1, hb1⟩
  case round =>
    obtain ⟨k, hk, rfl, HO, HB⟩ := hrel
    clear H1 hb1
    by_cases hlt : k < L.length
    · have hlt' : (k : Int) < (L.length : Int) := by omega
      obtain ⟨c0, c1, c2⟩ := (unhide HC) k hlt
      have d0 := ((unhide HB).cell (p := ⟨b, off + k * 3, none⟩) hbs).trans c0
      have d1 := ((unhide HB).cell (p := ⟨b, off + k * 3 + 1, none⟩) hbs).trans c1
      have d2 := ((unhide HB).cell (p := ⟨b, off + k * 3 + 2, none⟩) hbs).trans c2
      clear c0 c1 c2
      have HF := hide (fillS_set L k hlt)
      generalize hr : gx L k = r at *
      clear hr
      go_wp2_with fail
      refine (toSpan_any _ _ _ _).mono ?_
      rintro e w2 ⟨rfl, hb2⟩
      have HO2 := hide (ownsRow_below (unhide HO) hb2)
      have HB2 := hide ((unhide HB).trans (hb2.mono (unhide HB).size))
      clear hb2 HO HB d0 d1 d2
      obtain ⟨x0, p0, q0⟩ := row3_at (unhide HO2) (k * 3) (by omega)
      obtain ⟨x1, p1, q1⟩ := row3_at (unhide HO2) (k * 3 + 1) (by omega)
      obtain ⟨x2, p2, q2⟩ := row3_at (unhide HO2) (k * 3 + 2) (by omega)
      have HS := hide (row3_stored (unhide HO2) k (.int .i64 r.1) (.int .i64 r.2.1) (.int .i64 r.2.2))
      have HB3 := hide ((((unhide HB2).setCell (p := ⟨w.heap.size, k * 3, none⟩) (Nat.le_refl _) (.int .i64 r.1)).setCell (p := ⟨w.heap.size, k * 3 + 1, none⟩) (Nat.le_refl _) (.int .i64 r.2.1)).setCell (p := ⟨w.heap.size, k * 3 + 2, none⟩) (Nat.le_refl _) (.int .i64 r.2.2))
      rw [unhide HF] at HS
      go_wp2
      go_roundw
      case rel => exact ⟨k + 1, by omega, by go_num, HS, HB3⟩
      case measure => simp [intOf]; omega
    · obtain rfl : k = L.length := by omega
      go_wp2
      go_ret
      have ho := unhide HO
      rw [fillS_all] at ho
      exact ⟨rfl, ho, unhide HB⟩
set_option maxHeartbeats 1000000 in
theorem toSpans_nil (a : Option Addr) (cap : Nat) (L : List Sp) (w : World) (h0 : L.length = 0) :
    Calls Tryz.prog 22 #[.slice a L.length cap] w fun e w' => e = .returned (.slice (some ⟨w.heap.size, 0, none⟩) L.length L.length) ∧
      SpRow w' w.heap.size (.slice (some ⟨w.heap.size, 0, none⟩) L.length L.length) L ∧ Below w.heap.size w w' := by
  have H0 := hide h0
  clear h0
  have hl : L.length ≤ 1048576 := by rw [unhide H0]; omega
  obtain ⟨i0, hi, hz0, hz1, hz2⟩ := info_parts infoSp
  go_enter Tryz.func22, Tryz.ntmps22
  go_wp2_with (at_make; refine wpList_make_full _ rfl _ _ 32 rfl w.heap.size 86 i0 (.agg #[.int .i64 0, .int .i64 0, .int .i64 0]) 3 Tryz.underlying32 hi hz0 hz1 .i64 .i64 _ _ L.length rfl rfl rfl rfl ?b2 ?b3 ?b4 ?_)
  case b2 => rw [hz2]; omega
  case b3 => unfold maxLen; omega
  case b4 => omega
  intro w1 hown hgrow
  rw [← rep_cells, ← fillS_zero] at hown
  have H1 := hide hown
  have hb1 := hide (made_below hgrow)
  clear hown hgrow
  go_wp2
  go_loopw [4] (fun i wr => ∃ k : Nat, k ≤ L.length ∧ i = .int .i64 k ∧ Hid (wr.ownsRow w.heap.size 86 3 (.slice (some ⟨w.heap.size, 0, none⟩) L.length L.length) L.length (cells (fillS L k))) ∧ Hid (Below w.heap.size w wr)) (fun i _ => L.length - (intOf i).toNat)
  case atStart => exact ⟨0, Nat.zero_le _, rfl, H1, hb1⟩
  case round =>
    obtain ⟨k, hk, rfl, HO, HB⟩ := hrel
    clear H1 hb1
    by_cases hlt : k < L.length
    · have := unhide H0; omega
    · obtain rfl : k = L.length := by omega
      go_wp2
      go_ret
      have ho := unhide HO
      rw [fillS_all] at ho
      exact ⟨rfl, ho, unhide HB⟩
theorem toSpans (v : Value) (L : List Sp) (w : World) (h : SpsAt w v L) (hl : L.length ≤ 1048576) :
    Calls Tryz.prog 22 #[v] w fun e w' => e = .returned (.slice (some ⟨w.heap.size, 0, none⟩) L.length L.length) ∧
      SpRow w' w.heap.size (.slice (some ⟨w.heap.size, 0, none⟩) L.length L.length) L ∧ Below w.heap.size w w' := by
  obtain ⟨a, cap, rfl, h⟩ := h
  rcases h with h | ⟨b, off, rfl, hbs, hc⟩
  · exact toSpans_nil a cap L w (by rw [h]; rfl)
  · exact toSpans_at b off cap L w hbs hc hl
end Go.Proofs.YtfldomifooihlaaGreatDoor
/- Slices of int64 beside rows of spans: a copy of one, and two that are alike. -/
namespace Go.Proofs.YtfldomifooihlaaGreatDoor
open Go.RowKit
def nth (l : List Int) (i : Nat) : Int := l.getD i 0
/-- A slice value that holds just the numbers l. -/
def IntsAt (w : World) (v : Value) (l : List Int) : Prop :=
  ∃ a cap, v = .slice a l.length cap ∧ (l = [] ∨ ∃ b off, a = some ⟨b, off, none⟩ ∧ b < w.heap.size ∧ ∀ i, i < l.length → w.cell? ⟨b, off + i, none⟩ = some (.int .i64 (nth l i)))
theorem IntsAt.below {w w' : World} {v : Value} {l : List Int} (h : IntsAt w v l) (hb : Below w.heap.size w w') : IntsAt w' v l := by
  obtain ⟨a, cap, rfl, h⟩ := h
  refine ⟨a, cap, rfl, ?_⟩
  rcases h with h | ⟨b, off, rfl, hbs, hc⟩
  · exact .inl h
  · exact .inr ⟨b, off, rfl, Nat.lt_of_lt_of_le hbs hb.size, fun i hi => (hb.cell (p := ⟨b, off + i, none⟩) hbs).trans (hc i hi)⟩
theorem IntsAt.owned {w : World} {base : Nat} {v : Value} {l : List Int} {n : Nat} (h : w.ownsRow base 2 1 v n (l.map (Value.int .i64))) : IntsAt w v l := by
  have hl : l.length = n := by simpa using h.1
  rcases h.2 with ⟨hv, hn⟩ | ⟨g, cap, cur, hv, hg, hh, hn, hm, hs, ht⟩
  · exact ⟨none, 0, by rw [hv, hl, hn], .inl (List.length_eq_zero_iff.1 (by omega))⟩
  · subst hv
    refine ⟨some ⟨g, 0, none⟩, cap, by rw [hl], .inr ⟨g, 0, rfl, (Array.getElem?_eq_some_iff.1 hh).1, fun i hi => ?_⟩⟩
    have hc := h.cellAt i (by omega)
    rw [Nat.zero_add, hc, List.getElem?_map]
    simp [nth, List.getD, hi]
theorem info2 : (Tryz.prog.info? 2).map (fun i => (i.zero, i.size, i.bytes)) = some (some (.int .i64 0), 1, 8) := by kernel_rfl
/-- The first k numbers of l, and zeros behind them. -/
def fill (l : List Int) (k : Nat) : List Int := l.take k ++ List.replicate (l.length - k) 0
theorem fill_zero (l : List Int) : fill l 0 = List.replicate l.length 0 := by simp [fill]
theorem fill_all (l : List Int) : fill l l.length = l := by simp [fill]
theorem fill_set (l : List Int) (k : Nat) (h : k < l.length) (f : Int → Value) : ((fill l k).map f).set k (f (nth l k)) = (fill l (k + 1)).map f := by
  rw [← List.map_set]
  congr 1
  unfold fill
  have hk : (l.take k).length = k := by simp; omega
  have e1 : l.length - k = (l.length - (k + 1)) + 1 := by omega
  rw [e1, List.replicate_succ, List.set_append_right _ _ (by omega), hk, Nat.sub_self, List.set_cons_zero, List.take_succ_eq_append_getElem h]
  have e2 : nth l k = l[k] := by simp [nth, List.getD, h]
  rw [e2, List.append_assoc]
  rfl
theorem fill_length (l : List Int) (k : Nat) (h : k ≤ l.length) : (fill l k).length = l.length := by simp [fill]; omega
theorem made_owned {w1 : World} {B : Nat} {v : Value} {l : List Int} (h : w1.ownsRow B 2 1 v l.length (madeCells #[Value.int .i64 0] l.length).toList) : w1.ownsRow B 2 1 v l.length ((fill l 0).map (Value.int .i64)) := by
  have e : (madeCells #[Value.int .i64 0] l.length).toList = (fill l 0).map (Value.int .i64) := by
    rw [fill_zero, List.map_replicate]
    exact toList_madeCells_one _ _
  rw [← e]; exact h
theorem owned_lt {w : World} {base g : Nat} {e : TypeId} {n cap m : Nat} {xs : List Value} (h : w.ownsRow base e 1 (.slice (some ⟨g, 0, none⟩) n cap) m xs) : g < w.heap.size := (h.lt g rfl).2
set_option maxHeartbeats 1000000 in
theorem toInts_nil (a : Option Addr) (cap : Nat) (l : List Int) (w : World) (h0 : l.length = 0) :
    Calls Tryz.prog 78 #[.slice a l.length cap] w fun e w' => e = .returned (.slice (some ⟨w.heap.size, 0, none⟩) l.length l.length) ∧
      w'.ownsRow w.heap.size 2 1 (.slice (some ⟨w.heap.size, 0, none⟩) l.length l.length) l.length (l.map (Value.int .i64)) ∧ Below w.heap.size w w' ∧ w.heap.size < w'.heap.size := by
  have H0 := hide h0
  clear h0
  have hl : l.length ≤ 1048576 := by rw [unhide H0]; omega
  obtain ⟨i0, hi, hz0, hz1, hz2⟩ := info_parts info2
  go_enter Tryz.func78, Tryz.ntmps78
  go_wp2_with (at_make; refine wpList_make_full _ rfl _ _ 69 rfl w.heap.size 2 i0 (.int .i64 0) 1 Tryz.underlying69 hi hz0 hz1 .i64 .i64 _ _ l.length rfl rfl rfl rfl ?b2 ?b3 ?b4 ?_)
  case b2 => rw [hz2]; omega
  case b3 => unfold maxLen; omega
  case b4 => omega
  intro w1 hown hgrow
  have H1 := hide (made_owned hown)
  have hb1 := hide (made_below hgrow)
  clear hown hgrow
  go_wp2
  go_loopw [4] (fun i wr => ∃ k : Nat, k ≤ l.length ∧ i = .int .i64 k ∧ Hid (wr.ownsRow w.heap.size 2 1 (.slice (some ⟨w.heap.size, 0, none⟩) l.length l.length) l.length ((fill l k).map (Value.int .i64))) ∧ Hid (Below w.heap.size w wr)) (fun i _ => l.length - (intOf i).toNat)
  case atStart => exact ⟨0, Nat.zero_le _, rfl, H1, hb1⟩
  case round =>
    obtain ⟨k, hk, rfl, HO, HB⟩ := hrel
    by_cases hlt : k < l.length
    · have := unhide H0; omega
    · obtain rfl : k = l.length := by omega
      go_wp2
      go_ret
      have ho := unhide HO
      rw [fill_all] at ho
      exact ⟨rfl, ho, unhide HB, owned_lt ho⟩
set_option maxHeartbeats 1000000 in
theorem toInts_at (b off cap : Nat) (l : List Int) (w : World) (hbs : b < w.heap.size) (hc : ∀ i, i < l.length → w.cell? ⟨b, off + i, none⟩ = some (.int .i64 (nth l i))) (hl : l.length ≤ 1048576) :
    Calls Tryz.prog 78 #[.slice (some ⟨b, off, none⟩) l.length cap] w fun e w' => e = .returned (.slice (some ⟨w.heap.size, 0, none⟩) l.length l.length) ∧
      w'.ownsRow w.heap.size 2 1 (.slice (some ⟨w.heap.size, 0, none⟩) l.length l.length) l.length (l.map (Value.int .i64)) ∧ Below w.heap.size w w' ∧ w.heap.size < w'.heap.size := by
  obtain ⟨i0, hi, hz0, hz1, hz2⟩ := info_parts info2
  have HC := hide hc
  clear hc
  go_enter Tryz.func78, Tryz.ntmps78
  go_wp2_with (at_make; refine wpList_make_full _ rfl _ _ 69 rfl w.heap.size 2 i0 (.int .i64 0) 1 Tryz.underlying69 hi hz0 hz1 .i64 .i64 _ _ l.length rfl rfl rfl rfl ?b2 ?b3 ?b4 ?_)
  case b2 => rw [hz2]; omega
  case b3 => unfold maxLen; omega
  case b4 => omega
  intro w1 hown hgrow
  have H1 := hide (made_owned hown)
  have hb1 := hide (made_below hgrow)
  clear hown hgrow
  go_wp2
  go_loopw [4] (fun i wr => ∃ k : Nat, k ≤ l.length ∧ i = .int .i64 k ∧ Hid (wr.ownsRow w.heap.size 2 1 (.slice (some ⟨w.heap.size, 0, none⟩) l.length l.length) l.length ((fill l k).map (Value.int .i64))) ∧ Hid (Below w.heap.size w wr)) (fun i _ => l.length - (intOf i).toNat)
  case atStart => exact ⟨0, Nat.zero_le _, rfl, H1, hb1⟩
  case round =>
    obtain ⟨k, hk, rfl, HO, HB⟩ := hrel
    by_cases hlt : k < l.length
    · have c1 := ((unhide HB).cell (p := ⟨b, off + k, none⟩) hbs).trans ((unhide HC) k hlt)
      have c2 := (unhide HO).cellAt k (by omega)
      rw [List.getElem?_eq_getElem (by simp [fill_length l k hk]; omega)] at c2
      have c3 := (unhide HO).frozenAt k
      have hst := (unhide HO).stored k (.int .i64 (nth l k))
      rw [fill_set l k hlt] at hst
      have HO' := hide hst.1
      have HB' := hide ((unhide HB).setCell (p := ⟨w.heap.size, k, none⟩) (Nat.le_refl _) (.int .i64 (nth l k)))
      clear hst
      go_wp2
      go_roundw
      case rel => exact ⟨k + 1, by omega, by go_num, HO', HB'⟩
      case measure => simp [intOf]; omega
    · obtain rfl : k = l.length := by omega
      go_wp2
      go_ret
      have ho := unhide HO
      rw [fill_all] at ho
      exact ⟨rfl, ho, unhide HB, owned_lt ho⟩
theorem toInts (v : Value) (l : List Int) (w : World) (h : IntsAt w v l) (hl : l.length ≤ 1048576) :
    Calls Tryz.prog 78 #[v] w fun e w' => e = .returned (.slice (some ⟨w.heap.size, 0, none⟩) l.length l.length) ∧
      w'.ownsRow w.heap.size 2 1 (.slice (some ⟨w.heap.size, 0, none⟩) l.length l.length) l.length (l.map (Value.int .i64)) ∧ Below w.heap.size w w' ∧ w.heap.size < w'.heap.size := by
  obtain ⟨a, cap, rfl, h⟩ := h
  rcases h with h | ⟨b, off, rfl, hbs, hc⟩
  · exact toInts_nil a cap l w (by rw [h]; rfl)
  · exact toInts_at b off cap l w hbs hc hl
set_option maxHeartbeats 1000000 in
theorem eqInts_nil (a b : Option Addr) (c d : Nat) (l : List Int) (w : World) (h0 : l.length = 0) :
    Calls Tryz.prog 95 #[.slice a l.length c, .slice b l.length d] w fun e w' => e = .returned (.bool true) ∧ Below w.heap.size w w' := by
  have H0 := hide h0
  clear h0
  have hl : l.length ≤ 1048576 := by rw [unhide H0]; omega
  have hne : ((l.length : Int) != (l.length : Int)) = false := by simp
  go_enter Tryz.func95, Tryz.ntmps95
  go_wp2
  go_loopw [5] (fun i wr => ∃ k : Nat, k ≤ l.length ∧ i = .int .i64 k ∧ Hid (Below w.heap.size w wr)) (fun i _ => l.length - (intOf i).toNat)
  case atStart => exact ⟨0, Nat.zero_le _, rfl, hide (Below.refl _ _)⟩
  case round =>
    obtain ⟨k, hk, rfl, HB⟩ := hrel
    have hge : ¬ k < l.length := by have := unhide H0; omega
    go_wp2
    go_ret
    exact ⟨rfl, unhide HB⟩
set_option maxHeartbeats 1000000 in
theorem eqInts_at (b1 o1 b2 o2 c d : Nat) (l : List Int) (w : World) (hb1 : b1 < w.heap.size) (hc1 : ∀ i, i < l.length → w.cell? ⟨b1, o1 + i, none⟩ = some (.int .i64 (nth l i)))
    (hb2 : b2 < w.heap.size) (hc2 : ∀ i, i < l.length → w.cell? ⟨b2, o2 + i, none⟩ = some (.int .i64 (nth l i))) (hl : l.length ≤ 1048576) :
    Calls Tryz.prog 95 #[.slice (some ⟨b1, o1, none⟩) l.length c, .slice (some ⟨b2, o2, none⟩) l.length d] w fun e w' => e = .returned (.bool true) ∧ Below w.heap.size w w' := by
  have H1 := hide hc1
  have H2 := hide hc2
  clear hc1 hc2
  have hne : ((l.length : Int) != (l.length : Int)) = false := by simp
  go_enter Tryz.func95, Tryz.ntmps95
  go_wp2
  go_loopw [5] (fun i wr => ∃ k : Nat, k ≤ l.length ∧ i = .int .i64 k ∧ Hid (Below w.heap.size w wr)) (fun i _ => l.length - (intOf i).toNat)
  case atStart => exact ⟨0, Nat.zero_le _, rfl, hide (Below.refl _ _)⟩
  case round =>
    obtain ⟨k, hk, rfl, HB⟩ := hrel
    by_cases hlt : k < l.length
    · have c1 := ((unhide HB).cell (p := ⟨b1, o1 + k, none⟩) hb1).trans ((unhide H1) k hlt)
      have c2 := ((unhide HB).cell (p := ⟨b2, o2 + k, none⟩) hb2).trans ((unhide H2) k hlt)
      have hne2 : (nth l k != nth l k) = false := by simp
      go_wp2
      go_quiet (fail)
      go_wp2
      go_roundw
      case rel => exact ⟨k + 1, by omega, by go_num, hide (bdrew (unhide HB) _)⟩
      case measure => simp [intOf]; omega
    · go_wp2
      go_ret
      exact ⟨rfl, unhide HB⟩
theorem eqInts (v1 v2 : Value) (l : List Int) (w : World) (h1 : IntsAt w v1 l) (h2 : IntsAt w v2 l) (hl : l.length ≤ 1048576) :
    Calls Tryz.prog 95 #[v1, v2] w fun e w' => e = .returned (.bool true) ∧ Below w.heap.size w w' := by
  obtain ⟨a1, c1, rfl, h1⟩ := h1
  obtain ⟨a2, c2, rfl, h2⟩ := h2
  rcases h1 with h1 | ⟨b1, o1, rfl, hb1, hc1⟩
  · exact eqInts_nil a1 a2 c1 c2 l w (by rw [h1]; rfl)
  · rcases h2 with h2 | ⟨b2, o2, rfl, hb2, hc2⟩
    · exact eqInts_nil _ a2 c1 c2 l w (by rw [h2]; rfl)
    · exact eqInts_at b1 o1 b2 o2 c1 c2 l w hb1 hc1 hb2 hc2 hl
end Go.Proofs.YtfldomifooihlaaGreatDoor
/- Spans that are alike; marks written into spans that the call owns, and found there again. -/
namespace Go.Proofs.YtfldomifooihlaaGreatDoor
open Go.RowKit
theorem eqSpan_any (x y z : Int) (w : World) : Calls Tryz.prog 64 #[.agg #[.int .i64 x, .int .i64 y, .int .i64 z], .agg #[.int .i64 x, .int .i64 y, .int .i64 z]] w fun e w' => e = .returned (.bool true) ∧ Below w.heap.size w w' := by
  have h1 : (x != x) = false := by simp
  have h2 : (y != y) = false := by simp
  have h3 : (z != z) = false := by simp
  go_enter Tryz.func64, Tryz.ntmps64
  go_wp2
  go_ret
  exact ⟨rfl, ((Below.refl _ _).alloc (Nat.le_refl _) _).alloc (by simp) _⟩
theorem drew_below (w : World) : Below w.heap.size w w.drew := ⟨rfl, rfl, rfl, Nat.le_refl _, fun _ _ => rfl⟩
set_option maxHeartbeats 4000000 in
set_option maxRecDepth 100000 in
theorem eqSpans (v1 v2 : Value) (L : List Sp) (B1 B2 : Nat) (w : World) (h1 : SpRow w B1 v1 L) (h2 : SpRow w B2 v2 L) (hl : L.length ≤ 1048576) :
    Calls Tryz.prog 30 #[v1, v2] w fun e w' => e = .returned (.bool true) ∧ Below w.heap.size w w' := by
  obtain ⟨a1, c1, rfl, hg1⟩ := h1.form
  obtain ⟨a2, c2, rfl, hg2⟩ := h2.form
  have H1 := hide h1
  have H2 := hide h2
  have G1 := hide hg1
  have G2 := hide hg2
  clear h1 h2 hg1 hg2
  have hne : ((L.length : Int) != (L.length : Int)) = false := by simp
  go_enter Tryz.func30, Tryz.ntmps30
  go_wp2
  go_loopw [5] (fun i wr => ∃ k : Nat, k ≤ L.length ∧ i = .int .i64 k ∧ Hid (Below w.heap.size w wr)) (fun i _ => L.length - (intOf i).toNat)
  case atStart => exact ⟨0, Nat.zero_le _, rfl, hide (Below.refl _ _)⟩
  case round =>
    obtain ⟨k, hk, rfl, HB⟩ := hrel
    by_cases hlt : k < L.length
    · obtain ⟨g1, rfl, _, _⟩ := (unhide G1) (by omega)
      obtain ⟨g2, rfl, _, _⟩ := (unhide G2) (by omega)
      obtain ⟨x0, x1, x2⟩ := ((unhide H1).below (unhide HB)).read k hlt
      obtain ⟨y0, y1, y2⟩ := ((unhide H2).below (unhide HB)).read k hlt
      have hlt' : (k : Int) < (L.length : Int) := by omega
      have h0k : (0 : Int) ≤ (k : Int) := by omega
      generalize gx L k = r at *
      go_wp2_with fail
      go_region_with (go_at_call 64; refine (eqSpan_any _ _ _ _).mono ?_; rintro e w2 ⟨rfl, hb2⟩)
      all_goals
        have HB' := hide ((unhide HB).trans (((drew_below wr).trans hb2).mono (unhide HB).size))
        clear hb2
        go_wp2
        go_roundw
        case rel => exact ⟨k + 1, by omega, by go_num, HB'⟩
        case measure => simp [intOf]; omega
    · go_wp2
      go_ret
      exact ⟨rfl, unhide HB⟩
def fl (L : List Sp) : List Int := L.flatMap fun r => [r.1, r.2.1, r.2.2]
theorem cells_fl (L : List Sp) : cells L = (fl L).map (Value.int .i64) := by
  unfold cells fl
  rw [List.map_flatMap]
  rfl
theorem fl_len (L : List Sp) : (fl L).length = L.length * 3 := by
  have := cells_len L
  rw [cells_fl, List.length_map] at this
  exact this
/-- 1, 2, .. in the first k places of l. -/
def mkL (l : List Int) (k : Nat) : List Int := (List.range k).map (fun i : Nat => 1 + (i : Int)) ++ l.drop k
def sqL (n : Nat) : List Int := (List.range n).map (fun i : Nat => 1 + (i : Int))
theorem mkL_zero (l : List Int) : mkL l 0 = l := by simp [mkL]
theorem mkL_len (l : List Int) (k : Nat) (h : k ≤ l.length) : (mkL l k).length = l.length := by simp [mkL]; omega
theorem mkL_set (l : List Int) (k : Nat) (h : k < l.length) (f : Int → Value) : ((mkL l k).map f).set k (f (1 + (k : Int))) = (mkL l (k + 1)).map f := by
  rw [← List.map_set]
  congr 1
  unfold mkL
  have hk : ((List.range k).map (fun i : Nat => 1 + (i : Int))).length = k := by simp
  rw [List.set_append_right _ _ (by omega), hk, Nat.sub_self, List.drop_eq_getElem_cons h, List.set_cons_zero, List.range_succ, List.map_append, List.append_assoc]
  rfl
theorem mkL_all (l : List Int) : mkL l l.length = sqL l.length := by simp [mkL, sqL]
theorem sq_at (n k : Nat) (h : k < n) : ((sqL n).map (Value.int .i64))[k]? = some (.int .i64 (1 + (k : Int))) := by
  simp [sqL, h]
/-- A row of n spans at block g whose cells are l. -/
def Fl (w : World) (base g cap n : Nat) (l : List Int) : Prop := w.ownsRow base 86 3 (.slice (some ⟨g, 0, none⟩) n cap) n (l.map (Value.int .i64))
theorem Fl.at {w : World} {base g cap n : Nat} {l : List Int} (h : Fl w base g cap n l) (j : Nat) (hj : j < l.length) : ∃ x, w.cell? ⟨g, j, none⟩ = some x ∧ w.frozen? ⟨g, j, none⟩ = false := by
  have hn : (l.map (Value.int .i64)).length = n * 3 := h.1
  rw [List.length_map] at hn
  have := World.ownsRow.cellAt h j (by omega)
  rw [List.getElem?_eq_getElem (by simpa using hj)] at this
  exact ⟨_, this, World.ownsRow.frozenAt h j⟩
theorem Fl.mark {w : World} {base g cap n : Nat} {l : List Int} {k : Nat} (h : Fl w base g cap n (mkL l k)) (hk : k < l.length) (z : Int) (hz : z = 1 + (k : Int)) : Fl (w.setCell ⟨g, k, none⟩ (.int .i64 z)) base g cap n (mkL l (k + 1)) := by
  subst hz
  have := (World.ownsRow.stored h k (.int .i64 (1 + (k : Int)))).1
  rw [mkL_set l k hk] at this
  exact this
set_option maxHeartbeats 4000000 in
theorem mark_at (base g cap n : Nat) (l : List Int) (w : World) (hl : l.length = n * 3) (hn : n ≤ 1048576) (hbg : base ≤ g) (h : Fl w base g cap n l) :
    Calls Tryz.prog 33 #[.slice (some ⟨g, 0, none⟩) n cap, .int .i64 1] w fun e w' => e = .returned (.int .i64 (1 + ((n * 3 : Nat) : Int))) ∧ Fl w' base g cap n (sqL (n * 3)) ∧ Below base w w' := by
  have H := hide h
  clear h
  go_enter Tryz.func33, Tryz.ntmps33
  go_wp2
  go_loopw [1, 5] (fun m i wr => ∃ k : Nat, k ≤ n ∧ i = .int .i64 k ∧ m = .int .i64 (1 + (k : Int) * 3) ∧ Hid (Fl wr base g cap n (mkL l (k * 3))) ∧ Hid (Below base w wr)) (fun _ i _ => n - (intOf i).toNat)
  case atStart => exact ⟨0, Nat.zero_le _, rfl, rfl, hide (by rw [Nat.zero_mul, mkL_zero]; exact unhide H), hide (Below.refl _ _)⟩
  case round =>
    obtain ⟨k, hk, rfl, rfl, HO, HB⟩ := hrel
    clear H
    by_cases hlt : k < n
    · have hlt' : (k : Int) < (n : Int) := by omega
      have L0 : k * 3 < l.length := by omega
      have L1 : k * 3 + 1 < l.length := by omega
      have L2 : k * 3 + 2 < l.length := by omega
      have F1 := (unhide HO).mark L0 (1 + (k : Int) * 3) (by omega)
      have F2 := F1.mark L1 (1 + (k : Int) * 3 + 1) (by omega)
      have F3 := F2.mark L2 (1 + (k : Int) * 3 + 1 + 1) (by omega)
      obtain ⟨x0, p0, q0⟩ := (unhide HO).at (k * 3) (by rw [mkL_len _ _ (by omega)]; exact L0)
      obtain ⟨x1, p1, q1⟩ := F1.at (k * 3 + 1) (by rw [mkL_len _ _ (by omega)]; exact L1)
      obtain ⟨x2, p2, q2⟩ := F2.at (k * 3 + 2) (by rw [mkL_len _ _ (by omega)]; exact L2)
      have HO3 := hide F3
      have HB3 := hide ((((unhide HB).setCell (p := ⟨g, k * 3, none⟩) hbg (.int .i64 (1 + (k : Int) * 3))).setCell (p := ⟨g, k * 3 + 1, none⟩) hbg (.int .i64 (1 + (k : Int) * 3 + 1))).setCell (p := ⟨g, k * 3 + 2, none⟩) hbg (.int .i64 (1 + (k : Int) * 3 + 1 + 1)))
      clear F1 F2 F3
      go_wp2
      go_roundw
      case rel => exact ⟨k + 1, by omega, by go_num, by go_num, hide (by rw [Nat.add_mul]; exact unhide HO3), HB3⟩
      case measure => simp [intOf]; omega
    · obtain rfl : k = n := by omega
      go_wp2
      go_ret
      refine ⟨by go_num, ?_, unhide HB⟩
      have := unhide HO
      rw [← hl, mkL_all, hl] at this
      exact this
theorem Fl.sq {w : World} {base g cap n : Nat} (h : Fl w base g cap n (sqL (n * 3))) (j : Nat) (hj : j < n * 3) (z : Int) (hz : z = 1 + (j : Int)) : w.cell? ⟨g, j, none⟩ = some (.int .i64 z) := by
  rw [hz]
  exact (World.ownsRow.cellAt h j (by omega)).trans (sq_at (n * 3) j hj)
theorem mark_nil (a : Option Addr) (cap : Nat) (w : World) : Calls Tryz.prog 33 #[.slice a 0 cap, .int .i64 1] w fun e w' => e = .returned (.int .i64 1) ∧ w' = w := by
  go_enter Tryz.func33, Tryz.ntmps33
  go_wp2
  go_loop [1, 5] (fun m i => m = .int .i64 1 ∧ i = .int .i64 0) (fun _ _ => 0)
  case atStart => exact ⟨rfl, rfl⟩
  case round =>
    obtain ⟨rfl, rfl⟩ := hrel
    go_wp2
    go_ret
    exact ⟨rfl, rfl⟩
/-- A row of n spans that holds the marks. -/
def Marked (w : World) (B : Nat) (v : Value) (n : Nat) : Prop := ∃ a c, v = .slice a n c ∧ (n = 0 ∨ ∃ g, a = some ⟨g, 0, none⟩ ∧ Fl w B g c n (sqL (n * 3)))
theorem Marked.below {w w' : World} {B : Nat} {v : Value} {n : Nat} (h : Marked w B v n) (hb : Below w.heap.size w w') : Marked w' B v n := by
  obtain ⟨a, c, hv, h⟩ := h
  refine ⟨a, c, hv, h.imp_right ?_⟩
  rintro ⟨g, hg, hf⟩
  exact ⟨g, hg, ownsRow_below hf hb⟩
theorem markV (B : Nat) (v : Value) (L : List Sp) (w : World) (h : SpRow w B v L) (hl : L.length ≤ 1048576) :
    Calls Tryz.prog 33 #[v, .int .i64 1] w fun e w' => e = .returned (.int .i64 (1 + (L.length : Int) * 3)) ∧ Marked w' B v L.length ∧ Below B w w' := by
  obtain ⟨a, c, rfl, hg⟩ := h.form
  by_cases h0 : L.length = 0
  · rw [h0]
    refine (mark_nil a c w).mono ?_
    rintro e w' ⟨rfl, rfl⟩
    exact ⟨by simp, ⟨a, c, rfl, .inl rfl⟩, Below.refl _ _⟩
  · obtain ⟨g, rfl, hgB, _⟩ := hg (by omega)
    have hF : Fl w B g c L.length (fl L) := by
      unfold Fl
      rw [← cells_fl]
      exact h
    refine (mark_at B g c L.length (fl L) w (fl_len L) hl hgB hF).mono ?_
    rintro e w' ⟨rfl, hm, hb⟩
    exact ⟨ret_int (by omega), ⟨_, c, rfl, .inr ⟨g, rfl, hm⟩⟩, hb⟩
end Go.Proofs.YtfldomifooihlaaGreatDoor
/- Rows of kerns: a copy of one, and what is read of one. -/
namespace Go.Proofs.YtfldomifooihlaaGreatDoor.Krn
open Go.RowKit
theorem infoSp : (Tryz.prog.info? 75).map (fun i => (i.zero, i.size, i.bytes)) = some (some (.agg #[.int .i64 0, .int .i64 0, .int .i64 0]), 3, 24) := by kernel_rfl
/-- The cells of spans. -/
def cells (L : List Sp) : List Value := L.flatMap fun r => [.int .i64 r.1, .int .i64 r.2.1, .int .i64 r.2.2]
theorem cells_cons (a : Sp) (t : List Sp) : cells (a :: t) = [.int .i64 a.1, .int .i64 a.2.1, .int .i64 a.2.2] ++ cells t := rfl
theorem cells_len (L : List Sp) : (cells L).length = L.length * 3 := by
  induction L with
  | nil => rfl
  | cons a t ih => rw [cells_cons, List.length_append, ih, List.length_cons]; simp; omega
theorem cells_snoc (L : List Sp) (r : Sp) : cells (L ++ [r]) = cells L ++ [.int .i64 r.1, .int .i64 r.2.1, .int .i64 r.2.2] := by
  unfold cells; rw [List.flatMap_append, List.flatMap_singleton]
theorem cells_append (L M : List Sp) : cells (L ++ M) = cells L ++ cells M := by unfold cells; rw [List.flatMap_append]
/-- Spans in a row of the call's own. -/
def SpRow (w : World) (B : Nat) (v : Value) (L : List Sp) : Prop := w.ownsRow B 75 3 v L.length (cells L)
theorem SpRow.below {w w' : World} {B : Nat} {v : Value} {L : List Sp} (h : SpRow w B v L) (hb : Below w.heap.size w w') : SpRow w' B v L := ownsRow_below h hb
theorem cells_at (L : List Sp) (i j : Nat) (hi : i < L.length) (hj : j < 3) : (cells L)[i * 3 + j]? = [Value.int .i64 (gx L i).1, .int .i64 (gx L i).2.1, .int .i64 (gx L i).2.2][j]? := by
  induction L generalizing i with
  | nil => simp at hi
  | cons a t ih =>
    rw [cells_cons]
    match i with
    | 0 =>
      rw [List.getElem?_append_left (by simp; omega)]
      simp [gx]
    | i + 1 =>
      rw [List.getElem?_append_right (by simp; omega)]
      have e : (i + 1) * 3 + j - [Value.int .i64 a.1, .int .i64 a.2.1, .int .i64 a.2.2].length = i * 3 + j := by simp; omega
      rw [e, ih i (by simpa using hi)]
      simp [gx]
theorem SpRow.read {w : World} {B g c : Nat} {L : List Sp} (h : SpRow w B (.slice (some ⟨g, 0, none⟩) L.length c) L) (i : Nat) (hi : i < L.length) :
    w.cell? ⟨g, i * 3, none⟩ = some (.int .i64 (gx L i).1) ∧ w.cell? ⟨g, i * 3 + 1, none⟩ = some (.int .i64 (gx L i).2.1) ∧ w.cell? ⟨g, i * 3 + 2, none⟩ = some (.int .i64 (gx L i).2.2) :=
  ⟨(World.ownsRow.cellAt h (i * 3) (by omega)).trans (cells_at L i 0 hi (by omega)), (World.ownsRow.cellAt h (i * 3 + 1) (by omega)).trans (cells_at L i 1 hi (by omega)), (World.ownsRow.cellAt h (i * 3 + 2) (by omega)).trans (cells_at L i 2 hi (by omega))⟩
theorem SpRow.form {w : World} {B : Nat} {v : Value} {L : List Sp} (h : SpRow w B v L) : ∃ a c, v = .slice a L.length c ∧ (0 < L.length → ∃ g, a = some ⟨g, 0, none⟩ ∧ B ≤ g ∧ g < w.heap.size) := by
  rcases h.2 with ⟨hv, hn⟩ | ⟨g, cap, cur, hv, hg, hh, _⟩
  · exact ⟨none, 0, by rw [hv, hn], fun h => by omega⟩
  · exact ⟨_, _, hv, fun _ => ⟨g, rfl, hg, (Array.getElem?_eq_some_iff.1 hh).1⟩⟩
theorem wrap_in (x : Int) (h0 : -9223372036854775808 ≤ x) (h1 : x ≤ 9223372036854775807) : IntKind.i64.wrap x = x := by
  simp [IntKind.wrap, IntKind.signed, IntKind.bits]; omega
theorem cell_alloc {w : World} {a : Addr} {v : Value} (h : w.cell? a = some v) (o : Obj) : (w.alloc o).cell? a = some v := (World.cell?_of_block (Below.heap_alloc w o a.block (block_lt_of_cell h))).trans h
/-- A slice value that holds just the spans L. -/
def SpsAt (w : World) (v : Value) (L : List Sp) : Prop :=
  ∃ a cap, v = .slice a L.length cap ∧ (L = [] ∨ ∃ b off, a = some ⟨b, off, none⟩ ∧ b < w.heap.size ∧ ∀ i, i < L.length → w.cell? ⟨b, off + i * 3, none⟩ = some (.int .i64 (gx L i).1) ∧ w.cell? ⟨b, off + i * 3 + 1, none⟩ = some (.int .i64 (gx L i).2.1) ∧ w.cell? ⟨b, off + i * 3 + 2, none⟩ = some (.int .i64 (gx L i).2.2))
theorem SpsAt.below {w w' : World} {v : Value} {L : List Sp} (h : SpsAt w v L) (hb : Below w.heap.size w w') : SpsAt w' v L := by
  obtain ⟨a, cap, rfl, h⟩ := h
  refine ⟨a, cap, rfl, ?_⟩
  rcases h with h | ⟨b, off, rfl, hbs, hc⟩
  · exact .inl h
  · exact .inr ⟨b, off, rfl, Nat.lt_of_lt_of_le hbs hb.size, fun i hi => ⟨(hb.cell (p := ⟨b, off + i * 3, none⟩) hbs).trans (hc i hi).1, (hb.cell (p := ⟨b, off + i * 3 + 1, none⟩) hbs).trans (hc i hi).2.1, (hb.cell (p := ⟨b, off + i * 3 + 2, none⟩) hbs).trans (hc i hi).2.2⟩⟩
theorem szSpans_any (a : Option Addr) (n c : Nat) (m : Int) (hm : 0 ≤ m ∧ m ≤ 1048576) (w : World) (hn : n ≤ 9223372036854775807) :
    Calls Tryz.prog 15 #[.slice a n c, .int .i64 m] w fun e w' => e = .returned (.int .i64 (if m - (n : Int) < 0 then -1 else m - (n : Int))) ∧ w' = w := by
  by_cases h : m - (n : Int) < 0
  · go_enter Tryz.func15, Tryz.ntmps15
    go_wp2
    go_ret
    exact ⟨rfl, rfl⟩
  · go_enter Tryz.func15, Tryz.ntmps15
    go_wp2
    go_ret
    exact ⟨rfl, rfl⟩
theorem toSpan_any (x y z : Int) (w : World) : Calls Tryz.prog 49 #[.agg #[.int .i64 x, .int .i64 y, .int .i64 z]] w fun e w' => e = .returned (.agg #[.int .i64 x, .int .i64 y, .int .i64 z]) ∧ Below w.heap.size w w' := by
  go_enter Tryz.func49, Tryz.ntmps49
  go_wp2
  go_returns
  exact ⟨rfl, (((Below.refl _ _).alloc (Nat.le_refl _) _).alloc (by simp) _).alloc (by simp; omega) _⟩
/-- The first k spans of L, and zeros behind them. -/
def fillS (L : List Sp) (k : Nat) : List Sp := L.take k ++ List.replicate (L.length - k) (0, 0, 0)
theorem fillS_zero (L : List Sp) : fillS L 0 = List.replicate L.length (0, 0, 0) := by simp [fillS]
theorem fillS_all (L : List Sp) : fillS L L.length = L := by simp [fillS]
theorem fillS_len (L : List Sp) (k : Nat) (h : k ≤ L.length) : (fillS L k).length = L.length := by simp [fillS]; omega
theorem rep_cells (n : Nat) : cells (List.replicate n (0, 0, 0)) = (madeCells #[Value.int .i64 0, .int .i64 0, .int .i64 0] (n * 3)).toList := by
  apply List.ext_getElem?
  intro i
  unfold madeCells
  rw [Array.toList_map, List.getElem?_map, Array.toList_range]
  by_cases h : i < n * 3
  · rw [List.getElem?_range h, show i = i / 3 * 3 + i % 3 by omega, cells_at _ _ _ (by simp; omega) (by omega)]
    have e : gx (List.replicate n ((0, 0, 0) : Sp)) (i / 3) = (0, 0, 0) := by
      rw [gx, List.getD_eq_getElem?_getD, List.getElem?_replicate, if_pos (by omega)]; rfl
    rw [e]
    have hm : i % 3 = 0 ∨ i % 3 = 1 ∨ i % 3 = 2 := by omega
    rcases hm with hm | hm | hm <;> simp [hm, Nat.add_mod]
  · rw [List.getElem?_eq_none (by rw [cells_len]; simp; omega), List.getElem?_eq_none (by simp; omega)]
    rfl
theorem cells_set3 (A C : List Sp) (r s : Sp) : (((cells (A ++ r :: C)).set (A.length * 3) (.int .i64 s.1)).set (A.length * 3 + 1) (.int .i64 s.2.1)).set (A.length * 3 + 2) (.int .i64 s.2.2) = cells (A ++ s :: C) := by
  rw [cells_append, cells_append, cells_cons, cells_cons]
  have hl := cells_len A
  rw [List.set_append_right _ _ (by omega), List.set_append_right _ _ (by omega), List.set_append_right _ _ (by omega)]
  congr 1
  rw [hl, Nat.sub_self, show A.length * 3 + 1 - A.length * 3 = 1 by omega, show A.length * 3 + 2 - A.length * 3 = 2 by omega]
  rfl
theorem fillS_set (L : List Sp) (k : Nat) (h : k < L.length) : (((cells (fillS L k)).set (k * 3) (.int .i64 (gx L k).1)).set (k * 3 + 1) (.int .i64 (gx L k).2.1)).set (k * 3 + 2) (.int .i64 (gx L k).2.2) = cells (fillS L (k + 1)) := by
  have hk : (L.take k).length = k := by simp; omega
  have e1 : L.length - k = (L.length - (k + 1)) + 1 := by omega
  have := cells_set3 (L.take k) (List.replicate (L.length - (k + 1)) (0, 0, 0)) (0, 0, 0) (gx L k)
  rw [hk] at this
  unfold fillS
  rw [e1, List.replicate_succ, this, List.take_succ_eq_append_getElem h, List.append_assoc]
  have e2 : gx L k = L[k] := by simp [gx, List.getD, h]
  rw [e2]
  rfl
theorem made_below {w w1 : World} (h : w.grownBy w1 none) : Below w.heap.size w w1 := (Below.refl _ _).grown h (Nat.le_refl _) (fun k hk => by cases hk)
/-- The three cells of one span, stored. -/
theorem row3_stored {w : World} {B g n c : Nat} {xs : List Value} (h : w.ownsRow B 75 3 (.slice (some ⟨g, 0, none⟩) n c) n xs) (k : Nat) (x y z : Value) :
    (((w.setCell ⟨g, k * 3, none⟩ x).setCell ⟨g, k * 3 + 1, none⟩ y).setCell ⟨g, k * 3 + 2, none⟩ z).ownsRow B 75 3 (.slice (some ⟨g, 0, none⟩) n c) n (((xs.set (k * 3) x).set (k * 3 + 1) y).set (k * 3 + 2) z) :=
  (((h.stored (k * 3) x).1.stored (k * 3 + 1) y).1.stored (k * 3 + 2) z).1
theorem row3_at {w : World} {B g n c : Nat} {xs : List Value} (h : w.ownsRow B 75 3 (.slice (some ⟨g, 0, none⟩) n c) n xs) (j : Nat) (hj : j < n * 3) : ∃ x, w.cell? ⟨g, j, none⟩ = some x ∧ w.frozen? ⟨g, j, none⟩ = false := by
  have hn : xs.length = n * 3 := h.1
  have := h.cellAt j hj
  rw [List.getElem?_eq_getElem (by omega)] at this
  exact ⟨_, this, h.frozenAt j⟩
set_option maxHeartbeats 1000000 in
theorem toSpans_at (b off cap : Nat) (L : List Sp) (w : World) (hbs : b < w.heap.size) (hc : ∀ i, i < L.length → w.cell? ⟨b, off + i * 3, none⟩ = some (.int .i64 (gx L i).1) ∧ w.cell? ⟨b, off + i * 3 + 1, none⟩ = some (.int .i64 (gx L i).2.1) ∧ w.cell? ⟨b, off + i * 3 + 2, none⟩ = some (.int .i64 (gx L i).2.2)) (hl : L.length ≤ 1048576) :
    Calls Tryz.prog 24 #[.slice (some ⟨b, off, none⟩) L.length cap] w fun e w' => e = .returned (.slice (some ⟨w.heap.size, 0, none⟩) L.length L.length) ∧
      SpRow w' w.heap.size (.slice (some ⟨w.heap.size, 0, none⟩) L.length L.length) L ∧ Below w.heap.size w w' := by
  obtain ⟨i0, hi, hz0, hz1, hz2⟩ := info_parts infoSp
  have HC := hide hc
  clear hc
  go_enter Tryz.func24, Tryz.ntmps24
  go_wp2_with (at_make; refine wpList_make_full _ rfl _ _ 34 rfl w.heap.size 75 i0 (.agg #[.int .i64 0, .int .i64 0, .int .i64 0]) 3 Tryz.underlying34 hi hz0 hz1 .i64 .i64 _ _ L.length rfl rfl rfl rfl ?b2 ?b3 ?b4 ?_)
  case b2 => rw [hz2]; omega
  case b3 => unfold maxLen; omega
  case b4 => omega
  intro w1 hown hgrow
  rw [← rep_cells, ← fillS_zero] at hown
  have H1 := hide hown
  have hb1 := hide (made_below hgrow)
  clear hown hgrow
  go_wp2
  go_loopw [4] (fun i wr => ∃ k : Nat, k ≤ L.length ∧ i = .int .i64 k ∧ Hid (wr.ownsRow w.heap.size 75 3 (.slice (some ⟨w.heap.size, 0, none⟩) L.length L.length) L.length (cells (fillS L k))) ∧ Hid (Below w.heap.size w wr)) (fun i _ => L.length - (intOf i).toNat)
  case atStart => exact ⟨0, Nat.zero_le _, rfl, H1, hb1⟩
  case round =>
    obtain ⟨k, hk, rfl, HO, HB⟩ := hrel
    clear H1 hb1
    by_cases hlt : k < L.length
    · have hlt' : (k : Int) < (L.length : Int) := by omega
      obtain ⟨c0, c1, c2⟩ := (unhide HC) k hlt
      have d0 := ((unhide HB).cell (p := ⟨b, off + k * 3, none⟩) hbs).trans c0
      have d1 := ((unhide HB).cell (p := ⟨b, off + k * 3 + 1, none⟩) hbs).trans c1
      have d2 := ((unhide HB).cell (p := ⟨b, off + k * 3 + 2, none⟩) hbs).trans c2
      clear c0 c1 c2
      have HF := hide (fillS_set L k hlt)
      generalize hr : gx L k = r at *
      clear hr
      go_wp2_with fail
      refine (toSpan_any _ _ _ _).mono ?_
      rintro e w2 ⟨rfl, hb2⟩
      have HO2 := hide (ownsRow_below (unhide HO) hb2)
      have HB2 := hide ((unhide HB).trans (hb2.mono (unhide HB).size))
      clear hb2 HO HB d0 d1 d2
      obtain ⟨x0, p0, q0⟩ := row3_at (unhide HO2) (k * 3) (by omega)
      obtain ⟨x1, p1, q1⟩ := row3_at (unhide HO2) (k * 3 + 1) (by omega)
      obtain ⟨x2, p2, q2⟩ := row3_at (unhide HO2) (k * 3 + 2) (by omega)
      have HS := hide (row3_stored (unhide HO2) k (.int .i64 r.1) (.int .i64 r.2.1) (.int .i64 r.2.2))
      have HB3 := hide ((((unhide HB2).setCell (p := ⟨w.heap.size, k * 3, none⟩) (Nat.le_refl _) (.int .i64 r.1)).setCell (p := ⟨w.heap.size, k * 3 + 1, none⟩) (Nat.le_refl _) (.int .i64 r.2.1)).setCell (p := ⟨w.heap.size, k * 3 + 2, none⟩) (Nat.le_refl _) (.int .i64 r.2.2))
      rw [unhide HF] at HS
      go_wp2
      go_roundw
      case rel => exact ⟨k + 1, by omega, by go_num, HS, HB3⟩
      case measure => simp [intOf]; omega
    · obtain rfl : k = L.length := by omega
      go_wp2
      go_ret
      have ho := unhide HO
      rw [fillS_all] at ho
      exact ⟨rfl, ho, unhide HB⟩
set_option maxHeartbeats 1000000 in
theorem toSpans_nil (a : Option Addr) (cap : Nat) (L : List Sp) (w : World) (h0 : L.length = 0) :
    Calls Tryz.prog 24 #[.slice a L.length cap] w fun e w' => e = .returned (.slice (some ⟨w.heap.size, 0, none⟩) L.length L.length) ∧
      SpRow w' w.heap.size (.slice (some ⟨w.heap.size, 0, none⟩) L.length L.length) L ∧ Below w.heap.size w w' := by
  have H0 := hide h0
  clear h0
  have hl : L.length ≤ 1048576 := by rw [unhide H0]; omega
  obtain ⟨i0, hi, hz0, hz1, hz2⟩ := info_parts infoSp
  go_enter Tryz.func24, Tryz.ntmps24
  go_wp2_with (at_make; refine wpList_make_full _ rfl _ _ 34 rfl w.heap.size 75 i0 (.agg #[.int .i64 0, .int .i64 0, .int .i64 0]) 3 Tryz.underlying34 hi hz0 hz1 .i64 .i64 _ _ L.length rfl rfl rfl rfl ?b2 ?b3 ?b4 ?_)
  case b2 => rw [hz2]; omega
  case b3 => unfold maxLen; omega
  case b4 => omega
  intro w1 hown hgrow
  rw [← rep_cells, ← fillS_zero] at hown
  have H1 := hide hown
  have hb1 := hide (made_below hgrow)
  clear hown hgrow
  go_wp2
  go_loopw [4] (fun i wr => ∃ k : Nat, k ≤ L.length ∧ i = .int .i64 k ∧ Hid (wr.ownsRow w.heap.size 75 3 (.slice (some ⟨w.heap.size, 0, none⟩) L.length L.length) L.length (cells (fillS L k))) ∧ Hid (Below w.heap.size w wr)) (fun i _ => L.length - (intOf i).toNat)
  case atStart => exact ⟨0, Nat.zero_le _, rfl, H1, hb1⟩
  case round =>
    obtain ⟨k, hk, rfl, HO, HB⟩ := hrel
    clear H1 hb1
    by_cases hlt : k < L.length
    · have := unhide H0; omega
    · obtain rfl : k = L.length := by omega
      go_wp2
      go_ret
      have ho := unhide HO
      rw [fillS_all] at ho
      exact ⟨rfl, ho, unhide HB⟩
theorem toSpans (v : Value) (L : List Sp) (w : World) (h : SpsAt w v L) (hl : L.length ≤ 1048576) :
    Calls Tryz.prog 24 #[v] w fun e w' => e = .returned (.slice (some ⟨w.heap.size, 0, none⟩) L.length L.length) ∧
      SpRow w' w.heap.size (.slice (some ⟨w.heap.size, 0, none⟩) L.length L.length) L ∧ Below w.heap.size w w' := by
  obtain ⟨a, cap, rfl, h⟩ := h
  rcases h with h | ⟨b, off, rfl, hbs, hc⟩
  · exact toSpans_nil a cap L w (by rw [h]; rfl)
  · exact toSpans_at b off cap L w hbs hc hl
theorem eqSpan_any (x y z : Int) (w : World) : Calls Tryz.prog 66 #[.agg #[.int .i64 x, .int .i64 y, .int .i64 z], .agg #[.int .i64 x, .int .i64 y, .int .i64 z]] w fun e w' => e = .returned (.bool true) ∧ Below w.heap.size w w' := by
  have h1 : (x != x) = false := by simp
  have h2 : (y != y) = false := by simp
  have h3 : (z != z) = false := by simp
  go_enter Tryz.func66, Tryz.ntmps66
  go_wp2
  go_ret
  exact ⟨rfl, ((Below.refl _ _).alloc (Nat.le_refl _) _).alloc (by simp) _⟩
set_option maxHeartbeats 4000000 in
set_option maxRecDepth 100000 in
theorem eqSpans (v1 v2 : Value) (L : List Sp) (B1 B2 : Nat) (w : World) (h1 : SpRow w B1 v1 L) (h2 : SpRow w B2 v2 L) (hl : L.length ≤ 1048576) :
    Calls Tryz.prog 32 #[v1, v2] w fun e w' => e = .returned (.bool true) ∧ Below w.heap.size w w' := by
  obtain ⟨a1, c1, rfl, hg1⟩ := h1.form
  obtain ⟨a2, c2, rfl, hg2⟩ := h2.form
  have H1 := hide h1
  have H2 := hide h2
  have G1 := hide hg1
  have G2 := hide hg2
  clear h1 h2 hg1 hg2
  have hne : ((L.length : Int) != (L.length : Int)) = false := by simp
  go_enter Tryz.func32, Tryz.ntmps32
  go_wp2
  go_loopw [5] (fun i wr => ∃ k : Nat, k ≤ L.length ∧ i = .int .i64 k ∧ Hid (Below w.heap.size w wr)) (fun i _ => L.length - (intOf i).toNat)
  case atStart => exact ⟨0, Nat.zero_le _, rfl, hide (Below.refl _ _)⟩
  case round =>
    obtain ⟨k, hk, rfl, HB⟩ := hrel
    by_cases hlt : k < L.length
    · obtain ⟨g1, rfl, _, _⟩ := (unhide G1) (by omega)
      obtain ⟨g2, rfl, _, _⟩ := (unhide G2) (by omega)
      obtain ⟨x0, x1, x2⟩ := ((unhide H1).below (unhide HB)).read k hlt
      obtain ⟨y0, y1, y2⟩ := ((unhide H2).below (unhide HB)).read k hlt
      have hlt' : (k : Int) < (L.length : Int) := by omega
      have h0k : (0 : Int) ≤ (k : Int) := by omega
      generalize gx L k = r at *
      go_wp2_with fail
      go_region_with (go_at_call 66; refine (eqSpan_any _ _ _ _).mono ?_; rintro e w2 ⟨rfl, hb2⟩)
      all_goals
        have HB' := hide ((unhide HB).trans (((drew_below wr).trans hb2).mono (unhide HB).size))
        clear hb2
        go_wp2
        go_roundw
        case rel => exact ⟨k + 1, by omega, by go_num, HB'⟩
        case measure => simp [intOf]; omega
    · go_wp2
      go_ret
      exact ⟨rfl, unhide HB⟩
end Go.Proofs.YtfldomifooihlaaGreatDoor.Krn
/- Are spans right? The program's answer and the specification's. -/
namespace Go.Proofs.YtfldomifooihlaaGreatDoor
open Go.RowKit
theorem fault_long {L : List Sp} (h : 1000 < L.length) : faultOf L = 1 := by
  unfold faultOf right
  rw [decide_eq_false (by omega)]
  rfl
theorem fault_ok {L : List Sp} (h : L.length ≤ 1000) (ho : okAt L 0 = true) : faultOf L = 0 := by
  unfold faultOf right
  rw [← okAt_zero, ho, decide_eq_true h]
  rfl
theorem fault_no {L : List Sp} (ho : okAt L 0 = false) : faultOf L = 1 := by
  unfold faultOf right
  rw [← okAt_zero, ho, Bool.and_false]
  rfl
set_option maxHeartbeats 4000000 in
theorem implFault (v : Value) (L : List Sp) (B : Nat) (w : World) (h : SpRow w B v L) (hl : L.length ≤ 1048576) :
    Calls Tryz.prog 79 #[v] w fun e w' => e = .returned (.int .i64 (faultOf L)) ∧ Below w.heap.size w w' := by
  obtain ⟨a, c, rfl, hg⟩ := h.form
  have H := hide h
  have G := hide hg
  clear h hg
  by_cases hL : 1000 < L.length
  · have hL' : (1000 : Int) < (L.length : Int) := by omega
    rw [fault_long hL]
    go_enter Tryz.func79, Tryz.ntmps79
    go_wp2
    go_ret
    exact ⟨rfl, Below.refl _ _⟩
  · have hL' : ¬ (1000 : Int) < (L.length : Int) := by omega
    go_enter Tryz.func79, Tryz.ntmps79
    go_wp2
    go_loopw [3, 11] (fun ev i wr => ∃ k : Nat, k ≤ L.length ∧ i = .int .i64 k ∧ ev = .int .i64 (endAt L k) ∧ Hid (okAt L 0 = okAt L k) ∧ Hid (Below w.heap.size w wr)) (fun _ i _ => L.length - (intOf i).toNat)
    case atStart => exact ⟨0, Nat.zero_le _, rfl, rfl, hide rfl, hide (Below.refl _ _)⟩
    case round =>
      obtain ⟨k, hk, rfl, rfl, HR, HB⟩ := hrel
      by_cases hlt : k < L.length
      · obtain ⟨g1, rfl, _, _⟩ := (unhide G) (by omega)
        obtain ⟨x0, x1, x2⟩ := ((unhide H).below (unhide HB)).read k hlt
        have hlt' : (k : Int) < (L.length : Int) := by omega
        have HS := hide (okAt_step L k hlt)
        have HE : Hid (endAt L (k + 1) = (gx L k).2.1) := hide rfl
        have HB' := fun o => hide ((unhide HB).alloc (unhide HB).size o)
        generalize gx L k = r at *
        generalize endAt L k = en at *
        by_cases c1 : r.1 ≤ en
        · have HN : Hid (okAt L 0 = false) := hide (by rw [unhide HR, unhide HS, decide_eq_false (by omega)]; simp)
          go_wp2
          go_ret
          exact ⟨ret_int (fault_no (unhide HN)).symm, unhide (HB' _)⟩
        · by_cases c2 : r.2.1 < r.1
          · have HN : Hid (okAt L 0 = false) := hide (by rw [unhide HR, unhide HS, decide_eq_false (show ¬ r.1 ≤ r.2.1 by omega)]; simp)
            go_wp2
            go_ret
            exact ⟨ret_int (fault_no (unhide HN)).symm, unhide (HB' _)⟩
          · by_cases c3 : 32767 < r.2.1
            · have HN : Hid (okAt L 0 = false) := hide (by rw [unhide HR, unhide HS, decide_eq_false (show ¬ r.2.1 ≤ 32767 by omega)]; simp)
              go_wp2
              go_ret
              exact ⟨ret_int (fault_no (unhide HN)).symm, unhide (HB' _)⟩
            · have HN : Hid (okAt L 0 = okAt L (k + 1)) := hide (by rw [unhide HR, unhide HS, decide_eq_true (show en < r.1 by omega), decide_eq_true (show r.1 ≤ r.2.1 by omega), decide_eq_true (show r.2.1 ≤ 32767 by omega)]; simp)
              go_wp2
              go_roundw
              case rel => exact ⟨k + 1, by omega, by go_num, by rw [unhide HE], HN, HB' _⟩
              case measure => simp [intOf]; omega
      · have HN : Hid (okAt L 0 = true) := hide (by rw [unhide HR, okAt_end L k hlt])
        go_wp2
        go_ret
        exact ⟨ret_int (fault_ok (by omega) (unhide HN)).symm, unhide HB⟩
theorem endAt_pos (L : List Sp) (k : Nat) (h : 0 < k) : endAt L k = (gx L (k - 1)).2.1 := by
  match k, h with
  | k + 1, _ => rfl
set_option maxHeartbeats 4000000 in
set_option maxRecDepth 100000 in
theorem specFault (v : Value) (L : List Sp) (B : Nat) (w : World) (h : SpRow w B v L) (hl : L.length ≤ 1048576) :
    Calls Tryz.prog 69 #[v] w fun e w' => e = .returned (.int .i64 (faultOf L)) ∧ Below w.heap.size w w' := by
  obtain ⟨a, c, rfl, hg⟩ := h.form
  have H := hide h
  have G := hide hg
  clear h hg
  by_cases hL : 1000 < L.length
  · have hL' : (1000 : Int) < (L.length : Int) := by omega
    rw [fault_long hL]
    go_enter Tryz.func69, Tryz.ntmps69
    go_wp2
    go_ret
    exact ⟨rfl, Below.refl _ _⟩
  · have hL' : ¬ (1000 : Int) < (L.length : Int) := by omega
    go_enter Tryz.func69, Tryz.ntmps69
    go_wp2
    go_loopw [3] (fun i wr => ∃ k : Nat, k ≤ L.length ∧ i = .int .i64 k ∧ Hid (-1 ≤ endAt L k) ∧ Hid (okAt L 0 = okAt L k) ∧ Hid (Below w.heap.size w wr)) (fun i _ => L.length - (intOf i).toNat)
    case atStart => exact ⟨0, Nat.zero_le _, rfl, hide (by show (-1 : Int) ≤ -1; omega), hide rfl, hide (Below.refl _ _)⟩
    case round =>
      obtain ⟨k, hk, rfl, HM, HR, HB⟩ := hrel
      by_cases hlt : k < L.length
      · obtain ⟨g1, rfl, _, _⟩ := (unhide G) (by omega)
        obtain ⟨x0, x1, x2⟩ := ((unhide H).below (unhide HB)).read k hlt
        have hlt' : (k : Int) < (L.length : Int) := by omega
        have HS := hide (okAt_step L k hlt)
        have HE : Hid (endAt L (k + 1) = (gx L k).2.1) := hide rfl
        have HB' := fun o => hide ((unhide HB).alloc (unhide HB).size o)
        obtain ⟨⟨x, y, z⟩, hr⟩ : ∃ r, gx L k = r := ⟨_, rfl⟩
        rw [hr] at x0 x1 x2 HS HE
        simp only at x0 x1 x2 HS HE
        by_cases c1 : x < 0
        · have HN : Hid (okAt L 0 = false) := hide (by rw [unhide HR, unhide HS, decide_eq_false (by have := unhide HM; omega)]; simp)
          clear hr
          clear HE HS HR HM
          go_upto_region 7 with fail
          go_quiet (fail)
          go_wp2
          go_ret
          exact ⟨ret_int (fault_no (unhide HN)).symm, bdrew (unhide (HB' _)) _⟩
        by_cases c2 : 32767 < y
        · have HN : Hid (okAt L 0 = false) := hide (by rw [unhide HR, unhide HS, decide_eq_false (show ¬ y ≤ 32767 by omega)]; simp)
          clear hr
          clear HE HS HR HM
          go_upto_region 7 with fail
          go_quiet (fail)
          go_wp2
          go_ret
          exact ⟨ret_int (fault_no (unhide HN)).symm, bdrew (unhide (HB' _)) _⟩
        by_cases c3 : y < x
        · have HN : Hid (okAt L 0 = false) := hide (by rw [unhide HR, unhide HS, decide_eq_false (show ¬ x ≤ y by omega)]; simp)
          clear hr
          clear HE HS HR HM
          go_upto_region 7 with fail
          go_quiet (fail)
          go_wp2
          go_ret
          exact ⟨ret_int (fault_no (unhide HN)).symm, bdrew (unhide (HB' _)) _⟩
        have HM' : Hid (-1 ≤ endAt L (k + 1)) := hide (by rw [unhide HE]; omega)
        by_cases k0 : k = 0
        · subst k0
          have HN : Hid (okAt L 0 = okAt L (0 + 1)) := hide (by rw [unhide HS, decide_eq_true (show endAt L 0 < x by show (-1 : Int) < _; omega), decide_eq_true (show x ≤ y by omega), decide_eq_true (show y ≤ 32767 by omega)]; simp)
          clear hr
          clear HE HS HR HM
          go_upto_region 7 with fail
          go_quiet (fail)
          go_wp2
          go_roundw
          case rel => exact ⟨0 + 1, by omega, by go_num, HM', HN, hide (bdrew (unhide (HB' _)) _)⟩
          case measure => simp [intOf]; omega
        obtain ⟨m, rfl⟩ : ∃ m, k = m + 1 := ⟨k - 1, by omega⟩
        obtain ⟨y0, y1, y2⟩ := ((unhide H).below (unhide HB)).read m (by omega)
        have HA : Hid (endAt L (m + 1) = (gx L m).2.1) := hide rfl
        have hkm : ((m + 1 : Nat) : Int) = (m : Int) + 1 := by omega
        rw [hkm] at hlt' ⊢
        have k0' : (0 : Int) < (m : Int) + 1 := by omega
        have hmw : IntKind.i64.wrap (m : Int) = (m : Int) := wrap_in _ (by omega) (by omega)
        have hmN : m < L.length := by omega
        have hmI : (m : Int) < (L.length : Int) := by omega
        clear y0 y2
        obtain ⟨en, hen⟩ : ∃ en, (gx L m).2.1 = en := ⟨_, rfl⟩
        rw [hen] at y1 HA
        have y1' := cell_alloc y1
        clear hen
        by_cases c5 : x ≤ en
        · have HN : Hid (okAt L 0 = false) := hide (by rw [unhide HR, unhide HS, decide_eq_false (show ¬ endAt L (m + 1) < x by rw [unhide HA]; omega)]; simp)
          clear hr
          clear HE HS HR HM HA
          go_upto_region 7 with fail
          go_quiet (fail)
          go_wp2
          go_ret
          exact ⟨ret_int (fault_no (unhide HN)).symm, bdrew (unhide (HB' _)) _⟩
        · have HN : Hid (okAt L 0 = okAt L (m + 1 + 1)) := hide (by rw [unhide HR, unhide HS, decide_eq_true (show endAt L (m + 1) < x by rw [unhide HA]; omega), decide_eq_true (show x ≤ y by omega), decide_eq_true (show y ≤ 32767 by omega)]; simp)
          clear hr
          clear HE HS HR HM HA
          go_upto_region 7 with fail
          go_quiet (fail)
          go_wp2
          go_roundw
          case rel => exact ⟨m + 1 + 1, by omega, by go_num, HM', HN, hide (bdrew (unhide (HB' _)) _)⟩
          case measure => simp [intOf]; omega
      · have HN : Hid (okAt L 0 = true) := hide (by rw [unhide HR, okAt_end L k hlt])
        go_wp2
        go_ret
        exact ⟨ret_int (fault_ok (by omega) (unhide HN)).symm, unhide HB⟩
end Go.Proofs.YtfldomifooihlaaGreatDoor
/- append to a row of the call's own: the new row is where the old one was, or new. -/
namespace Go.Proofs.YtfldomifooihlaaGreatDoor
open Go.RowKit
theorem app_blockG {P : Program} (w : World) (t ty e : TypeId) (i : TypeInfo) (z : Value) (size bytes : Nat) (ht : P.underlying t = some (.slice e)) (hi : P.info? e = some i) (hz : i.zero = some z) (hsize : i.size = size) (hby : i.bytes = bytes) (hzs : z.cells.size = size) (hsz : 0 < size)
    (base : Nat) (v : Value) (n : Nat) (xs : List Value) (hown : w.ownsRow base e size v n xs) (a : Addr) (m c : Nat) (news : List Value) (hl : news.length = m * size) (hn : ∀ j u, news[j]? = some u → w.cell? (a.add j) = some u) (h1 : ∀ u ∈ news, u.oneCell' = true)
    (h63 : n + m ≤ maxLen) (hbytes : (n + m) * bytes ≤ 140737488355328) (hbase : base ≤ w.heap.size) :
    ∃ v' w', (Builtin.append_ #[t, t] ty #[v, .slice (some a) m c]).run P w = .ok v' w' ∧ w'.ownsRow base e size v' (n + m) (xs ++ news) ∧ w.grownBy w' v.ownBlock ∧ (∀ k, v'.ownBlock = some k → v.ownBlock = some k ∨ w.heap.size ≤ k) := by
  obtain ⟨v', w', hr, ho, hg, _⟩ := run_append_own (P := P) w base t ty e i z size bytes ht hi hz hsize hby hzs hsz v n xs hown a m c news hl hn h1 h63 hbytes hbase
  refine ⟨v', w', hr, ho, hg, ?_⟩
  rcases hown.2 with ⟨rfl, rfl⟩ | ⟨g, cap, cur, rfl, hbg, hgg, hnc, hcm, hcs, htake⟩
  · obtain ⟨v2, w2, hr2, ho2, _, _⟩ := run_append_own (P := P) w w.heap.size t ty e i z size bytes ht hi hz hsize hby hzs hsz (.slice none 0 0) 0 [] (World.ownsRow_nil w _ e size) a m c news hl hn h1 h63 hbytes (Nat.le_refl _)
    have e : v' = v2 := by have := hr.symm.trans hr2; injection this
    intro k hk
    exact .inr (ho2.lt k (e ▸ hk)).1
  · by_cases hroom : n + m ≤ cap
    · have hr2 := run_append_room (P := P) w t ty e i ht hi g n cap cur hgg a m c news (by rw [hsize]; exact hl) hn h1 hroom (by rw [hsize, hl, ← Nat.add_mul, hcs]; exact Nat.mul_le_mul_right _ hroom)
      have e : v' = .slice (some ⟨g, 0, none⟩) (n + m) cap := by have := hr.symm.trans hr2; injection this
      intro k hk
      rw [e] at hk
      exact .inl hk
    · have holds : ∀ j u, xs[j]? = some u → w.cell? ((⟨g, 0, none⟩ : Addr).add j) = some u := hown.cells (g := g) rfl
      obtain ⟨v2, w2, hr2, ho2, _⟩ := run_append_arg_grows (P := P) w t ty e i z size bytes ht hi hz hsize hby hzs hsz ⟨g, 0, none⟩ n cap xs hown.1 holds a m c news hl hn (by omega) h63 hbytes
      have e : v' = v2 := by have := hr.symm.trans hr2; injection this
      intro k hk
      exact .inr (ho2.lt k (e ▸ hk)).1
theorem wpList_appG {P : Program} (w : World) {ops : Array Oper} {rest : List Oper} {o : Oper} {a : Act} {Q : Exit → Act → World → Prop} (hgd : o.guard = none) (s x : Operand) (t : TypeId)
    (ho : o.op = .call { callee := .builtin .append, args := #[s, x], argTypes := #[t, t] })
    (base : Nat) (e : TypeId) (i : TypeInfo) (z : Value) (size bytes : Nat) (ht : P.underlying t = some (.slice e)) (hi : P.info? e = some i) (hz : i.zero = some z) (hsize : i.size = size) (hby : i.bytes = bytes) (hzs : z.cells.size = size) (hsz : 0 < size)
    (v : Value) (n : Nat) (xs : List Value) (hs : a.eval s = v) (hown : w.ownsRow base e size v n xs) (ad : Addr) (m c : Nat) (news : List Value) (hx : a.eval x = .slice (some ad) m c) (hl : news.length = m * size) (hn : ∀ j u, news[j]? = some u → w.cell? (ad.add j) = some u) (h1 : ∀ u ∈ news, u.oneCell' = true)
    (h63 : n + m ≤ maxLen) (hbytes : (n + m) * bytes ≤ 140737488355328) (hbase : base ≤ w.heap.size)
    (h : ∀ v' w', w'.ownsRow base e size v' (n + m) (xs ++ news) → w.grownBy w' v.ownBlock → (∀ k, v'.ownBlock = some k → v.ownBlock = some k ∨ w.heap.size ≤ k) → wpList P ops Q rest (a.put o.dst v') w') : wpList P ops Q (o :: rest) a w := by
  refine wpList_plain hgd fun K hK => ?_
  obtain ⟨v', w', hr, h2, h3, h4⟩ := app_blockG (P := P) w t o.type e i z size bytes ht hi hz hsize hby hzs hsz base v n xs hown ad m c news hl hn h1 h63 hbytes hbase
  unfold Oper.wp execOp
  simp only [ho, resolve, invoke, builtin, Sem.run_bind, Sem.run_pure, Result.andThen_ok, List.map_toArray, List.map_cons, List.map_nil, hs, hx, hr]
  exact hK _ _ (h v' w' h2 h3 h4)
theorem step_append_own {P : Program} {ops : Array Oper} {o : Oper} {a : Act} {w : World} {K : Act → World → Prop} {Q : Exit → Act → World → Prop} {E : Prop}
    (hg : o.guard = none) (s x : Operand) (t : TypeId) (hop : o.op = Op.call { callee := Callee.builtin Builtin.append, args := #[s, x], argTypes := #[t, t] })
    (base : Nat) (e : TypeId) (i : TypeInfo) (z : Value) (size bytes : Nat) (ht : P.underlying t = some (.slice e)) (hi : P.info? e = some i) (hz : i.zero = some z)
    (hsize : i.size = size) (hby : i.bytes = bytes) (hzs : z.cells.size = size) (hsz : 0 < size)
    (v : Value) (n : Nat) (xs : List Value) (hs : a.eval s = v) (hown : w.ownsRow base e size v n xs)
    (ad : Addr) (m c : Nat) (news : List Value) (hx : a.eval x = .slice (some ad) m c) (hl : news.length = m * size) (hnews : ∀ j u, news[j]? = some u → w.cell? (ad.add j) = some u) (h1 : ∀ u ∈ news, u.oneCell' = true)
    (h63 : n + m ≤ maxLen) (hbytes : (n + m) * bytes ≤ 140737488355328) (hbase : base ≤ w.heap.size)
    (h : ∀ v' w', w'.ownsRow base e size v' (n + m) (xs ++ news) → w.grownBy w' v.ownBlock → K (a.put o.dst v') w') :
    if Region.wanted o (yielded ops a.tmps) = true then Oper.wp P o a w K Q else E := by
  have hw : Region.wanted o (yielded ops a.tmps) = true := by simp [Region.wanted, hg]
  rw [if_pos hw]
  exact wp_append_own w s x t hop base e i z size bytes ht hi hz hsize hby hzs hsz v n xs hs hown ad m c news hx hl hnews h1 h63 hbytes hbase (fun v' w' h2 h3 _ => h v' w' h2 h3)
end Go.Proofs.YtfldomifooihlaaGreatDoor
