/- Several texts in one. -/
import Derived.WalkKit
import Derived.WalkLawsBesides
import Derived.WalkSpells
import Derived.Below
import Derived.Test.YtamigjljgepfiaaGreatDoorRows
import Derived.BigQuiet
import Derived.Deep.QuietTactic
import Derived.Deep.RegionWith
import Derived.Handy
import Derived.Deep.RegionLaw
import Derived.ArgAppend
import Derived.Deep.Cut
import Derived.Shelf.Pu.Clone
import Derived.Test.YtamigjljgepfiaaGreatDoorProg
/- Small things that the walks share. -/
namespace Go.Proofs.YtamigjljgepfiaaGreatDoor
open Go.RowKit
theorem hide {p : Prop} (h : p) : Hid p := h
theorem unhide {p : Prop} (h : Hid p) : p := h
theorem bdrew {B : Nat} {a w : World} (h : Below B a w) (n : Nat) : Below B a (w.drewN n) := h.trans ⟨rfl, rfl, rfl, Nat.le_refl _, fun _ _ => rfl⟩
theorem ret_int {k : IntKind} {a b : Int} (h : a = b) : Ending.returned (.int k a) = .returned (.int k b) := by rw [h]
theorem ownsRow_below {w w' : World} {base : Nat} {e : TypeId} {size : Nat} {v : Value} {n : Nat} {xs : List Value} (h : w.ownsRow base e size v n xs) (hb : Below w.heap.size w w') : w'.ownsRow base e size v n xs := by
  refine ⟨h.1, ?_⟩
  rcases h.2 with h' | ⟨g, cap, cur, hv, hg, hh, r⟩
  · exact .inl h'
  · have hlt : g < w.heap.size := (Array.getElem?_eq_some_iff.1 hh).1
    exact .inr ⟨g, cap, cur, hv, hg, (hb.block g hlt).trans hh, r⟩
end Go.Proofs.YtamigjljgepfiaaGreatDoor
/- Stretches of points of one value: there is one list of them. No Go in sight. -/
namespace Go.Proofs.YtamigjljgepfiaaGreatDoor
abbrev Sp := Int × Int × Int
/-- No span ahead has this value. -/
def headNe (t : List Sp) (v : Int) : Prop := ∀ r ∈ t.head?, r.2.2 ≠ v
/-- The spans, the last one first, are the longest stretches of one value of the points 0 .. b - 1. -/
def RunsR (f : Int → Int) : List Sp → Int → Prop
  | [], b => b = 0
  | (x, y, v) :: t, b => y + 1 = b ∧ x ≤ y ∧ (∀ p, x ≤ p → p ≤ y → f p = v) ∧ RunsR f t x ∧ headNe t v
theorem runs_nonneg (f : Int → Int) : ∀ (l : List Sp) (b : Int), RunsR f l b → 0 ≤ b ∧ (l = [] → b = 0)
  | [], b, h => by
    have h' : b = 0 := h
    omega
  | (x, y, v) :: t, b, h => by
    obtain ⟨h1, h2, _, h4, _⟩ := h
    have := (runs_nonneg f t x h4).1
    exact ⟨by omega, fun e => by cases e⟩
theorem runs_one (f : Int → Int) : ∀ (l l' : List Sp) (b : Int), RunsR f l b → RunsR f l' b → l = l'
  | [], [], _, _, _ => rfl
  | [], (x, y, v) :: t, b, h, h' => by
    have hb : b = 0 := h
    obtain ⟨h1, h2, _, h4, _⟩ := h'
    have := (runs_nonneg f t x h4).1
    omega
  | (x, y, v) :: t, [], b, h, h' => by
    have hb : b = 0 := h'
    obtain ⟨h1, h2, _, h4, _⟩ := h
    have := (runs_nonneg f t x h4).1
    omega
  | (x, y, v) :: t, (x', y', v') :: t', b, h, h' => by
    obtain ⟨h1, h2, h3, h4, h5⟩ := h
    obtain ⟨k1, k2, k3, k4, k5⟩ := h'
    have hy : y = y' := by omega
    subst hy
    have hv : v = v' := by rw [← h3 y h2 (Int.le_refl _), ← k3 y k2 (Int.le_refl _)]
    subst hv
    have gap : ∀ (a c : Int) (s : List Sp), a < c → c ≤ y → 0 ≤ a → (∀ p, a ≤ p → p ≤ y → f p = v) → RunsR f s c → headNe s v → False := by
      intro a c s hac hcy ha hf hs hn
      match s, hs, hn with
      | [], hs, _ => have : c = 0 := hs; omega
      | (p, q, u) :: r, hs, hn =>
        obtain ⟨s1, s2, s3, _, _⟩ := hs
        have hu : u = v := by rw [← s3 q s2 (Int.le_refl _), hf q (by omega) (by omega)]
        exact hn (p, q, u) (by simp) hu
    have hx : x = x' := by
      by_cases e : x < x'
      · exact (gap x x' t' e k2 (runs_nonneg f t x h4).1 h3 k4 k5).elim
      · by_cases e' : x' < x
        · exact (gap x' x t e' h2 (runs_nonneg f t' x' k4).1 k3 h4 h5).elim
        · omega
    subst hx
    rw [runs_one f t t' x h4 k4]
/-- One more span. -/
theorem runs_new {f : Int → Int} {t : List Sp} {x y v : Int} (h : RunsR f t x) (hxy : x ≤ y) (hv : ∀ p, x ≤ p → p ≤ y → f p = v) (hn : headNe t v) : RunsR f ((x, y, v) :: t) (y + 1) :=
  ⟨rfl, hxy, hv, h, hn⟩
/-- The last span goes on. -/
theorem runs_on {f : Int → Int} {t : List Sp} {x y v b : Int} (h : RunsR f ((x, y, v) :: t) b) (y' : Int) (hy : b ≤ y') (hv : ∀ p, b ≤ p → p ≤ y' → f p = v) : RunsR f ((x, y', v) :: t) (y' + 1) := by
  obtain ⟨h1, h2, h3, h4, h5⟩ := h
  refine ⟨rfl, by omega, fun p hp1 hp2 => ?_, h4, h5⟩
  by_cases e : p ≤ y
  · exact h3 p hp1 e
  · exact hv p (by omega) hp2
theorem headNe_nil (v : Int) : headNe [] v := fun r h => by simp at h
theorem headNe_cons (r : Sp) (t : List Sp) (v : Int) (h : r.2.2 ≠ v) : headNe (r :: t) v := by
  intro r' h'
  simp at h'
  rw [← h']; exact h
end Go.Proofs.YtamigjljgepfiaaGreatDoor
/- Right spans, their points, and sets of points as spans: there is one set. No Go in sight. -/
namespace Go.Proofs.YtamigjljgepfiaaGreatDoor
def gx (L : List Sp) (i : Nat) : Sp := L.getD i (0, 0, 0)
theorem drop_gx (L : List Sp) (k : Nat) (h : k < L.length) : L.drop k = gx L k :: L.drop (k + 1) := by
  rw [List.drop_eq_getElem_cons h]
  simp [gx, List.getD, h]
/-- Spans rise behind e, each right. -/
def okFrom : Int → List Sp → Bool
  | _, [] => true
  | e, r :: t => decide (e < r.1) && decide (r.1 ≤ r.2.1) && decide (r.2.1 ≤ 32767) && okFrom r.2.1 t
def right (L : List Sp) : Bool := decide (L.length ≤ 1000) && okFrom (-1) L
def faultOf (L : List Sp) : Int := if right L = true then 0 else 1
/-- Where the span ahead of the k-th one ends. -/
def endAt (L : List Sp) : Nat → Int
  | 0 => -1
  | k + 1 => (gx L k).2.1
def okAt (L : List Sp) (k : Nat) : Bool := okFrom (endAt L k) (L.drop k)
theorem okAt_zero (L : List Sp) : okAt L 0 = okFrom (-1) L := rfl
theorem okAt_end (L : List Sp) (k : Nat) (h : ¬ k < L.length) : okAt L k = true := by
  unfold okAt
  rw [List.drop_eq_nil_of_le (by omega)]
  rfl
theorem okAt_step (L : List Sp) (k : Nat) (h : k < L.length) : okAt L k = (decide (endAt L k < (gx L k).1) && decide ((gx L k).1 ≤ (gx L k).2.1) && decide ((gx L k).2.1 ≤ 32767) && okAt L (k + 1)) := by
  unfold okAt
  rw [drop_gx L k h]
  rfl
theorem okFrom_all {e : Int} {L : List Sp} (h : okFrom e L = true) (he : -1 ≤ e) : ∀ i, i < L.length → e < (gx L i).1 ∧ (gx L i).1 ≤ (gx L i).2.1 ∧ (gx L i).2.1 ≤ 32767 := by
  induction L generalizing e with
  | nil => intro i hi; simp at hi
  | cons r t ih =>
    simp only [okFrom, Bool.and_eq_true, decide_eq_true_eq] at h
    obtain ⟨⟨⟨h1, h2⟩, h3⟩, h4⟩ := h
    intro i hi
    match i with
    | 0 => exact ⟨h1, h2, h3⟩
    | i + 1 =>
      have := ih h4 (by omega) i (by simpa using hi)
      have e2 : gx (r :: t) (i + 1) = gx t i := by simp [gx]
      rw [e2]
      exact ⟨by omega, this.2⟩
theorem right_ok {L : List Sp} (h : right L = true) : L.length ≤ 1000 ∧ okFrom (-1) L = true := by
  simpa [right] using h
theorem right_all {L : List Sp} (h : right L = true) (i : Nat) (hi : i < L.length) : 0 ≤ (gx L i).1 ∧ (gx L i).1 ≤ (gx L i).2.1 ∧ (gx L i).2.1 ≤ 32767 := by
  have := okFrom_all (right_ok h).2 (by omega) i hi
  exact ⟨by omega, this.2⟩
theorem okFrom_next {e : Int} {L : List Sp} (h : okFrom e L = true) : ∀ i, i + 1 < L.length → (gx L i).2.1 < (gx L (i + 1)).1 := by
  induction L generalizing e with
  | nil => intro i hi; simp at hi
  | cons r t ih =>
    simp only [okFrom, Bool.and_eq_true, decide_eq_true_eq] at h
    obtain ⟨⟨⟨h1, h2⟩, h3⟩, h4⟩ := h
    intro i hi
    match i with
    | 0 =>
      match t, h4, hi with
      | s :: u, h4, _ =>
        simp only [okFrom, Bool.and_eq_true, decide_eq_true_eq] at h4
        exact h4.1.1.1
    | i + 1 =>
      have := ih h4 i (by simpa using hi)
      simpa [gx] using this
theorem right_next {L : List Sp} (h : right L = true) (i : Nat) (hi : i + 1 < L.length) : (gx L i).2.1 < (gx L (i + 1)).1 := okFrom_next (right_ok h).2 i hi
/-- One of the spans has the point. -/
def has (L : List Sp) (p : Int) : Bool := L.any fun r => decide (r.1 ≤ p) && decide (p ≤ r.2.1)
def hasAt (L : List Sp) (k : Nat) (p : Int) : Bool := has (L.drop k) p
theorem hasAt_zero (L : List Sp) (p : Int) : hasAt L 0 p = has L p := rfl
theorem hasAt_end (L : List Sp) (k : Nat) (p : Int) (h : ¬ k < L.length) : hasAt L k p = false := by
  unfold hasAt
  rw [List.drop_eq_nil_of_le (by omega)]
  rfl
theorem hasAt_step (L : List Sp) (k : Nat) (p : Int) (h : k < L.length) : hasAt L k p = ((decide ((gx L k).1 ≤ p) && decide (p ≤ (gx L k).2.1)) || hasAt L (k + 1) p) := by
  unfold hasAt
  rw [drop_gx L k h]
  rfl
theorem has_iff (L : List Sp) (p : Int) : has L p = true ↔ ∃ i, i < L.length ∧ (gx L i).1 ≤ p ∧ p ≤ (gx L i).2.1 := by
  unfold has
  rw [List.any_eq_true]
  constructor
  · rintro ⟨r, hr, h⟩
    obtain ⟨i, hi, rfl⟩ := List.getElem_of_mem hr
    simp only [Bool.and_eq_true, decide_eq_true_eq] at h
    exact ⟨i, hi, by simpa [gx, List.getD, hi] using h⟩
  · rintro ⟨i, hi, h⟩
    refine ⟨L[i], List.getElem_mem hi, ?_⟩
    simp only [Bool.and_eq_true, decide_eq_true_eq]
    simpa [gx, List.getD, hi] using h
/-- The edges: the first point of each span, and the first one behind it. -/
def edge (L : List Sp) (k : Nat) : Int := if k = 2 * L.length then 32769 else if k % 2 = 1 then (gx L (k / 2)).2.1 + 1 else (gx L (k / 2)).1
theorem edge_end (L : List Sp) : edge L (2 * L.length) = 32769 := by simp [edge]
theorem edge_odd (L : List Sp) (k : Nat) (_ : k < 2 * L.length) (ho : k % 2 = 1) : edge L k = (gx L (k / 2)).2.1 + 1 := by
  unfold edge; rw [if_neg (by omega), if_pos ho]
theorem edge_even (L : List Sp) (k : Nat) (h : k < 2 * L.length) (ho : ¬ k % 2 = 1) : edge L k = (gx L (k / 2)).1 := by
  unfold edge; rw [if_neg (by omega), if_neg ho]
theorem edge_bd {L : List Sp} (hr : right L = true) (k : Nat) (h : k < 2 * L.length) : 0 ≤ edge L k ∧ edge L k ≤ 32768 := by
  have := right_all hr (k / 2) (by omega)
  by_cases ho : k % 2 = 1
  · rw [edge_odd L k h ho]; omega
  · rw [edge_even L k h ho]; omega
theorem edge_mono {L : List Sp} (hr : right L = true) (k : Nat) (h : k < 2 * L.length) : edge L k ≤ edge L (k + 1) := by
  by_cases he : k + 1 = 2 * L.length
  · rw [he, edge_end]
    have := edge_bd hr k h
    omega
  · by_cases ho : k % 2 = 1
    · rw [edge_odd L k h ho, edge_even L (k + 1) (by omega) (by omega)]
      have := right_next hr (k / 2) (by omega)
      have e : (k + 1) / 2 = k / 2 + 1 := by omega
      rw [e]
      omega
    · rw [edge_even L k h ho, edge_odd L (k + 1) (by omega) (by omega)]
      have := right_all hr (k / 2) (by omega)
      have e : (k + 1) / 2 = k / 2 := by omega
      rw [e]
      omega
theorem right_mono {L : List Sp} (hr : right L = true) : ∀ (j i : Nat), i < j → j < L.length → (gx L i).2.1 < (gx L j).1 := by
  intro j
  induction j with
  | zero => intro i h; omega
  | succ j ih =>
    intro i hij hj
    have h1 := right_next hr j hj
    by_cases e : i = j
    · subst e; exact h1
    · have h2 := ih i (by omega) (by omega)
      have h3 := right_all hr j (by omega)
      omega
/-- Between two edges side by side all points are in, or none is. -/
theorem has_between {L : List Sp} (hr : right L = true) (k : Nat) (hk : k ≤ 2 * L.length) (p : Int) (h1 : k = 0 ∨ edge L (k - 1) ≤ p) (h2 : p < edge L k) : has L p = decide (k % 2 = 1) := by
  by_cases ho : k % 2 = 1
  · rw [decide_eq_true ho]
    rw [edge_odd L k (by omega) ho] at h2
    have h1' : edge L (k - 1) ≤ p := h1.resolve_left (by omega)
    rw [edge_even L (k - 1) (by omega) (by omega)] at h1'
    have e : (k - 1) / 2 = k / 2 := by omega
    rw [e] at h1'
    exact (has_iff L p).2 ⟨k / 2, by omega, h1', by omega⟩
  · rw [decide_eq_false ho]
    rw [Bool.eq_false_iff]
    intro hh
    obtain ⟨i, hi, a, b⟩ := (has_iff L p).1 hh
    by_cases hlt : i < k / 2
    · have h1' : edge L (k - 1) ≤ p := h1.resolve_left (by omega)
      rw [edge_odd L (k - 1) (by omega) (by omega)] at h1'
      by_cases e : i = (k - 1) / 2
      · rw [← e] at h1'; omega
      · have := right_mono hr ((k - 1) / 2) i (by omega) (by omega)
        have := right_all hr ((k - 1) / 2) (by omega)
        omega
    · have hke : ¬ k = 2 * L.length := by omega
      rw [edge_even L k (by omega) ho] at h2
      by_cases e : i = k / 2
      · rw [← e] at h2; omega
      · have := right_mono hr i (k / 2) (by omega) hi
        have := right_all hr (k / 2) (by omega)
        omega
/-- The spans, the last one first, are of the value 1 and the longest stretches of the points 0 .. b - 1 of which f is true. -/
def SetsR (f : Int → Bool) : List Sp → Int → Prop
  | [], b => 0 ≤ b ∧ ∀ p, 0 ≤ p → p < b → f p = false
  | (x, y, v) :: t, b => v = 1 ∧ 0 ≤ x ∧ x ≤ y ∧ y < b ∧ (∀ p, x ≤ p → p ≤ y → f p = true) ∧ (∀ p, y < p → p < b → f p = false) ∧ (0 < x → f (x - 1) = false) ∧ SetsR f t x
theorem sets_nonneg {f : Int → Bool} {l : List Sp} {b : Int} (h : SetsR f l b) : 0 ≤ b := by
  match l, h with
  | [], h => exact h.1
  | (x, y, v) :: t, h => obtain ⟨_, h1, h2, h3, _⟩ := h; omega
theorem sets_one (f : Int → Bool) : ∀ (l l' : List Sp) (b : Int), SetsR f l b → SetsR f l' b → l = l'
  | [], [], _, _, _ => rfl
  | [], (x, y, v) :: t, b, h, h' => by
    obtain ⟨_, h1, h2, h3, h4, _⟩ := h'
    have := h.2 y (by omega) h3
    rw [h4 y h2 (Int.le_refl _)] at this
    cases this
  | (x, y, v) :: t, [], b, h, h' => by
    obtain ⟨_, h1, h2, h3, h4, _⟩ := h
    have := h'.2 y (by omega) h3
    rw [h4 y h2 (Int.le_refl _)] at this
    cases this
  | (x, y, v) :: t, (x', y', v') :: t', b, h, h' => by
    obtain ⟨rfl, h1, h2, h3, h4, h5, h6, h7⟩ := h
    obtain ⟨rfl, k1, k2, k3, k4, k5, k6, k7⟩ := h'
    have hy : y = y' := by
      by_cases e : y < y'
      · have := h5 y' e k3
        rw [k4 y' k2 (Int.le_refl _)] at this
        cases this
      · by_cases e' : y' < y
        · have := k5 y e' h3
          rw [h4 y h2 (Int.le_refl _)] at this
          cases this
        · omega
    subst hy
    have hx : x = x' := by
      by_cases e : x < x'
      · have := k6 (by omega)
        rw [h4 (x' - 1) (by omega) (by omega)] at this
        cases this
      · by_cases e' : x' < x
        · have := h6 (by omega)
          rw [k4 (x - 1) (by omega) (by omega)] at this
          cases this
        · omega
    subst hx
    rw [sets_one f t t' x h7 k7]
/-- Points that are not in, behind all. -/
theorem sets_gap {f : Int → Bool} {l : List Sp} {b c : Int} (h : SetsR f l b) (hbc : b ≤ c) (hf : ∀ p, b ≤ p → p < c → f p = false) : SetsR f l c := by
  match l, h with
  | [], h =>
    refine ⟨by have := h.1; omega, fun p h0 h1 => ?_⟩
    by_cases e : p < b
    · exact h.2 p h0 e
    · exact hf p (by omega) h1
  | (x, y, v) :: t, h =>
    obtain ⟨h0, h1, h2, h3, h4, h5, h6, h7⟩ := h
    refine ⟨h0, h1, h2, by omega, h4, fun p a c' => ?_, h6, h7⟩
    by_cases e : p < b
    · exact h5 p a e
    · exact hf p (by omega) c'
/-- A stretch more, not side by side with the last span. -/
theorem sets_new {f : Int → Bool} {l : List Sp} {b c : Int} (h : SetsR f l b) (hbc : b ≤ c) (hf : ∀ p, b ≤ p → p ≤ c → f p = true) (hn : 0 < b → f (b - 1) = false) : SetsR f ((b, c, 1) :: l) (c + 1) :=
  ⟨rfl, sets_nonneg h, hbc, by omega, hf, fun p a c' => by omega, hn, h⟩
/-- The last span goes on. -/
theorem sets_on {f : Int → Bool} {t : List Sp} {x y v b c : Int} (h : SetsR f ((x, y, v) :: t) b) (hy : y + 1 = b) (hbc : b ≤ c) (hf : ∀ p, b ≤ p → p ≤ c → f p = true) : SetsR f ((x, c, v) :: t) (c + 1) := by
  obtain ⟨h0, h1, h2, h3, h4, h5, h6, h7⟩ := h
  refine ⟨h0, h1, by omega, by omega, fun p a d => ?_, fun p a d => by omega, h6, h7⟩
  by_cases e : p ≤ y
  · exact h4 p a e
  · exact hf p (by omega) d
/-- Where the last span does not end right ahead of b, the point there is not in. -/
theorem sets_before {f : Int → Bool} {l : List Sp} {b : Int} (h : SetsR f l b) (hn : ∀ r ∈ l.head?, r.2.1 + 1 ≠ b) (hb : 0 < b) : f (b - 1) = false := by
  match l, h, hn with
  | [], h, _ => exact h.2 (b - 1) (by omega) (by omega)
  | (x, y, v) :: t, h, hn =>
    obtain ⟨h0, h1, h2, h3, h4, h5, h6, h7⟩ := h
    have : y + 1 ≠ b := hn (x, y, v) (by simp)
    exact h5 (b - 1) (by omega) (by omega)
def bI (b : Bool) : Int := if b = true then 1 else 0
/-- Of stretches of 0 and 1 those of 1 are the set. -/
theorem sets_of_runs (f : Int → Bool) : ∀ (l : List Sp) (b : Int), RunsR (fun p => bI (f p)) l b → SetsR f (l.filter fun r => r.2.2 == 1) b
  | [], b, h => by
    have h' : b = 0 := h
    exact ⟨by omega, fun p a c => by omega⟩
  | (x, y, v) :: t, b, h => by
    obtain ⟨h1, h2, h3, h4, h5⟩ := h
    have ih := sets_of_runs f t x h4
    have hx0 := (runs_nonneg _ t x h4).1
    have hvy := h3 y h2 (Int.le_refl _)
    by_cases hv : v = 1
    · subst hv
      have e : ((x, y, (1 : Int)) :: t).filter (fun r => r.2.2 == 1) = (x, y, 1) :: t.filter (fun r => r.2.2 == 1) := by simp
      rw [e]
      have hf : ∀ p, x ≤ p → p ≤ y → f p = true := fun p a c => by
        have := h3 p a c
        simp only [bI] at this
        split at this
        · assumption
        · omega
      have := sets_new ih h2 hf (fun hx => by
        match t, h4, h5 with
        | [], h4, _ => have : x = 0 := h4; omega
        | (x', y', v') :: t', h4, h5 =>
          obtain ⟨k1, k2, k3, _, _⟩ := h4
          have hne : v' ≠ 1 := h5 (x', y', v') (by simp)
          have := k3 y' k2 (Int.le_refl _)
          rw [show x - 1 = y' by omega]
          simp only [bI] at this
          cases hq : f y'
          · rfl
          · rw [hq] at this; simp at this; omega)
      rwa [h1] at this
    · have e : ((x, y, v) :: t).filter (fun r => r.2.2 == 1) = t.filter (fun r => r.2.2 == 1) := by
        rw [List.filter_cons_of_neg]
        simpa using hv
      rw [e]
      refine sets_gap ih (by omega) (fun p a c => ?_)
      have := h3 p a (by omega)
      have hb := hvy
      simp only [bI] at this
      cases hq : f p
      · rfl
      · rw [hq] at this; simp at this; omega
end Go.Proofs.YtamigjljgepfiaaGreatDoor
/- Rows of spans: a copy of one, and what is read of one. -/
namespace Go.Proofs.YtamigjljgepfiaaGreatDoor
open Go.RowKit
/-- The cells of spans. -/
def cells (L : List Sp) : List Value := L.flatMap fun r => [.int .i64 r.1, .int .i64 r.2.1, .int .i64 r.2.2]
theorem cells_cons (a : Sp) (t : List Sp) : cells (a :: t) = [.int .i64 a.1, .int .i64 a.2.1, .int .i64 a.2.2] ++ cells t := rfl
theorem cells_len (L : List Sp) : (cells L).length = L.length * 3 := by
  induction L with
  | nil => rfl
  | cons a t ih => rw [cells_cons, List.length_append, ih, List.length_cons]; simp; omega
theorem cells_snoc (L : List Sp) (r : Sp) : cells (L ++ [r]) = cells L ++ [.int .i64 r.1, .int .i64 r.2.1, .int .i64 r.2.2] := by
  unfold cells; rw [List.flatMap_append, List.flatMap_singleton]
theorem cells_append (L M : List Sp) : cells (L ++ M) = cells L ++ cells M := by unfold cells; rw [List.flatMap_append]
theorem cells_at (L : List Sp) (i j : Nat) (hi : i < L.length) (hj : j < 3) : (cells L)[i * 3 + j]? = [Value.int .i64 (gx L i).1, .int .i64 (gx L i).2.1, .int .i64 (gx L i).2.2][j]? := by
  induction L generalizing i with
  | nil => simp at hi
  | cons a t ih =>
    rw [cells_cons]
    match i with
    | 0 =>
      rw [List.getElem?_append_left (by simp; omega)]
      simp [gx]
    | i + 1 =>
      rw [List.getElem?_append_right (by simp; omega)]
      have e : (i + 1) * 3 + j - [Value.int .i64 a.1, .int .i64 a.2.1, .int .i64 a.2.2].length = i * 3 + j := by simp; omega
      rw [e, ih i (by simpa using hi)]
      simp [gx]
theorem wrap_in (x : Int) (h0 : -9223372036854775808 ≤ x) (h1 : x ≤ 9223372036854775807) : IntKind.i64.wrap x = x := by
  simp [IntKind.wrap, IntKind.signed, IntKind.bits]; omega
theorem cell_alloc {w : World} {a : Addr} {v : Value} (h : w.cell? a = some v) (o : Obj) : (w.alloc o).cell? a = some v := (World.cell?_of_block (Below.heap_alloc w o a.block (block_lt_of_cell h))).trans h
/-- A slice value that holds just the spans L. -/
def SpsAt (w : World) (v : Value) (L : List Sp) : Prop :=
  ∃ a cap, v = .slice a L.length cap ∧ (L = [] ∨ ∃ b off, a = some ⟨b, off, none⟩ ∧ b < w.heap.size ∧ ∀ i, i < L.length → w.cell? ⟨b, off + i * 3, none⟩ = some (.int .i64 (gx L i).1) ∧ w.cell? ⟨b, off + i * 3 + 1, none⟩ = some (.int .i64 (gx L i).2.1) ∧ w.cell? ⟨b, off + i * 3 + 2, none⟩ = some (.int .i64 (gx L i).2.2))
theorem SpsAt.below {w w' : World} {v : Value} {L : List Sp} (h : SpsAt w v L) (hb : Below w.heap.size w w') : SpsAt w' v L := by
  obtain ⟨a, cap, rfl, h⟩ := h
  refine ⟨a, cap, rfl, ?_⟩
  rcases h with h | ⟨b, off, rfl, hbs, hc⟩
  · exact .inl h
  · exact .inr ⟨b, off, rfl, Nat.lt_of_lt_of_le hbs hb.size, fun i hi => ⟨(hb.cell (p := ⟨b, off + i * 3, none⟩) hbs).trans (hc i hi).1, (hb.cell (p := ⟨b, off + i * 3 + 1, none⟩) hbs).trans (hc i hi).2.1, (hb.cell (p := ⟨b, off + i * 3 + 2, none⟩) hbs).trans (hc i hi).2.2⟩⟩
/-- The first k spans of L, and zeros behind them. -/
def fillS (L : List Sp) (k : Nat) : List Sp := L.take k ++ List.replicate (L.length - k) (0, 0, 0)
theorem fillS_zero (L : List Sp) : fillS L 0 = List.replicate L.length (0, 0, 0) := by simp [fillS]
theorem fillS_all (L : List Sp) : fillS L L.length = L := by simp [fillS]
theorem fillS_len (L : List Sp) (k : Nat) (h : k ≤ L.length) : (fillS L k).length = L.length := by simp [fillS]; omega
theorem rep_cells (n : Nat) : cells (List.replicate n (0, 0, 0)) = (madeCells #[Value.int .i64 0, .int .i64 0, .int .i64 0] (n * 3)).toList := by
  apply List.ext_getElem?
  intro i
  unfold madeCells
  rw [Array.toList_map, List.getElem?_map, Array.toList_range]
  by_cases h : i < n * 3
  · rw [List.getElem?_range h, show i = i / 3 * 3 + i % 3 by omega, cells_at _ _ _ (by simp; omega) (by omega)]
    have e : gx (List.replicate n ((0, 0, 0) : Sp)) (i / 3) = (0, 0, 0) := by
      rw [gx, List.getD_eq_getElem?_getD, List.getElem?_replicate, if_pos (by omega)]; rfl
    rw [e]
    have hm : i % 3 = 0 ∨ i % 3 = 1 ∨ i % 3 = 2 := by omega
    rcases hm with hm | hm | hm <;> simp [hm, Nat.add_mod]
  · rw [List.getElem?_eq_none (by rw [cells_len]; simp; omega), List.getElem?_eq_none (by simp; omega)]
    rfl
theorem cells_set3 (A C : List Sp) (r s : Sp) : (((cells (A ++ r :: C)).set (A.length * 3) (.int .i64 s.1)).set (A.length * 3 + 1) (.int .i64 s.2.1)).set (A.length * 3 + 2) (.int .i64 s.2.2) = cells (A ++ s :: C) := by
  rw [cells_append, cells_append, cells_cons, cells_cons]
  have hl := cells_len A
  rw [List.set_append_right _ _ (by omega), List.set_append_right _ _ (by omega), List.set_append_right _ _ (by omega)]
  congr 1
  rw [hl, Nat.sub_self, show A.length * 3 + 1 - A.length * 3 = 1 by omega, show A.length * 3 + 2 - A.length * 3 = 2 by omega]
  rfl
theorem fillS_set (L : List Sp) (k : Nat) (h : k < L.length) : (((cells (fillS L k)).set (k * 3) (.int .i64 (gx L k).1)).set (k * 3 + 1) (.int .i64 (gx L k).2.1)).set (k * 3 + 2) (.int .i64 (gx L k).2.2) = cells (fillS L (k + 1)) := by
  have hk : (L.take k).length = k := by simp; omega
  have e1 : L.length - k = (L.length - (k + 1)) + 1 := by omega
  have := cells_set3 (L.take k) (List.replicate (L.length - (k + 1)) (0, 0, 0)) (0, 0, 0) (gx L k)
  rw [hk] at this
  unfold fillS
  rw [e1, List.replicate_succ, this, List.take_succ_eq_append_getElem h, List.append_assoc]
  have e2 : gx L k = L[k] := by simp [gx, List.getD, h]
  rw [e2]
  rfl
theorem made_below {w w1 : World} (h : w.grownBy w1 none) : Below w.heap.size w w1 := (Below.refl _ _).grown h (Nat.le_refl _) (fun k hk => by cases hk)
end Go.Proofs.YtamigjljgepfiaaGreatDoor
/- Slices of int64 beside rows of spans: a copy of one, and two that are alike. -/
namespace Go.Proofs.YtamigjljgepfiaaGreatDoor
open Go.RowKit
def nth (l : List Int) (i : Nat) : Int := l.getD i 0
/-- A slice value that holds just the numbers l. -/
def IntsAt (w : World) (v : Value) (l : List Int) : Prop :=
  ∃ a cap, v = .slice a l.length cap ∧ (l = [] ∨ ∃ b off, a = some ⟨b, off, none⟩ ∧ b < w.heap.size ∧ ∀ i, i < l.length → w.cell? ⟨b, off + i, none⟩ = some (.int .i64 (nth l i)))
theorem IntsAt.below {w w' : World} {v : Value} {l : List Int} (h : IntsAt w v l) (hb : Below w.heap.size w w') : IntsAt w' v l := by
  obtain ⟨a, cap, rfl, h⟩ := h
  refine ⟨a, cap, rfl, ?_⟩
  rcases h with h | ⟨b, off, rfl, hbs, hc⟩
  · exact .inl h
  · exact .inr ⟨b, off, rfl, Nat.lt_of_lt_of_le hbs hb.size, fun i hi => (hb.cell (p := ⟨b, off + i, none⟩) hbs).trans (hc i hi)⟩
theorem IntsAt.owned {w : World} {base : Nat} {v : Value} {l : List Int} {n : Nat} (h : w.ownsRow base 2 1 v n (l.map (Value.int .i64))) : IntsAt w v l := by
  have hl : l.length = n := by simpa using h.1
  rcases h.2 with ⟨hv, hn⟩ | ⟨g, cap, cur, hv, hg, hh, hn, hm, hs, ht⟩
  · exact ⟨none, 0, by rw [hv, hl, hn], .inl (List.length_eq_zero_iff.1 (by omega))⟩
  · subst hv
    refine ⟨some ⟨g, 0, none⟩, cap, by rw [hl], .inr ⟨g, 0, rfl, (Array.getElem?_eq_some_iff.1 hh).1, fun i hi => ?_⟩⟩
    have hc := h.cellAt i (by omega)
    rw [Nat.zero_add, hc, List.getElem?_map]
    simp [nth, List.getD, hi]
theorem info2 : (Tryz.prog.info? 2).map (fun i => (i.zero, i.size, i.bytes)) = some (some (.int .i64 0), 1, 8) := by kernel_rfl
/-- The first k numbers of l, and zeros behind them. -/
def fill (l : List Int) (k : Nat) : List Int := l.take k ++ List.replicate (l.length - k) 0
theorem fill_zero (l : List Int) : fill l 0 = List.replicate l.length 0 := by simp [fill]
theorem fill_all (l : List Int) : fill l l.length = l := by simp [fill]
theorem fill_set (l : List Int) (k : Nat) (h : k < l.length) (f : Int → Value) : ((fill l k).map f).set k (f (nth l k)) = (fill l (k + 1)).map f := by
  rw [← List.map_set]
  congr 1
  unfold fill
  have hk : (l.take k).length = k := by simp; omega
  have e1 : l.length - k = (l.length - (k + 1)) + 1 := by omega
  rw [e1, List.replicate_succ, List.set_append_right _ _ (by omega), hk, Nat.sub_self, List.set_cons_zero, List.take_succ_eq_append_getElem h]
  have e2 : nth l k = l[k] := by simp [nth, List.getD, h]
  rw [e2, List.append_assoc]
  rfl
theorem fill_length (l : List Int) (k : Nat) (h : k ≤ l.length) : (fill l k).length = l.length := by simp [fill]; omega
theorem made_owned {w1 : World} {B : Nat} {v : Value} {l : List Int} (h : w1.ownsRow B 2 1 v l.length (madeCells #[Value.int .i64 0] l.length).toList) : w1.ownsRow B 2 1 v l.length ((fill l 0).map (Value.int .i64)) := by
  have e : (madeCells #[Value.int .i64 0] l.length).toList = (fill l 0).map (Value.int .i64) := by
    rw [fill_zero, List.map_replicate]
    exact toList_madeCells_one _ _
  rw [← e]; exact h
theorem owned_lt {w : World} {base g : Nat} {e : TypeId} {n cap m : Nat} {xs : List Value} (h : w.ownsRow base e 1 (.slice (some ⟨g, 0, none⟩) n cap) m xs) : g < w.heap.size := (h.lt g rfl).2
end Go.Proofs.YtamigjljgepfiaaGreatDoor
/- A call as one step of a region that draws. -/
namespace Go.Proofs.YtamigjljgepfiaaGreatDoor
/-- A call of a Go function as one step of a region that draws. -/
theorem step_call {P : Program} {ops : Array Oper} {o : Oper} {a : Act} {w : World} {K : Act → World → Prop} {Q : Exit → Act → World → Prop} {E : Prop} (hg : o.guard = none) (f : FuncId) (xs : Array Operand) (ts : Array TypeId)
    (hop : o.op = Op.call { callee := .value (.func f), args := xs, argTypes := ts }) (vs : Array Value) (hv : xs.map a.eval = vs) (hc : (callFunc f vs).run P w = .ok (.enter f vs) w) (h : Calls P f vs w fun e w' => ∃ v, e = .returned v ∧ K (a.put o.dst v) w') : if Region.wanted o (yielded ops a.tmps) = true then Oper.wp P o a w K Q else E := by
  have hw : Region.wanted o (yielded ops a.tmps) = true := by simp [Region.wanted, hg]
  rw [if_pos hw]
  unfold Oper.wp execOp
  simp only [hop, resolve, invoke, Sem.run_bind, hv]
  simp only [Act.eval, Deferred.ofValue, Sem.run_pure, Result.andThen_ok, Array.append_empty, Array.empty_append, hc, Oper.upon]
  exact h.mono (by rintro e w' ⟨v, rfl, hk⟩; exact hk)
end Go.Proofs.YtamigjljgepfiaaGreatDoor
/- The parts of a point. -/
namespace Go.Proofs.YtamigjljgepfiaaGreatDoor
def letterZ (i : Int) : Int := if i < 26 then 65 + i else 97 + i - 26
def wideZ (p : Int) : List Int :=
  if 9984 ≤ p ∧ p ≤ 10009 then [p - 9984 + 65]
  else if 10016 ≤ p ∧ p ≤ 10025 then [p - 10016 + 48]
  else if p = 8064 ∨ p = 160 then [32]
  else if p = 10032 then [102, 102]
  else if p = 10033 then [102, 105]
  else if p = 10034 then [102, 108]
  else if p = 10035 then [115, 116]
  else []
/-- The parts of a point; none: it has none. -/
def partsZ (k : Bool) (p : Int) : List Int :=
  if 8192 ≤ p ∧ p ≤ 8607 then [letterZ ((p - 8192) / 8), 4096 + (p - 8192) % 8]
  else if 8704 ≤ p ∧ p ≤ 9119 then [letterZ ((p - 8704) / 8), 4112 + (p - 8704) % 8]
  else if 9216 ≤ p ∧ p ≤ 9631 then [p - 512, 4096]
  else if 9728 ≤ p ∧ p ≤ 9753 then [p - 9728 + 65]
  else if 12288 ≤ p ∧ p ≤ 23459 then (if 0 < (p - 12288) % 28 then [p - (p - 12288) % 28, 1856 + (p - 12288) % 28] else [1792 + (p - 12288) / 588, 1824 + (p - 12288) / 28 % 21])
  else if k = true then wideZ p else []
/-- As the program tells them. -/
def pairZ (k : Bool) (p : Int) : Int × Int :=
  match partsZ k p with
  | [] => (p, -1)
  | [a] => (a, -1)
  | a :: b :: _ => (a, b)
theorem letterZ_bd (i : Int) (h : 0 ≤ i ∧ i ≤ 51) : 65 ≤ letterZ i ∧ letterZ i ≤ 122 := by
  unfold letterZ
  split <;> omega
theorem wide_cases (p : Int) : wideZ p = [] ∨ (∃ a, wideZ p = [a] ∧ a ≠ p ∧ 32 ≤ a ∧ a ≤ 122) ∨ (∃ a b, wideZ p = [a, b] ∧ a ≠ p ∧ 32 ≤ a ∧ a ≤ 122 ∧ 32 ≤ b ∧ b ≤ 122) := by
  unfold wideZ
  split
  · exact .inr (.inl ⟨_, rfl, by omega, by omega, by omega⟩)
  split
  · exact .inr (.inl ⟨_, rfl, by omega, by omega, by omega⟩)
  split
  · exact .inr (.inl ⟨_, rfl, by omega, by omega, by omega⟩)
  split
  · exact .inr (.inr ⟨_, _, rfl, by omega, by omega, by omega, by omega, by omega⟩)
  split
  · exact .inr (.inr ⟨_, _, rfl, by omega, by omega, by omega, by omega, by omega⟩)
  split
  · exact .inr (.inr ⟨_, _, rfl, by omega, by omega, by omega, by omega, by omega⟩)
  split
  · exact .inr (.inr ⟨_, _, rfl, by omega, by omega, by omega, by omega, by omega⟩)
  exact .inl rfl
/-- Points without parts: letters, marks, pieces of syllables. -/
def Bare (x : Int) : Prop := (32 ≤ x ∧ x ≤ 122) ∨ (1792 ≤ x ∧ x ≤ 1883) ∨ (4096 ≤ x ∧ x ≤ 4119)
theorem bare_none {k : Bool} {x : Int} (h : Bare x) : partsZ k x = [] := by
  unfold Bare at h
  unfold partsZ
  rw [if_neg (by omega), if_neg (by omega), if_neg (by omega), if_neg (by omega), if_neg (by omega)]
  split
  · unfold wideZ
    rw [if_neg (by omega), if_neg (by omega), if_neg (by omega), if_neg (by omega), if_neg (by omega), if_neg (by omega), if_neg (by omega)]
  · rfl
/-- One step from the last: letters with one mark, syllables of two. -/
def Near (x : Int) : Prop := Bare x ∨ (8704 ≤ x ∧ x ≤ 9119) ∨ (12288 ≤ x ∧ x ≤ 23459 ∧ (x - 12288) % 28 = 0)
theorem parts_cases (k : Bool) (p : Int) : partsZ k p = [] ∨ (∃ a, partsZ k p = [a] ∧ a ≠ p ∧ Bare a) ∨ (∃ a b, partsZ k p = [a, b] ∧ a ≠ p ∧ Near a ∧ Bare b) := by
  unfold partsZ
  split
  · have := letterZ_bd ((p - 8192) / 8) (by omega)
    exact .inr (.inr ⟨_, _, rfl, by omega, .inl (by unfold Bare; omega), by unfold Bare; omega⟩)
  split
  · have := letterZ_bd ((p - 8704) / 8) (by omega)
    exact .inr (.inr ⟨_, _, rfl, by omega, .inl (by unfold Bare; omega), by unfold Bare; omega⟩)
  split
  · exact .inr (.inr ⟨_, _, rfl, by omega, .inr (.inl (by omega)), by unfold Bare; omega⟩)
  split
  · exact .inr (.inl ⟨_, rfl, by omega, by unfold Bare; omega⟩)
  split
  · split
    · exact .inr (.inr ⟨_, _, rfl, by omega, .inr (.inr (by omega)), by unfold Bare; omega⟩)
    · exact .inr (.inr ⟨_, _, rfl, by omega, .inl (by unfold Bare; omega), by unfold Bare; omega⟩)
  split
  · rcases wide_cases p with h | ⟨a, h, h1, h2, h3⟩ | ⟨a, b, h, h1, h2, h3, h4, h5⟩
    · exact .inl h
    · exact .inr (.inl ⟨a, h, h1, .inl ⟨h2, h3⟩⟩)
    · exact .inr (.inr ⟨a, b, h, h1, .inl (.inl ⟨h2, h3⟩), .inl ⟨h4, h5⟩⟩)
  · exact .inl rfl
theorem near_parts {k : Bool} {x : Int} (h : Near x) : partsZ k x = [] ∨ ∃ a b, partsZ k x = [a, b] ∧ Bare a ∧ Bare b := by
  rcases h with h | h | h
  · exact .inl (bare_none h)
  · unfold partsZ
    rw [if_neg (by omega), if_pos (by omega)]
    have := letterZ_bd ((x - 8704) / 8) (by omega)
    exact .inr ⟨_, _, rfl, by unfold Bare; omega, by unfold Bare; omega⟩
  · unfold partsZ
    rw [if_neg (by omega), if_neg (by omega), if_neg (by omega), if_neg (by omega), if_pos (by omega), if_neg (by omega)]
    exact .inr ⟨_, _, rfl, by unfold Bare; omega, by unfold Bare; omega⟩
/-- All parts to the last, at most n steps deep. -/
def allF (k : Bool) : Nat → Int → List Int
  | 0, p => [p]
  | n + 1, p => if partsZ k p = [] then [p] else (partsZ k p).flatMap (allF k n)
def deep (k : Bool) : Nat → Int → Prop
  | 0, p => partsZ k p = []
  | n + 1, p => ∀ x ∈ partsZ k p, deep k n x
theorem bare_deep {k : Bool} {x : Int} (h : Bare x) : ∀ n, deep k n x
  | 0 => bare_none h
  | n + 1 => fun y hy => by rw [bare_none h] at hy; simp at hy
theorem near_deep {k : Bool} {x : Int} (h : Near x) : deep k 1 x := fun y hy => by
  rcases near_parts (k := k) h with e | ⟨a, b, e, ha, hb⟩
  · rw [e] at hy; simp at hy
  · rw [e] at hy
    simp at hy
    rcases hy with rfl | rfl
    · exact bare_deep ha 0
    · exact bare_deep hb 0
theorem all_deep (k : Bool) (p : Int) : deep k 2 p := fun y hy => by
  rcases parts_cases k p with e | ⟨a, e, _, ha⟩ | ⟨a, b, e, _, ha, hb⟩
  · rw [e] at hy; simp at hy
  · rw [e] at hy
    simp at hy
    subst hy
    exact bare_deep ha 1
  · rw [e] at hy
    simp at hy
    rcases hy with rfl | rfl
    · exact near_deep ha
    · exact bare_deep hb 1
theorem bare_bd {x : Int} (h : Bare x) : 0 ≤ x ∧ x ≤ 1114111 := by unfold Bare at h; omega
theorem near_bd {x : Int} (h : Near x) : 0 ≤ x ∧ x ≤ 1114111 := by
  rcases h with h | h | h
  · exact bare_bd h
  · omega
  · omega
theorem parts_bd {k : Bool} {p x : Int} (h : x ∈ partsZ k p) : 0 ≤ x ∧ x ≤ 1114111 := by
  rcases parts_cases k p with e | ⟨a, e, _, ha⟩ | ⟨a, b, e, _, ha, hb⟩
  · rw [e] at h; simp at h
  · rw [e] at h
    simp at h
    subst h
    exact bare_bd ha
  · rw [e] at h
    simp at h
    rcases h with rfl | rfl
    · exact near_bd ha
    · exact bare_bd hb
theorem allF_none {k : Bool} {p : Int} (h : partsZ k p = []) : ∀ n, allF k n p = [p]
  | 0 => rfl
  | n + 1 => by unfold allF; rw [if_pos h]
theorem allF_one {k : Bool} {p a : Int} (h : partsZ k p = [a]) (n : Nat) : allF k (n + 1) p = allF k n a := by
  rw [allF, if_neg (by rw [h]; simp), h]
  simp
theorem allF_two {k : Bool} {p a b : Int} (h : partsZ k p = [a, b]) (n : Nat) : allF k (n + 1) p = allF k n a ++ allF k n b := by
  rw [allF, if_neg (by rw [h]; simp), h]
  simp
theorem allF_len (k : Bool) : ∀ n p, 1 ≤ (allF k n p).length ∧ (allF k n p).length ≤ 2 ^ n
  | 0, p => by simp [allF]
  | n + 1, p => by
    rcases parts_cases k p with e | ⟨a, e, _, _⟩ | ⟨a, b, e, _, _, _⟩
    · rw [allF_none e]
      have := Nat.one_le_two_pow (n := n + 1)
      simp
      omega
    · rw [allF_one e]
      have h1 := allF_len k n a
      rw [Nat.pow_succ]
      omega
    · rw [allF_two e, List.length_append]
      have h1 := allF_len k n a
      have h2 := allF_len k n b
      rw [Nat.pow_succ]
      omega
end Go.Proofs.YtamigjljgepfiaaGreatDoor
/- Blocks of 64 and their places: no Go in sight. -/
namespace Go.Proofs.YtamigjljgepfiaaGreatDoor
/-- An index in which each place comes first behind all ahead of it; so many come. -/
def turns : Int → List Int → Option Int
  | n, [] => some n
  | n, p :: t => if p < 0 ∨ n < p then none else turns (if p = n then n + 1 else n) t
/-- The i-th block. -/
def blk (l : List Int) (i : Nat) : List Int := (l.drop (i * 64)).take 64
theorem blk_len (l : List Int) (i c : Nat) (h : l.length = c * 64) (hi : i < c) : (blk l i).length = 64 := by
  unfold blk
  rw [List.length_take, List.length_drop, h]
  omega
theorem blk_at (l : List Int) (i j : Nat) (hj : j < 64) : (blk l i)[j]? = l[i * 64 + j]? := by
  unfold blk
  rw [List.getElem?_take_of_lt hj, List.getElem?_drop]
theorem blk_nth (l : List Int) (i j : Nat) (hj : j < 64) : (blk l i).getD j 0 = l.getD (i * 64 + j) 0 := by
  unfold List.getD
  rw [blk_at l i j hj]
/-- No two of the first c blocks are alike. -/
def Unlike (l : List Int) (c : Nat) : Prop := ∀ i j, i < j → j < c → blk l i ≠ blk l j
def TrieOk (ix dt : List Int) : Prop := ix.length = 512 ∧ dt.length % 64 = 0 ∧ dt.length / 64 ≤ 512 ∧ Unlike dt (dt.length / 64) ∧ turns 0 ix = some ((dt.length / 64 : Nat) : Int)
/-- The same, reckoned. -/
def unlikeB (l : List Int) (c : Nat) : Bool := (List.range c).all fun j => (List.range j).all fun i => decide (blk l i ≠ blk l j)
theorem unlikeB_yes {l : List Int} {c : Nat} (h : Unlike l c) : unlikeB l c = true := by
  unfold unlikeB
  rw [List.all_eq_true]
  intro j hj
  rw [List.all_eq_true]
  intro i hi
  exact decide_eq_true (h i j (List.mem_range.1 hi) (List.mem_range.1 hj))
theorem unlike_of {l : List Int} {c : Nat} (h : unlikeB l c = true) : Unlike l c := fun i j hi hj => by
  unfold unlikeB at h
  rw [List.all_eq_true] at h
  have h1 := h j (List.mem_range.2 hj)
  rw [List.all_eq_true] at h1
  exact of_decide_eq_true (h1 i (List.mem_range.2 hi))
theorem unlikeB_no {l : List Int} {c : Nat} (h : ¬ Unlike l c) : unlikeB l c = false := by
  cases e : unlikeB l c with
  | false => rfl
  | true => exact (h (unlike_of e)).elim
def trieFault (ix dt : List Int) : Int := if ix.length = 512 ∧ dt.length % 64 = 0 ∧ dt.length / 64 ≤ 512 ∧ unlikeB dt (dt.length / 64) = true ∧ turns 0 ix = some ((dt.length / 64 : Nat) : Int) then 0 else 1
theorem trieFault_ok {ix dt : List Int} (h : TrieOk ix dt) : trieFault ix dt = 0 := if_pos ⟨h.1, h.2.1, h.2.2.1, unlikeB_yes h.2.2.2.1, h.2.2.2.2⟩
theorem trieFault_no {ix dt : List Int} (h : ¬ TrieOk ix dt) : trieFault ix dt = 1 := if_neg fun g => h ⟨g.1, g.2.1, g.2.2.1, unlike_of g.2.2.2.1, g.2.2.2.2⟩
/-- The place of a block in a row of blocks, or how many there are. -/
def idxF (b : List Int) : List (List Int) → Nat
  | [] => 0
  | c :: t => if c = b then 0 else idxF b t + 1
def tb (T : List (List Int)) (i : Nat) : List Int := T.getD i []
theorem tb_cons (c : List Int) (t : List (List Int)) (i : Nat) : tb (c :: t) (i + 1) = tb t i := by simp [tb]
theorem tb_mem {T : List (List Int)} {i : Nat} (h : i < T.length) : tb T i ∈ T := by
  unfold tb
  rw [List.getD_eq_getElem?_getD, List.getElem?_eq_getElem h]
  exact List.getElem_mem h
theorem tb_of_mem {T : List (List Int)} {b : List Int} (h : b ∈ T) : ∃ i, i < T.length ∧ tb T i = b := by
  obtain ⟨i, hi, rfl⟩ := List.getElem_of_mem h
  exact ⟨i, hi, by simp [tb, List.getD, hi]⟩
theorem idxF_le (b : List Int) : ∀ T, idxF b T ≤ T.length
  | [] => Nat.le_refl _
  | c :: t => by
    have := idxF_le b t
    simp only [idxF, List.length_cons]
    split <;> omega
theorem idxF_first (b : List Int) : ∀ (T : List (List Int)) (i : Nat), i < T.length → tb T i = b → (∀ j, j < i → tb T j ≠ b) → idxF b T = i
  | [], i, h, _, _ => by simp at h
  | c :: t, 0, _, h, _ => by
    have : c = b := by simpa [tb] using h
    simp [idxF, this]
  | c :: t, i + 1, hi, h, hn => by
    have h0 : c ≠ b := by simpa [tb] using hn 0 (by omega)
    have := idxF_first b t i (by simpa using hi) (by rw [← tb_cons c]; exact h) (fun j hj => by rw [← tb_cons c]; exact hn (j + 1) (by omega))
    simp [idxF, h0, this]
theorem idxF_none (b : List Int) : ∀ (T : List (List Int)), (∀ i, i < T.length → tb T i ≠ b) → idxF b T = T.length
  | [], _ => rfl
  | c :: t, hn => by
    have h0 : c ≠ b := by simpa [tb] using hn 0 (by simp)
    have := idxF_none b t (fun j hj => by rw [← tb_cons c]; exact hn (j + 1) (by simpa using hj))
    simp [idxF, h0, this]
theorem idxF_mem {b : List Int} : ∀ {T : List (List Int)}, b ∈ T → idxF b T < T.length ∧ tb T (idxF b T) = b
  | [], h => by simp at h
  | c :: t, h => by
    by_cases e : c = b
    · subst e
      simp [idxF, tb]
    · have := idxF_mem (T := t) (by simpa [Ne.symm e] using h)
      simp only [idxF, if_neg e, List.length_cons, tb_cons]
      exact ⟨by omega, this.2⟩
theorem idxF_not {b : List Int} {T : List (List Int)} (h : b ∉ T) : idxF b T = T.length :=
  idxF_none b T (fun _ hi e => h (e ▸ tb_mem hi))
theorem not_mem_tb {b : List Int} {T : List (List Int)} (h : ∀ i, i < T.length → tb T i ≠ b) : b ∉ T := by
  intro hm
  obtain ⟨i, hi, e⟩ := tb_of_mem hm
  exact h i hi e
theorem tb_inj {T : List (List Int)} (hn : T.Nodup) {i j : Nat} (hi : i < T.length) (hj : j < T.length) (h : tb T i = tb T j) : i = j := by
  have e1 : tb T i = T[i] := by simp [tb, List.getD, hi]
  have e2 : tb T j = T[j] := by simp [tb, List.getD, hj]
  rw [e1, e2] at h
  have hp := List.pairwise_iff_getElem.1 hn
  by_cases a : i < j
  · exact absurd h (hp i j hi hj a)
  · by_cases b : j < i
    · exact absurd h.symm (hp j i hj hi b)
    · omega
def addB (T : List (List Int)) (b : List Int) : List (List Int) := if b ∈ T then T else T ++ [b]
theorem addB_mem {T : List (List Int)} {b : List Int} (h : b ∈ T) : addB T b = T := if_pos h
theorem addB_not {T : List (List Int)} {b : List Int} (h : b ∉ T) : addB T b = T ++ [b] := if_neg h
theorem addB_nodup {T : List (List Int)} {b : List Int} (h : T.Nodup) : (addB T b).Nodup := by
  by_cases hm : b ∈ T
  · rw [addB_mem hm]; exact h
  · rw [addB_not hm, List.nodup_append]
    exact ⟨h, by simp, fun a ha c hc e => hm (by simp at hc; rw [← hc, ← e]; exact ha)⟩
theorem tb_app_left {T : List (List Int)} {b : List Int} {i : Nat} (h : i < T.length) : tb (T ++ [b]) i = tb T i := by
  unfold tb
  rw [List.getD_eq_getElem?_getD, List.getD_eq_getElem?_getD, List.getElem?_append_left h]
theorem tb_app_last (T : List (List Int)) (b : List Int) : tb (T ++ [b]) T.length = b := by simp [tb]
/-- The blocks of l, and their places, up to the k-th one. -/
def bld (l : List Int) : Nat → List (List Int) × List Int
  | 0 => ([], [])
  | k + 1 => (addB (bld l k).1 (blk l k), (bld l k).2 ++ [((idxF (blk l k) (bld l k).1 : Nat) : Int)])
theorem bld_succ (l : List Int) (k : Nat) : bld l (k + 1) = (addB (bld l k).1 (blk l k), (bld l k).2 ++ [((idxF (blk l k) (bld l k).1 : Nat) : Int)]) := rfl
theorem bld_ix_len (l : List Int) : ∀ k, (bld l k).2.length = k
  | 0 => rfl
  | k + 1 => by rw [bld_succ]; simp [bld_ix_len l k]
theorem bld_nodup (l : List Int) : ∀ k, (bld l k).1.Nodup
  | 0 => List.nodup_nil
  | k + 1 => by rw [bld_succ]; exact addB_nodup (bld_nodup l k)
theorem bld_len (l : List Int) : ∀ k, (bld l k).1.length ≤ k
  | 0 => Nat.le_refl _
  | k + 1 => by
    have := bld_len l k
    rw [bld_succ]
    by_cases h : blk l k ∈ (bld l k).1
    · simp only [addB_mem h]; omega
    · simp only [addB_not h, List.length_append, List.length_singleton]; omega
theorem bld_all (l : List Int) (c : Nat) (hl : l.length = c * 64) : ∀ k, k ≤ c → ∀ b ∈ (bld l k).1, b.length = 64
  | 0, _, b, h => by simp [bld] at h
  | k + 1, hk, b, h => by
    rw [bld_succ] at h
    by_cases hm : blk l k ∈ (bld l k).1
    · simp only [addB_mem hm] at h
      exact bld_all l c hl k (by omega) b h
    · simp only [addB_not hm, List.mem_append, List.mem_singleton] at h
      rcases h with h | rfl
      · exact bld_all l c hl k (by omega) b h
      · exact blk_len l k c hl (by omega)
/-- All unlike: each block is at its own place. -/
theorem bld_unlike {l : List Int} : ∀ k, Unlike l k → (bld l k).1 = (List.range k).map (blk l)
  | 0, _ => rfl
  | k + 1, h => by
    have ih := bld_unlike k (fun i j a b => h i j a (by omega))
    rw [bld_succ]
    have hm : blk l k ∉ (bld l k).1 := by
      rw [ih]
      intro hm
      obtain ⟨i, hi, e⟩ := List.mem_map.1 hm
      rw [List.mem_range] at hi
      exact h i k hi (by omega) e
    show addB (bld l k).1 (blk l k) = _
    rw [addB_not hm, ih, List.range_succ, List.map_append]
    rfl
theorem bld_new {l : List Int} {k : Nat} (h : Unlike l k) (hm : blk l k ∉ (bld l k).1) : Unlike l (k + 1) := by
  intro i j a b
  by_cases e : j = k
  · subst e
    intro e
    apply hm
    rw [bld_unlike _ h]
    exact List.mem_map.2 ⟨i, List.mem_range.2 a, e⟩
  · exact h i j a (by omega)
theorem bld_old {l : List Int} {k : Nat} (h : Unlike l k) (hm : blk l k ∈ (bld l k).1) : ¬ Unlike l (k + 1) := by
  intro h2
  rw [bld_unlike _ h] at hm
  obtain ⟨i, hi, e⟩ := List.mem_map.1 hm
  rw [List.mem_range] at hi
  exact h2 i k hi (by omega) e
theorem unlike_mono {l : List Int} {k c : Nat} (h : Unlike l c) (hk : k ≤ c) : Unlike l k := fun i j a b => h i j a (by omega)
theorem bld_idx {l : List Int} {k : Nat} (h : Unlike l k) : (idxF (blk l k) (bld l k).1 = k ↔ blk l k ∉ (bld l k).1) := by
  have hl : (bld l k).1.length = k := by rw [bld_unlike _ h]; simp
  constructor
  · intro e hm
    have := (idxF_mem hm).1
    omega
  · intro hm
    rw [idxF_not hm, hl]
theorem turns_snoc : ∀ (l : List Int) (n p : Int), turns n (l ++ [p]) = (turns n l).bind fun m => if p < 0 ∨ m < p then none else some (if p = m then m + 1 else m)
  | [], n, p => by simp [turns]
  | q :: t, n, p => by
    simp only [List.cons_append, turns]
    split
    · rfl
    · exact turns_snoc t _ p
theorem bld_turns (l : List Int) : ∀ k, turns 0 (bld l k).2 = some (((bld l k).1.length : Nat) : Int)
  | 0 => rfl
  | k + 1 => by
    rw [bld_succ]
    simp only [turns_snoc, bld_turns l k, Option.bind_some]
    have hle := idxF_le (blk l k) (bld l k).1
    rw [if_neg (by omega)]
    by_cases hm : blk l k ∈ (bld l k).1
    · have := (idxF_mem hm).1
      rw [if_neg (by omega), addB_mem hm]
    · rw [idxF_not hm, if_pos rfl, addB_not hm]
      simp
/-- Where a place is told it stays. -/
theorem bld_stay (l : List Int) (c : Nat) : ∀ k, c ≤ k → ∀ i, i < (bld l c).1.length → i < (bld l k).1.length ∧ tb (bld l k).1 i = tb (bld l c).1 i := by
  intro k
  induction k with
  | zero => intro h i hi; obtain rfl : c = 0 := by omega
            exact ⟨hi, rfl⟩
  | succ k ih =>
    intro h i hi
    by_cases e : c = k + 1
    · subst e; exact ⟨hi, rfl⟩
    · obtain ⟨h1, h2⟩ := ih (by omega) i hi
      rw [bld_succ]
      by_cases hm : blk l k ∈ (bld l k).1
      · simp only [addB_mem hm]; exact ⟨h1, h2⟩
      · simp only [addB_not hm]
        refine ⟨by simp; omega, ?_⟩
        rw [tb_app_left h1, h2]
theorem bld_at (l : List Int) : ∀ (k i : Nat), i < k → ∃ m : Nat, (bld l k).2.getD i 0 = (m : Int) ∧ m < (bld l k).1.length ∧ tb (bld l k).1 m = blk l i := by
  intro k
  induction k with
  | zero => intro i h; omega
  | succ k ih =>
    intro i hi
    by_cases e : i = k
    · subst e
      refine ⟨idxF (blk l i) (bld l i).1, ?_, ?_, ?_⟩
      · rw [bld_succ]
        simp [List.getD, bld_ix_len]
      · rw [bld_succ]
        by_cases hm : blk l i ∈ (bld l i).1
        · simp only [addB_mem hm]; exact (idxF_mem hm).1
        · simp only [addB_not hm]; rw [idxF_not hm]; simp
      · rw [bld_succ]
        by_cases hm : blk l i ∈ (bld l i).1
        · simp only [addB_mem hm]; exact (idxF_mem hm).2
        · simp only [addB_not hm]; rw [idxF_not hm]; exact tb_app_last _ _
    · obtain ⟨m, h1, h2, h3⟩ := ih i (by omega)
      obtain ⟨g1, g2⟩ := bld_stay l k (k + 1) (by omega) m h2
      refine ⟨m, ?_, g1, by rw [g2, h3]⟩
      rw [bld_succ]
      simp only [List.getD_eq_getElem?_getD]
      rw [List.getElem?_append_left (by rw [bld_ix_len]; omega), ← List.getD_eq_getElem?_getD, h1]
/-- Blocks one behind the other. -/
theorem flat_len : ∀ (T : List (List Int)), (∀ b ∈ T, b.length = 64) → T.flatten.length = T.length * 64
  | [], _ => rfl
  | c :: t, h => by
    have := flat_len t (fun b hb => h b (by simp [hb]))
    have hc := h c (by simp)
    simp only [List.flatten_cons, List.length_append, List.length_cons]
    omega
theorem flat_blk : ∀ (T : List (List Int)), (∀ b ∈ T, b.length = 64) → ∀ i, i < T.length → blk T.flatten i = tb T i
  | [], _, i, hi => by simp at hi
  | c :: t, h, 0, _ => by
    have hc := h c (by simp)
    simp [blk, tb, hc]
  | c :: t, h, i + 1, hi => by
    have hc := h c (by simp)
    have ih := flat_blk t (fun b hb => h b (by simp [hb])) i (by simpa using hi)
    rw [tb_cons, ← ih]
    unfold blk
    rw [List.flatten_cons, List.drop_append, hc, List.drop_eq_nil_of_le (by omega), List.nil_append, show (i + 1) * 64 - 64 = i * 64 by omega]
theorem flat_snoc (T : List (List Int)) (b : List Int) : (T ++ [b]).flatten = T.flatten ++ b := by simp
/-- The trie that is built is right. -/
theorem bld_ok (l : List Int) (hl : l.length = 512 * 64) : TrieOk (bld l 512).2 (bld l 512).1.flatten := by
  have h64 := bld_all l 512 hl 512 (Nat.le_refl _)
  have hlen := flat_len _ h64
  have hle := bld_len l 512
  have hd : (bld l 512).1.flatten.length / 64 = (bld l 512).1.length := by rw [hlen]; omega
  refine ⟨bld_ix_len l 512, by rw [hlen]; omega, by omega, ?_, by rw [hd]; exact bld_turns l 512⟩
  rw [hd]
  intro i j hij hj
  rw [flat_blk _ h64 i (by omega), flat_blk _ h64 j hj]
  intro e
  have := tb_inj (bld_nodup l 512) (by omega) hj e
  omega
/-- What it tells of a point. -/
def atP (ix dt : List Int) (p : Nat) : Int := dt.getD ((ix.getD (p / 64) 0).toNat * 64 + p % 64) 0
theorem bld_tells (l : List Int) (hl : l.length = 512 * 64) (p : Nat) (hp : p < 32768) : atP (bld l 512).2 (bld l 512).1.flatten p = l.getD p 0 := by
  have h64 := bld_all l 512 hl 512 (Nat.le_refl _)
  obtain ⟨m, h1, h2, h3⟩ := bld_at l 512 (p / 64) (by omega)
  unfold atP
  rw [h1]
  have e : ((m : Int)).toNat = m := by omega
  have e2 : p / 64 * 64 + p % 64 = p := by omega
  rw [e, ← blk_nth _ m (p % 64) (by omega), flat_blk _ h64 m h2, h3, blk_nth l (p / 64) (p % 64) (by omega), e2]
theorem turns_bd : ∀ (l : List Int) (n c : Int), turns n l = some c → n ≤ c ∧ ∀ i, i < l.length → 0 ≤ l.getD i 0 ∧ l.getD i 0 < c
  | [], n, c, h => by
    have : n = c := by simpa [turns] using h
    exact ⟨by omega, fun i hi => by simp at hi⟩
  | p :: t, n, c, h => by
    simp only [turns] at h
    split at h
    · cases h
    · rename_i hp
      obtain ⟨a, b⟩ := turns_bd t _ c h
      have hn : n ≤ (if p = n then n + 1 else n) ∧ (p = n → (if p = n then n + 1 else n) = n + 1) := by
        constructor
        · split <;> omega
        · intro e; rw [if_pos e]
      refine ⟨by omega, fun i hi => ?_⟩
      match i with
      | 0 =>
        simp only [List.getD_cons_zero]
        by_cases e : p = n
        · have := hn.2 e; omega
        · omega
      | i + 1 =>
        have := b i (by simpa using hi)
        simpa using this
end Go.Proofs.YtamigjljgepfiaaGreatDoor
/- Slices of int64: are two alike? The slot of a block; an index in turn. -/
namespace Go.Proofs.YtamigjljgepfiaaGreatDoor
open Go.RowKit
theorem drewN_add (w : World) (n m : Nat) : (w.drewN n).drewN m = w.drewN (n + m) := World.drewN_drewN w n m
theorem IntsAt.drewN {w : World} {v : Value} {l : List Int} (h : IntsAt w v l) (n : Nat) : IntsAt (w.drewN n) v l := h
theorem ext_nth {l1 l2 : List Int} (hl : l1.length = l2.length) (h : ∀ j, j < l1.length → nth l1 j = nth l2 j) : l1 = l2 := by
  apply List.ext_getElem hl
  intro i h1 h2
  have := h i h1
  simpa [nth, List.getD, h1, h2] using this
theorem ret_bool {a b : Bool} (h : a = b) : Ending.returned (.bool a) = .returned (.bool b) := by rw [h]
def sameB (l1 l2 : List Int) : Bool := decide (l1 = l2)
theorem sameB_iff (l1 l2 : List Int) : sameB l1 l2 = true ↔ l1 = l2 := by simp [sameB]
theorem sameB_not (l1 l2 : List Int) : sameB l1 l2 = false ↔ l1 ≠ l2 := by simp [sameB]
def turnB (l : List Int) (c : Int) : Bool := decide (turns 0 l = some c)
theorem turnB_iff (l : List Int) (c : Int) : turnB l c = true ↔ turns 0 l = some c := by simp [turnB]
theorem ne_nth {l1 l2 : List Int} {k : Nat} (h : nth l1 k ≠ nth l2 k) : l1 ≠ l2 := fun e => h (by rw [e])
/-- The index from the k-th item on. -/
def turnAt (l : List Int) (k : Nat) (n : Int) : Option Int := turns n (l.drop k)
theorem turnAt_step (l : List Int) (k : Nat) (n : Int) (h : k < l.length) : turnAt l k n = if nth l k < 0 ∨ n < nth l k then none else turnAt l (k + 1) (if nth l k = n then n + 1 else n) := by
  unfold turnAt
  rw [List.drop_eq_getElem_cons h]
  have e : nth l k = l[k] := by simp [nth, List.getD, h]
  rw [e]
  rfl
theorem turnAt_end (l : List Int) (k : Nat) (n : Int) (h : ¬ k < l.length) : turnAt l k n = some n := by
  unfold turnAt
  rw [List.drop_eq_nil_of_le (by omega)]
  rfl
theorem turnAt_zero (l : List Int) : turnAt l 0 0 = turns 0 l := rfl
end Go.Proofs.YtamigjljgepfiaaGreatDoor
/- The slot of a block. -/
namespace Go.Proofs.YtamigjljgepfiaaGreatDoor
open Go.RowKit
def stepS (s x : Int) : Int := IntKind.u64.wrap (bits BinOp.xor IntKind.u64 s (IntKind.u64.wrap x) * 11400714819323198485)
def sumS (l : List Int) (k : Nat) : Int := (l.take k).foldl stepS 0
theorem sumS_succ (l : List Int) (k : Nat) (h : k < l.length) : sumS l (k + 1) = stepS (sumS l k) (nth l k) := by
  unfold sumS
  rw [List.take_succ_eq_append_getElem h, List.foldl_append]
  have e : nth l k = l[k] := by simp [nth, List.getD, h]
  rw [e]
  rfl
theorem stepS_bd (s x : Int) : 0 ≤ stepS s x ∧ stepS s x < 18446744073709551616 := by
  unfold stepS
  generalize bits BinOp.xor IntKind.u64 s (IntKind.u64.wrap x) * 11400714819323198485 = y
  simp [IntKind.wrap, IntKind.signed, IntKind.bits]; omega
theorem sumS_bd (l : List Int) (k : Nat) (h : k ≤ l.length) : 0 ≤ sumS l k ∧ sumS l k < 18446744073709551616 := by
  match k, h with
  | 0, _ => simp [sumS]
  | k + 1, h => rw [sumS_succ l k (by omega)]; exact stepS_bd _ _
def slotN (l : List Int) : Nat := (sumS l l.length / 36028797018963968).toNat
theorem slotN_lt (l : List Int) : slotN l < 512 := by
  unfold slotN
  have := sumS_bd l l.length (Nat.le_refl _)
  omega
theorem slotN_eq (l : List Int) : ((slotN l : Nat) : Int) = sumS l l.length / 36028797018963968 := by
  unfold slotN
  have := sumS_bd l l.length (Nat.le_refl _)
  omega
/-- The places of the blocks of one slot. -/
def places (T : List (List Int)) (s : Nat) : List Nat := (List.range T.length).filter fun i => slotN (tb T i) == s
theorem mem_places {T : List (List Int)} {s i : Nat} : i ∈ places T s ↔ i < T.length ∧ slotN (tb T i) = s := by simp [places]
theorem places_len (T : List (List Int)) (s : Nat) : (places T s).length ≤ T.length := by
  have := List.length_filter_le (fun i => slotN (tb T i) == s) (List.range T.length)
  simpa [places] using this
theorem places_snoc (T : List (List Int)) (b : List Int) (s : Nat) : places (T ++ [b]) s = if slotN b = s then places T s ++ [T.length] else places T s := by
  unfold places
  have h1 : (List.range T.length).filter (fun i => slotN (tb (T ++ [b]) i) == s) = (List.range T.length).filter (fun i => slotN (tb T i) == s) := by
    apply List.filter_congr
    intro i hi
    rw [tb_app_left (List.mem_range.1 hi)]
  rw [List.length_append, List.length_singleton, List.range_succ, List.filter_append, h1]
  by_cases e : slotN b = s
  · rw [if_pos e]
    simp [tb_app_last, e]
  · rw [if_neg e]
    simp [tb_app_last, e]
def pl (T : List (List Int)) (s k : Nat) : Nat := (places T s).getD k 0
theorem pl_mem {T : List (List Int)} {s k : Nat} (h : k < (places T s).length) : pl T s k < T.length ∧ slotN (tb T (pl T s k)) = s := by
  have : pl T s k ∈ places T s := by
    unfold pl
    rw [List.getD_eq_getElem?_getD, List.getElem?_eq_getElem h]
    exact List.getElem_mem h
  exact mem_places.1 this
theorem pl_all {T : List (List Int)} {b : List Int} (h : ∀ k, k < (places T (slotN b)).length → tb T (pl T (slotN b) k) ≠ b) : b ∉ T := by
  apply not_mem_tb
  intro i hi e
  have hm : i ∈ places T (slotN b) := mem_places.2 ⟨hi, by rw [e]⟩
  obtain ⟨k, hk, e2⟩ := List.getElem_of_mem hm
  refine h k hk ?_
  have : pl T (slotN b) k = i := by
    unfold pl
    rw [List.getD_eq_getElem?_getD, List.getElem?_eq_getElem hk, e2]
    rfl
  rw [this, e]
theorem pl_found {T : List (List Int)} (hn : T.Nodup) {b : List Int} {i : Nat} (hi : i < T.length) (h : tb T i = b) : idxF b T = i :=
  idxF_first b T i hi h (fun j hj e => by have := tb_inj hn (i := j) (j := i) (by omega) hi (by rw [e, h]); omega)
def natCells (l : List Nat) : List Value := l.map fun n : Nat => Value.int .i64 (n : Int)
theorem natCells_at (l : List Nat) (k : Nat) (h : k < l.length) : (natCells l)[k]? = some (.int .i64 ((l.getD k 0 : Nat) : Int)) := by
  simp [natCells, List.getD, h]
end Go.Proofs.YtamigjljgepfiaaGreatDoor
/- The table of unlike blocks: what it holds, and how a block is put into it. -/
namespace Go.Proofs.YtamigjljgepfiaaGreatDoor
open Go.RowKit
/-- A block of 64 numbers below B. -/
def BlkAt (w : World) (B : Nat) (v : Value) (b : List Int) : Prop := b.length = 64 ∧ ∃ g off cap, v = .slice (some ⟨g, off, none⟩) 64 cap ∧ g < B ∧ ∀ j, j < 64 → w.cell? ⟨g, off + j, none⟩ = some (.int .i64 (nth b j))
theorem BlkAt.ints {w : World} {B : Nat} {v : Value} {b : List Int} (h : BlkAt w B v b) (hB : B ≤ w.heap.size) : IntsAt w v b := by
  obtain ⟨hl, g, off, cap, rfl, hg, hc⟩ := h
  exact ⟨_, cap, by rw [hl], .inr ⟨g, off, rfl, by omega, fun i hi => hc i (by omega)⟩⟩
theorem BlkAt.same {w w' : World} {B : Nat} {v : Value} {b : List Int} (h : BlkAt w B v b) (hs : ∀ k, k < B → w'.heap[k]? = w.heap[k]?) : BlkAt w' B v b := by
  obtain ⟨hl, g, off, cap, rfl, hg, hc⟩ := h
  exact ⟨hl, g, off, cap, rfl, hg, fun j hj => (World.cell?_of_block (a := ⟨g, off + j, none⟩) (hs g hg)).trans (hc j hj)⟩
theorem own_ne_tag {w : World} {B : Nat} {e t : TypeId} {s : Nat} {v : Value} {n : Nat} {xs : List Value} {g : Nat} {cur : Array Value} {f : Nat × Nat} (h : w.ownsRow B e s v n xs) (hh : w.heap[g]? = some (.cells cur t f)) (hne : e ≠ t) : some g ≠ v.ownBlock := by
  intro e1
  rcases h.2 with ⟨rfl, _⟩ | ⟨g', cap, cur', rfl, _, hh', _⟩
  · cases e1
  · simp only [Value.ownBlock, Option.some.injEq] at e1
    rw [← e1, hh] at hh'
    injection hh' with hh'
    injection hh' with _ h2 _
    exact hne h2.symm
theorem rows_apart {w : World} {B B' : Nat} {e e' : TypeId} {s s' : Nat} {v v' : Value} {n n' : Nat} {xs xs' : List Value} (h : w.ownsRow B e s v n xs) (h' : w.ownsRow B' e' s' v' n' xs') (hne : e ≠ e') : v.ownBlock = none ∨ v.ownBlock ≠ v'.ownBlock := by
  rcases h.2 with ⟨rfl, _⟩ | ⟨g, cap, cur, rfl, _, hh, _⟩
  · exact .inl rfl
  · refine .inr fun e => ?_
    rcases h'.2 with ⟨rfl, _⟩ | ⟨g', cap', cur', rfl, _, hh', _⟩
    · cases e
    · simp only [Value.ownBlock, Option.some.injEq] at e
      rw [← e, hh] at hh'
      injection hh' with hh'
      injection hh' with _ h2 _
      exact hne h2
theorem set_grown {w : World} {R j : Nat} {u : Value} : w.grownBy (w.setCell ⟨R, j, none⟩ u) (some R) :=
  ⟨rfl, rfl, rfl, by simp, fun k _ hk => heap_setCell_other w ⟨R, j, none⟩ k u (fun e => hk (by simp [e]))⟩
theorem own_ge {w : World} {B : Nat} {e : TypeId} {s : Nat} {v : Value} {n : Nat} {xs : List Value} (h : w.ownsRow B e s v n xs) {k : Nat} (hk : k < B) : some k ≠ v.ownBlock := by
  intro e1
  have := (h.lt k e1.symm).1
  omega
theorem alloc_block (w : World) (o : Obj) {k : Nat} (h : k < w.heap.size) : (w.alloc o).heap[k]? = w.heap[k]? := Below.heap_alloc w o k h
theorem info29 : (Tryz.prog.info? 27).map (fun i => (i.zero, i.size, i.bytes)) = some (some (.slice none 0 0), 1, 24) := by kernel_rfl
/-- The new row is where the old one was, or new. -/
def NewAt (w : World) (v v' : Value) : Prop := ∀ k, v'.ownBlock = some k → v.ownBlock = some k ∨ w.heap.size ≤ k
end Go.Proofs.YtamigjljgepfiaaGreatDoor
/- append of one number to a row of the call's own. -/
namespace Go.Proofs.YtamigjljgepfiaaGreatDoor
open Go.RowKit
/-- append of one number to a row of the call's own: the new row is where the old one was, or new. -/
theorem app_block {P : Program} (w : World) (t ty : TypeId) (i : TypeInfo) (ht : P.underlying t = some (.slice 2)) (hi : P.info? 2 = some i) (hz : i.zero = some (.int .i64 0)) (hsize : i.size = 1) (hby : i.bytes = 8)
    (base : Nat) (v : Value) (n : Nat) (xs : List Value) (hown : w.ownsRow base 2 1 v n xs) (a : Addr) (x : Value) (hx : w.cell? a = some x) (h1 : x.oneCell' = true)
    (h63 : n + 1 ≤ maxLen) (hbytes : (n + 1) * 8 ≤ 140737488355328) (hbase : base ≤ w.heap.size) :
    ∃ v' w', (Builtin.append_ #[t, t] ty #[v, .slice (some a) 1 1]).run P w = .ok v' w' ∧ w'.ownsRow base 2 1 v' (n + 1) (xs ++ [x]) ∧ w.grownBy w' v.ownBlock ∧ (∀ k, v'.ownBlock = some k → v.ownBlock = some k ∨ w.heap.size ≤ k) := by
  have hn : ∀ j u, [x][j]? = some u → w.cell? (a.add j) = some u := by
    intro j u hj
    match j, hj with
    | 0, hj => simp at hj; subst hj; simpa [Addr.add] using hx
    | (j + 1), hj => simp at hj
  have h1' : ∀ u ∈ [x], u.oneCell' = true := by intro u hu; simp at hu; subst hu; exact h1
  obtain ⟨v', w', hr, ho, hg, _⟩ := run_append_own (P := P) w base t ty 2 i (.int .i64 0) 1 8 ht hi hz hsize hby rfl (by decide) v n xs hown a 1 1 [x] rfl hn h1' h63 hbytes hbase
  refine ⟨v', w', hr, ho, hg, ?_⟩
  rcases hown.2 with ⟨rfl, rfl⟩ | ⟨g, cap, cur, rfl, hbg, hgg, hnc, hcm, hcs, htake⟩
  · obtain ⟨v2, w2, hr2, ho2, _, _⟩ := run_append_own (P := P) w w.heap.size t ty 2 i (.int .i64 0) 1 8 ht hi hz hsize hby rfl (by decide) (.slice none 0 0) 0 [] (World.ownsRow_nil w _ 2 1) a 1 1 [x] rfl hn h1' h63 hbytes (Nat.le_refl _)
    have e : v' = v2 := by have := hr.symm.trans hr2; injection this
    intro k hk
    exact .inr (ho2.lt k (e ▸ hk)).1
  · by_cases hroom : n + 1 ≤ cap
    · have hsz : cur.size = cap := by simpa using hcs
      have hr2 := run_append_room (P := P) w t ty 2 i ht hi g n cap cur hgg a 1 1 [x] (by rw [hsize]; rfl) hn h1' hroom (by rw [hsize]; simp; omega)
      have e : v' = .slice (some ⟨g, 0, none⟩) (n + 1) cap := by have := hr.symm.trans hr2; injection this
      intro k hk
      rw [e] at hk
      exact .inl hk
    · have holds : ∀ j u, xs[j]? = some u → w.cell? ((⟨g, 0, none⟩ : Addr).add j) = some u := hown.cells (g := g) rfl
      obtain ⟨v2, w2, hr2, ho2, _⟩ := run_append_arg_grows (P := P) w t ty 2 i (.int .i64 0) 1 8 ht hi hz hsize hby rfl (by decide) ⟨g, 0, none⟩ n cap xs hown.1 holds a 1 1 [x] rfl hn (by omega) h63 hbytes
      have e : v' = v2 := by have := hr.symm.trans hr2; injection this
      intro k hk
      exact .inr (ho2.lt k (e ▸ hk)).1
theorem wp_app2 {P : Program} {w : World} {o : Oper} {a : Act} {K : Act → World → Prop} {Q : Exit → Act → World → Prop} (s x : Operand) (t : TypeId)
    (ho : o.op = .call { callee := .builtin .append, args := #[s, x], argTypes := #[t, t] })
    (i : TypeInfo) (ht : P.underlying t = some (.slice 2)) (hi : P.info? 2 = some i) (hz : i.zero = some (.int .i64 0)) (hsize : i.size = 1) (hby : i.bytes = 8)
    (base : Nat) (v : Value) (n : Nat) (xs : List Value) (hs : a.eval s = v) (hown : w.ownsRow base 2 1 v n xs) (ad : Addr) (y : Value) (hx : a.eval x = .slice (some ad) 1 1) (hy : w.cell? ad = some y) (h1 : y.oneCell' = true)
    (h63 : n + 1 ≤ maxLen) (hbytes : (n + 1) * 8 ≤ 140737488355328) (hbase : base ≤ w.heap.size)
    (h : ∀ v' w', w'.ownsRow base 2 1 v' (n + 1) (xs ++ [y]) → w.grownBy w' v.ownBlock → (∀ k, v'.ownBlock = some k → v.ownBlock = some k ∨ w.heap.size ≤ k) → K (a.put o.dst v') w') : o.wp P a w K Q := by
  obtain ⟨v', w', hr, h2, h3, h4⟩ := app_block (P := P) w t o.type i ht hi hz hsize hby base v n xs hown ad y hy h1 h63 hbytes hbase
  unfold Oper.wp execOp
  simp only [ho, resolve, invoke, builtin, Sem.run_bind, Sem.run_pure, Result.andThen_ok, List.map_toArray, List.map_cons, List.map_nil, hs, hx, hr]
  exact h v' w' h2 h3 h4
theorem wpList_app2 {P : Program} {w : World} {ops : Array Oper} {rest : List Oper} {o : Oper} {a : Act} {Q : Exit → Act → World → Prop} (hgd : o.guard = none) (s x : Operand) (t : TypeId)
    (ho : o.op = .call { callee := .builtin .append, args := #[s, x], argTypes := #[t, t] })
    (i : TypeInfo) (ht : P.underlying t = some (.slice 2)) (hi : P.info? 2 = some i) (hz : i.zero = some (.int .i64 0)) (hsize : i.size = 1) (hby : i.bytes = 8)
    (base : Nat) (v : Value) (n : Nat) (xs : List Value) (hs : a.eval s = v) (hown : w.ownsRow base 2 1 v n xs) (ad : Addr) (y : Value) (hx : a.eval x = .slice (some ad) 1 1) (hy : w.cell? ad = some y) (h1 : y.oneCell' = true)
    (h63 : n + 1 ≤ maxLen) (hbytes : (n + 1) * 8 ≤ 140737488355328) (hbase : base ≤ w.heap.size)
    (h : ∀ v' w', w'.ownsRow base 2 1 v' (n + 1) (xs ++ [y]) → w.grownBy w' v.ownBlock → (∀ k, v'.ownBlock = some k → v.ownBlock = some k ∨ w.heap.size ≤ k) → wpList P ops Q rest (a.put o.dst v') w') : wpList P ops Q (o :: rest) a w :=
  wpList_plain hgd fun _ hK => wp_app2 s x t ho i ht hi hz hsize hby base v n xs hs hown ad y hx hy h1 h63 hbytes hbase fun v' w' h2 h3 h4 => hK _ _ (h v' w' h2 h3 h4)
theorem step_app2 {P : Program} {w : World} {ops : Array Oper} {o : Oper} {a : Act} {K : Act → World → Prop} {Q : Exit → Act → World → Prop} {E : Prop} (hgd : o.guard = none) (s x : Operand) (t : TypeId)
    (ho : o.op = .call { callee := .builtin .append, args := #[s, x], argTypes := #[t, t] })
    (i : TypeInfo) (ht : P.underlying t = some (.slice 2)) (hi : P.info? 2 = some i) (hz : i.zero = some (.int .i64 0)) (hsize : i.size = 1) (hby : i.bytes = 8)
    (base : Nat) (v : Value) (n : Nat) (xs : List Value) (hs : a.eval s = v) (hown : w.ownsRow base 2 1 v n xs) (ad : Addr) (y : Value) (hx : a.eval x = .slice (some ad) 1 1) (hy : w.cell? ad = some y) (h1 : y.oneCell' = true)
    (h63 : n + 1 ≤ maxLen) (hbytes : (n + 1) * 8 ≤ 140737488355328) (hbase : base ≤ w.heap.size)
    (h : ∀ v' w', w'.ownsRow base 2 1 v' (n + 1) (xs ++ [y]) → w.grownBy w' v.ownBlock → (∀ k, v'.ownBlock = some k → v.ownBlock = some k ∨ w.heap.size ≤ k) → K (a.put o.dst v') w') :
    if Region.wanted o (yielded ops a.tmps) = true then Oper.wp P o a w K Q else E := by
  have hw : Region.wanted o (yielded ops a.tmps) = true := by simp [Region.wanted, hgd]
  rw [if_pos hw]
  exact wp_app2 s x t ho i ht hi hz hsize hby base v n xs hs hown ad y hx hy h1 h63 hbytes hbase h
theorem own_da {w : World} {B : Nat} {v : Value} {n : Nat} {xs : List Value} (h : w.ownsRow B 2 1 v n xs) (o : Obj) : (w.drew.alloc o).ownsRow B 2 1 v n xs := World.ownsRow.alloc (w := w.drew) h o
theorem own_ad {w : World} {B : Nat} {v : Value} {n : Nat} {xs : List Value} (h : w.ownsRow B 2 1 v n xs) (o : Obj) : (w.alloc o).drew.ownsRow B 2 1 v n xs := World.ownsRow.alloc h o
theorem own_form {w : World} {B : Nat} {e : TypeId} {s : Nat} {v : Value} {n : Nat} {xs : List Value} (h : w.ownsRow B e s v n xs) : ∃ a c, v = .slice a n c := by
  rcases h.2 with ⟨hv, hn⟩ | ⟨g, cap, cur, hv, _⟩
  · exact ⟨none, 0, by rw [hv, hn]⟩
  · exact ⟨_, _, hv⟩
end Go.Proofs.YtamigjljgepfiaaGreatDoor
/- A block put into the table, or found there. -/
namespace Go.Proofs.YtamigjljgepfiaaGreatDoor
open Go.RowKit
theorem row_read {w : World} {B g c : Nat} {l : List Nat} (h : w.ownsRow B 2 1 (.slice (some ⟨g, 0, none⟩) l.length c) l.length (natCells l)) (k : Nat) (hk : k < l.length) : w.cell? ⟨g, k, none⟩ = some (.int .i64 ((l.getD k 0 : Nat) : Int)) :=
  (h.cellAt k (by omega)).trans (natCells_at l k hk)
theorem own_at {w : World} {B : Nat} {e : TypeId} {v : Value} {n : Nat} {xs : List Value} (h : w.ownsRow B e 1 v n xs) (hn : 0 < n) : ∃ g c, v = .slice (some ⟨g, 0, none⟩) n c := by
  rcases h.2 with ⟨_, h0⟩ | ⟨g, cap, cur, hv, _⟩
  · omega
  · exact ⟨g, cap, hv⟩
theorem one_new (w : World) (x : Value) (t : TypeId) : ∀ j u, [x][j]? = some u → (w.alloc (.cells #[x] t)).cell? ((⟨w.heap.size, 0, none⟩ : Addr).add j) = some u := by
  intro j u hj
  match j, hj with
  | 0, hj => simp at hj; subst hj; simp [Addr.add]
  | (j + 1), hj => simp at hj
end Go.Proofs.YtamigjljgepfiaaGreatDoor
/- Blocks of a row of numbers: are they unlike? Is a trie right? The program's answer. -/
namespace Go.Proofs.YtamigjljgepfiaaGreatDoor
open Go.RowKit
/-- A slice value that holds just the numbers l, below B. -/
def DatAt (w : World) (B : Nat) (v : Value) (l : List Int) : Prop :=
  ∃ a cap, v = .slice a l.length cap ∧ l.length ≤ cap ∧ (l = [] ∨ ∃ b off, a = some ⟨b, off, none⟩ ∧ b < B ∧ ∀ i, i < l.length → w.cell? ⟨b, off + i, none⟩ = some (.int .i64 (nth l i)))
theorem DatAt.ints {w : World} {B : Nat} {v : Value} {l : List Int} (h : DatAt w B v l) (hB : B ≤ w.heap.size) : IntsAt w v l := by
  obtain ⟨a, cap, rfl, _, h⟩ := h
  refine ⟨a, cap, rfl, h.imp_right ?_⟩
  rintro ⟨b, off, rfl, hb, hc⟩
  exact ⟨b, off, rfl, by omega, hc⟩
theorem DatAt.same {w w' : World} {B : Nat} {v : Value} {l : List Int} (h : DatAt w B v l) (hs : ∀ k, k < B → w'.heap[k]? = w.heap[k]?) : DatAt w' B v l := by
  obtain ⟨a, cap, rfl, hc, h⟩ := h
  refine ⟨a, cap, rfl, hc, h.imp_right ?_⟩
  rintro ⟨b, off, rfl, hb, hc⟩
  exact ⟨b, off, rfl, hb, fun i hi => (World.cell?_of_block (a := ⟨b, off + i, none⟩) (hs b hb)).trans (hc i hi)⟩
theorem DatAt.owned {w : World} {base : Nat} {v : Value} {l : List Int} {n : Nat} (h : w.ownsRow base 2 1 v n (l.map (Value.int .i64))) : DatAt w w.heap.size v l := by
  have hl : l.length = n := by simpa using h.1
  rcases h.2 with ⟨hv, hn⟩ | ⟨g, cap, cur, hv, hg, hh, hn, hm, hs, ht⟩
  · exact ⟨none, 0, by rw [hv, hl, hn], by omega, .inl (List.length_eq_zero_iff.1 (by omega))⟩
  · subst hv
    refine ⟨some ⟨g, 0, none⟩, cap, by rw [hl], by omega, .inr ⟨g, 0, rfl, (Array.getElem?_eq_some_iff.1 hh).1, fun i hi => ?_⟩⟩
    have hc := h.cellAt i (by omega)
    rw [Nat.zero_add, hc, List.getElem?_map]
    simp [nth, List.getD, hi]
theorem blk_cell {w : World} {B b off cap : Nat} {l : List Int} (hb : b < B) (hc : ∀ i, i < l.length → w.cell? ⟨b, off + i, none⟩ = some (.int .i64 (nth l i))) (c i : Nat) (hl : l.length = c * 64) (hi : i < c) : BlkAt w B (.slice (some ⟨b, off + i * 64, none⟩) 64 cap) (blk l i) := by
  refine ⟨blk_len l i c hl hi, b, off + i * 64, cap, rfl, hb, fun j hj => ?_⟩
  have := hc (i * 64 + j) (by omega)
  rw [← Nat.add_assoc] at this
  rw [this]
  unfold nth
  rw [blk_nth l i j hj]
theorem trie_no1 {ix dt : List Int} (h : ix.length ≠ 512) : trieFault ix dt = 1 := trieFault_no (fun hh => h hh.1)
theorem trie_no2 {ix dt : List Int} (h : dt.length % 64 ≠ 0) : trieFault ix dt = 1 := trieFault_no (fun hh => h hh.2.1)
theorem trie_no3 {ix dt : List Int} (h : 512 < dt.length / 64) : trieFault ix dt = 1 := trieFault_no (fun hh => by have := hh.2.2.1; omega)
theorem trie_no4 {ix dt : List Int} (h : ¬ Unlike dt (dt.length / 64)) : trieFault ix dt = 1 := trieFault_no (fun hh => h hh.2.2.2.1)
theorem trie_no5 {ix dt : List Int} (h : turns 0 ix ≠ some ((dt.length / 64 : Nat) : Int)) : trieFault ix dt = 1 := trieFault_no (fun hh => h hh.2.2.2.2)
end Go.Proofs.YtamigjljgepfiaaGreatDoor
/- Spans that are alike; marks written into spans that the call owns, and found there again. -/
namespace Go.Proofs.YtamigjljgepfiaaGreatDoor
open Go.RowKit
theorem drew_below (w : World) : Below w.heap.size w w.drew := ⟨rfl, rfl, rfl, Nat.le_refl _, fun _ _ => rfl⟩
def fl (L : List Sp) : List Int := L.flatMap fun r => [r.1, r.2.1, r.2.2]
theorem cells_fl (L : List Sp) : cells L = (fl L).map (Value.int .i64) := by
  unfold cells fl
  rw [List.map_flatMap]
  rfl
theorem fl_len (L : List Sp) : (fl L).length = L.length * 3 := by
  have := cells_len L
  rw [cells_fl, List.length_map] at this
  exact this
/-- 1, 2, .. in the first k places of l. -/
def mkL (l : List Int) (k : Nat) : List Int := (List.range k).map (fun i : Nat => 1 + (i : Int)) ++ l.drop k
def sqL (n : Nat) : List Int := (List.range n).map (fun i : Nat => 1 + (i : Int))
theorem mkL_zero (l : List Int) : mkL l 0 = l := by simp [mkL]
theorem mkL_len (l : List Int) (k : Nat) (h : k ≤ l.length) : (mkL l k).length = l.length := by simp [mkL]; omega
theorem mkL_set (l : List Int) (k : Nat) (h : k < l.length) (f : Int → Value) : ((mkL l k).map f).set k (f (1 + (k : Int))) = (mkL l (k + 1)).map f := by
  rw [← List.map_set]
  congr 1
  unfold mkL
  have hk : ((List.range k).map (fun i : Nat => 1 + (i : Int))).length = k := by simp
  rw [List.set_append_right _ _ (by omega), hk, Nat.sub_self, List.drop_eq_getElem_cons h, List.set_cons_zero, List.range_succ, List.map_append, List.append_assoc]
  rfl
theorem mkL_all (l : List Int) : mkL l l.length = sqL l.length := by simp [mkL, sqL]
theorem sq_at (n k : Nat) (h : k < n) : ((sqL n).map (Value.int .i64))[k]? = some (.int .i64 (1 + (k : Int))) := by
  simp [sqL, h]
end Go.Proofs.YtamigjljgepfiaaGreatDoor
/- Marks written into spans, told by the one block that they change; the laws of the sets. -/
namespace Go.Proofs.YtamigjljgepfiaaGreatDoor
open Go.RowKit
theorem ownsRow_at {w w' : World} {B : Nat} {e : TypeId} {s : Nat} {v : Value} {n : Nat} {xs : List Value} (h : w.ownsRow B e s v n xs) (hs : ∀ k, v.ownBlock = some k → w'.heap[k]? = w.heap[k]?) : w'.ownsRow B e s v n xs := by
  refine ⟨h.1, ?_⟩
  rcases h.2 with h' | ⟨g, cap, cur, hv, hg, hh, r⟩
  · exact .inl h'
  · exact .inr ⟨g, cap, cur, hv, hg, (hs g (by rw [hv]; rfl)).trans hh, r⟩
theorem grown_refl (w : World) (r : Option Nat) : w.grownBy w r := ⟨rfl, rfl, rfl, Nat.le_refl _, fun _ _ _ => rfl⟩
theorem grown_set {w w' : World} {g j : Nat} {u : Value} (h : w.grownBy w' (some g)) : w.grownBy (w'.setCell ⟨g, j, none⟩ u) (some g) :=
  ⟨h.os, h.tape, h.output, by simp; exact h.size, fun k hk hne => (heap_setCell_other w' ⟨g, j, none⟩ k u (fun e => hne (by rw [e]))).trans (h.block k hk hne)⟩
theorem grown_below {w w' : World} {g B : Nat} (h : w.grownBy w' (some g)) (hB : B ≤ g) (hs : B ≤ w.heap.size) : Below B w w' :=
  (Below.refl B w).grown h hs (fun k hk => by injection hk with hk; omega)
end Go.Proofs.YtamigjljgepfiaaGreatDoor
/- Marks written into rows of numbers of the call's own, and found again. -/
namespace Go.Proofs.YtamigjljgepfiaaGreatDoor
open Go.RowKit
/-- The marks m0, m0 + 1 and so on. -/
def mkI (m0 : Int) (n : Nat) : List Value := (List.range n).map (fun (i : Nat) => Value.int .i64 (m0 + (i : Int)))
theorem mkI_len (m0 : Int) (n : Nat) : (mkI m0 n).length = n := by simp [mkI]
theorem mkI_at (m0 : Int) (n k : Nat) (h : k < n) : (mkI m0 n)[k]? = some (Value.int .i64 (m0 + (k : Int))) := by simp [mkI, h]
theorem mkI_all {m0 : Int} {n : Nat} {xs : List Value} (hl : xs.length = n) (h : ∀ j, j < n → xs[j]? = some (Value.int .i64 (m0 + (j : Int)))) : xs = mkI m0 n := by
  refine List.ext_getElem? (fun j => ?_)
  by_cases hj : j < n
  · rw [h j hj, mkI_at _ _ _ hj]
  · rw [List.getElem?_eq_none (by omega), List.getElem?_eq_none (by rw [mkI_len]; omega)]
theorem own_pos {w : World} {B n : Nat} {v : Value} {xs : List Value} (h : w.ownsRow B 2 1 v n xs) (hn : 0 < n) : ∃ g cap, v = .slice (some ⟨g, 0, none⟩) n cap := by
  rcases h.2 with ⟨_, h0⟩ | ⟨g, cap, cur, hv, _⟩
  · omega
  · exact ⟨g, cap, hv⟩
end Go.Proofs.YtamigjljgepfiaaGreatDoor
/- The parts of a point, as the program tells them. -/
namespace Go.Proofs.YtamigjljgepfiaaGreatDoor
open Go.RowKit
theorem within_t (p a b : Int) (w : World) (h : a ≤ p ∧ p ≤ b) : Calls Tryz.prog 14 #[.int .i64 p, .int .i64 a, .int .i64 b] w fun e w' => e = .returned (.bool true) ∧ w' = w := by
  obtain ⟨h1, h2⟩ := h
  go_enter Tryz.func14, Tryz.ntmps14
  go_wp2
  go_ret
  exact ⟨rfl, rfl⟩
theorem within_f (p a b : Int) (w : World) (h : ¬ (a ≤ p ∧ p ≤ b)) : Calls Tryz.prog 14 #[.int .i64 p, .int .i64 a, .int .i64 b] w fun e w' => e = .returned (.bool false) ∧ w' = w := by
  by_cases h1 : a ≤ p
  · have h2 : ¬ p ≤ b := fun h2 => h ⟨h1, h2⟩
    clear h
    go_enter Tryz.func14, Tryz.ntmps14
    go_wp2
    go_ret
    exact ⟨rfl, rfl⟩
  · clear h
    go_enter Tryz.func14, Tryz.ntmps14
    go_wp2
    go_ret
    exact ⟨rfl, rfl⟩
theorem lead_t (p : Int) (w : World) (h : 1792 ≤ p ∧ p ≤ 1810) : Calls Tryz.prog 110 #[.int .i64 p] w fun e w' => e = .returned (.bool true) ∧ w' = w := by
  go_enter Tryz.func110, Tryz.ntmps110
  go_wp2_with (go_at_call 14; refine (within_t _ _ _ _ h).mono ?_; rintro e w' ⟨rfl, rfl⟩)
  go_ret
  exact ⟨rfl, rfl⟩
theorem lead_f (p : Int) (w : World) (h : ¬ (1792 ≤ p ∧ p ≤ 1810)) : Calls Tryz.prog 110 #[.int .i64 p] w fun e w' => e = .returned (.bool false) ∧ w' = w := by
  go_enter Tryz.func110, Tryz.ntmps110
  go_wp2_with (go_at_call 14; refine (within_f _ _ _ _ h).mono ?_; rintro e w' ⟨rfl, rfl⟩)
  go_ret
  exact ⟨rfl, rfl⟩
theorem syll_t (p : Int) (w : World) (h : 12288 ≤ p ∧ p ≤ 23459) : Calls Tryz.prog 102 #[.int .i64 p] w fun e w' => e = .returned (.bool true) ∧ w' = w := by
  go_enter Tryz.func102, Tryz.ntmps102
  go_wp2_with (go_at_call 14; refine (within_t _ _ _ _ h).mono ?_; rintro e w' ⟨rfl, rfl⟩)
  go_ret
  exact ⟨rfl, rfl⟩
theorem syll_f (p : Int) (w : World) (h : ¬ (12288 ≤ p ∧ p ≤ 23459)) : Calls Tryz.prog 102 #[.int .i64 p] w fun e w' => e = .returned (.bool false) ∧ w' = w := by
  go_enter Tryz.func102, Tryz.ntmps102
  go_wp2_with (go_at_call 14; refine (within_f _ _ _ _ h).mono ?_; rintro e w' ⟨rfl, rfl⟩)
  go_ret
  exact ⟨rfl, rfl⟩
theorem tail_any (p : Int) (w : World) (h : 12288 ≤ p ∧ p ≤ 23459) (r : Int) (hr : (p - 12288).tmod 28 = r) : Calls Tryz.prog 111 #[.int .i64 p] w fun e w' => e = .returned (.bool (r != 0)) ∧ w' = w := by
  obtain ⟨h1, h2⟩ := h
  have b0 : 0 ≤ r := by rw [← hr, Int.tmod_eq_emod_of_nonneg (by omega)]; omega
  have b1 : r < 28 := by rw [← hr, Int.tmod_eq_emod_of_nonneg (by omega)]; omega
  go_enter Tryz.func111, Tryz.ntmps111
  go_wp2
  go_ret
  exact ⟨rfl, rfl⟩
theorem letterI (i : Int) (w : World) (h : 0 ≤ i ∧ i ≤ 51) : Calls Tryz.prog 101 #[.int .i64 i] w fun e w' => e = .returned (.int .i64 (letterZ i)) ∧ w' = w := by
  by_cases hi : i < 26
  · have e : letterZ i = 65 + i := if_pos hi
    rw [e]
    go_enter Tryz.func101, Tryz.ntmps101
    go_wp2
    go_ret
    exact ⟨rfl, rfl⟩
  · have e : letterZ i = 97 + i - 26 := if_neg hi
    rw [e]
    go_enter Tryz.func101, Tryz.ntmps101
    go_wp2
    go_ret
    exact ⟨rfl, rfl⟩
/-- A pair as a value. -/
def pairV (x : Int × Int) : Value := .agg #[.int .i64 x.1, .int .i64 x.2]
theorem pair_none {k : Bool} {p : Int} (h : partsZ k p = []) : pairZ k p = (p, -1) := by unfold pairZ; rw [h]
theorem pair_one {k : Bool} {p a : Int} (h : partsZ k p = [a]) : pairZ k p = (a, -1) := by unfold pairZ; rw [h]
theorem pair_two {k : Bool} {p a b : Int} (h : partsZ k p = [a, b]) : pairZ k p = (a, b) := by unfold pairZ; rw [h]
theorem ret_pair {x : Int × Int} {a b : Int} (h : x = (a, b)) : (Ending.returned (.agg #[.int .i64 a, .int .i64 b]) : Ending) = .returned (pairV x) := by rw [h]; rfl
set_option maxHeartbeats 1000000 in
theorem syllableI (p : Int) (w : World) (h : 12288 ≤ p ∧ p ≤ 23459) : Calls Tryz.prog 103 #[.int .i64 p] w fun e w' => e = .returned (pairV (pairZ false p)) ∧ ∃ o, w' = w.alloc o := by
  obtain ⟨q, hq⟩ : ∃ q, (p - 12288) / 28 = q := ⟨_, rfl⟩
  obtain ⟨r, hr⟩ : ∃ r, (p - 12288) % 28 = r := ⟨_, rfl⟩
  have e1 : (p - 12288).tdiv 28 = q := by rw [Int.tdiv_eq_ediv_of_nonneg (by omega)]; exact hq
  have e2 : (p - 12288).tmod 28 = r := by rw [Int.tmod_eq_emod_of_nonneg (by omega)]; exact hr
  have b1 : 0 ≤ q ∧ q ≤ 398 := by omega
  have b2 : 0 ≤ r ∧ r ≤ 27 := by omega
  by_cases h0 : 0 < r
  · have hp : pairZ false p = (p - r, 1856 + r) := pair_two (by
      unfold partsZ
      rw [if_neg (by omega), if_neg (by omega), if_neg (by omega), if_neg (by omega), if_pos h, hr, if_pos h0])
    have HP := hide hp
    clear hp hq hr
    go_enter Tryz.func103, Tryz.ntmps103
    go_wp2
    go_returns
    exact ⟨ret_pair (unhide HP), _, rfl⟩
  · obtain ⟨a, ha⟩ : ∃ a, q / 21 = a := ⟨_, rfl⟩
    obtain ⟨b, hb⟩ : ∃ b, q % 21 = b := ⟨_, rfl⟩
    have e3 : q.tdiv 21 = a := by rw [Int.tdiv_eq_ediv_of_nonneg (by omega)]; exact ha
    have e4 : q.tmod 21 = b := by rw [Int.tmod_eq_emod_of_nonneg (by omega)]; exact hb
    have b3 : 0 ≤ a ∧ a ≤ 18 := by omega
    have b4 : 0 ≤ b ∧ b ≤ 20 := by omega
    have hp : pairZ false p = (1792 + a, 1824 + b) := by
      have := pair_two (k := false) (p := p) (a := 1792 + (p - 12288) / 588) (b := 1824 + (p - 12288) / 28 % 21) (by
        unfold partsZ
        rw [if_neg (by omega), if_neg (by omega), if_neg (by omega), if_neg (by omega), if_pos h, if_neg (by omega)])
      rw [this, hq, hb]
      have e : (p - 12288) / 588 = a := by omega
      rw [e]
    have HP := hide hp
    clear hp hq hr ha hb
    go_enter Tryz.func103, Tryz.ntmps103
    go_wp2
    go_returns
    exact ⟨ret_pair (unhide HP), _, rfl⟩
end Go.Proofs.YtamigjljgepfiaaGreatDoor
/- The parts of a point, as the program tells them: all rows. -/
namespace Go.Proofs.YtamigjljgepfiaaGreatDoor
open Go.RowKit
def pairL (p : Int) : List Int → Int × Int
  | [] => (p, -1)
  | [a] => (a, -1)
  | a :: b :: _ => (a, b)
theorem pairZ_L (k : Bool) (p : Int) : pairZ k p = pairL p (partsZ k p) := by
  unfold pairZ pairL
  split <;> simp_all
set_option maxHeartbeats 2000000 in
theorem looseI (p : Int) (w : World) : Calls Tryz.prog 104 #[.int .i64 p] w fun e w' => e = .returned (pairV (pairL p (wideZ p))) ∧ ∃ o, w' = w.alloc o := by
  by_cases c1 : 9984 ≤ p ∧ p ≤ 10009
  · have HP : Hid (pairL p (wideZ p) = (65 + p - 9984, -1)) := hide (by unfold wideZ; rw [if_pos c1]; show (p - 9984 + 65, (-1 : Int)) = _; congr 1; omega)
    go_enter Tryz.func104, Tryz.ntmps104
    go_wp2_with (first | (go_at_call 14; refine (within_t _ _ _ _ (by omega)).mono ?_; rintro e w' ⟨rfl, rfl⟩) | (go_at_call 14; refine (within_f _ _ _ _ (by omega)).mono ?_; rintro e w' ⟨rfl, rfl⟩))
    go_returns
    exact ⟨ret_pair (unhide HP), _, rfl⟩
  by_cases c2 : 10016 ≤ p ∧ p ≤ 10025
  · have HP : Hid (pairL p (wideZ p) = (48 + p - 10016, -1)) := hide (by unfold wideZ; rw [if_neg c1, if_pos c2]; show (p - 10016 + 48, (-1 : Int)) = _; congr 1; omega)
    go_enter Tryz.func104, Tryz.ntmps104
    go_wp2_with (first | (go_at_call 14; refine (within_t _ _ _ _ (by omega)).mono ?_; rintro e w' ⟨rfl, rfl⟩) | (go_at_call 14; refine (within_f _ _ _ _ (by omega)).mono ?_; rintro e w' ⟨rfl, rfl⟩))
    go_returns
    exact ⟨ret_pair (unhide HP), _, rfl⟩
  by_cases d1 : p = 8064
  · subst d1
    go_enter Tryz.func104, Tryz.ntmps104
    go_wp2_with (go_at_call 14; refine (within_f _ _ _ _ (by omega)).mono ?_; rintro e w' ⟨rfl, rfl⟩)
    go_returns
    exact ⟨ret_pair (by decide), _, rfl⟩
  by_cases d2 : p = 160
  · subst d2
    go_enter Tryz.func104, Tryz.ntmps104
    go_wp2_with (go_at_call 14; refine (within_f _ _ _ _ (by omega)).mono ?_; rintro e w' ⟨rfl, rfl⟩)
    go_returns
    exact ⟨ret_pair (by decide), _, rfl⟩
  by_cases d3 : p = 10032
  · subst d3
    go_enter Tryz.func104, Tryz.ntmps104
    go_wp2_with (go_at_call 14; refine (within_f _ _ _ _ (by omega)).mono ?_; rintro e w' ⟨rfl, rfl⟩)
    go_returns
    exact ⟨ret_pair (by decide), _, rfl⟩
  by_cases d4 : p = 10033
  · subst d4
    go_enter Tryz.func104, Tryz.ntmps104
    go_wp2_with (go_at_call 14; refine (within_f _ _ _ _ (by omega)).mono ?_; rintro e w' ⟨rfl, rfl⟩)
    go_returns
    exact ⟨ret_pair (by decide), _, rfl⟩
  by_cases d5 : p = 10034
  · subst d5
    go_enter Tryz.func104, Tryz.ntmps104
    go_wp2_with (go_at_call 14; refine (within_f _ _ _ _ (by omega)).mono ?_; rintro e w' ⟨rfl, rfl⟩)
    go_returns
    exact ⟨ret_pair (by decide), _, rfl⟩
  by_cases d6 : p = 10035
  · subst d6
    go_enter Tryz.func104, Tryz.ntmps104
    go_wp2_with (go_at_call 14; refine (within_f _ _ _ _ (by omega)).mono ?_; rintro e w' ⟨rfl, rfl⟩)
    go_returns
    exact ⟨ret_pair (by decide), _, rfl⟩
  have HP : Hid (pairL p (wideZ p) = (p, -1)) := hide (by
    unfold wideZ
    rw [if_neg c1, if_neg c2, if_neg (by omega), if_neg d3, if_neg d4, if_neg d5, if_neg d6]
    rfl)
  have t1 : (p == 8064) = false := by simpa using d1
  have t2 : (p == 160) = false := by simpa using d2
  have t3 : (p == 10032) = false := by simpa using d3
  have t4 : (p == 10033) = false := by simpa using d4
  have t5 : (p == 10034) = false := by simpa using d5
  have t6 : (p == 10035) = false := by simpa using d6
  go_enter Tryz.func104, Tryz.ntmps104
  go_wp2_with (go_at_call 14; refine (within_f _ _ _ _ (by omega)).mono ?_; rintro e w' ⟨rfl, rfl⟩)
  go_returns
  exact ⟨ret_pair (unhide HP), _, rfl⟩
theorem one_below (w : World) (o : Obj) : Below w.heap.size w (w.alloc o) := (Below.refl _ _).alloc (Nat.le_refl _) o
theorem two_below (w : World) (o o' : Obj) : Below w.heap.size w ((w.alloc o).alloc o') := (one_below w o).alloc (by simp) o'
set_option maxHeartbeats 4000000 in
set_option maxRecDepth 100000 in
theorem partsI (form p : Int) (k : Bool) (w : World) (hk : k = true ↔ form = 3 ∨ form = 4) :
    Calls Tryz.prog 79 #[.int .i64 form, .int .i64 p] w fun e w' => e = .returned (pairV (pairZ k p)) ∧ Below w.heap.size w w' := by
  by_cases c1 : 8192 ≤ p ∧ p ≤ 8607
  · obtain ⟨q, hq⟩ : ∃ q, (p - 8192) / 8 = q := ⟨_, rfl⟩
    obtain ⟨r, hr⟩ : ∃ r, (p - 8192) % 8 = r := ⟨_, rfl⟩
    have e1 : (p - 8192).tdiv 8 = q := by rw [Int.tdiv_eq_ediv_of_nonneg (by omega)]; exact hq
    have e2 : p.tmod 8 = r := by rw [Int.tmod_eq_emod_of_nonneg (by omega)]; omega
    have b1 : 0 ≤ q ∧ q ≤ 51 := by omega
    have b2 : 0 ≤ r ∧ r ≤ 7 := by omega
    have HP : Hid (pairZ k p = (letterZ q, 4096 + r)) := hide (pair_two (by unfold partsZ; rw [if_pos c1, hq, hr]))
    clear hq hr
    go_enter Tryz.func79, Tryz.ntmps79
    go_wp2_with (first | (go_at_call 14; refine (within_t _ _ _ _ (by omega)).mono ?_; rintro e w' ⟨rfl, rfl⟩) | (go_at_call 101; refine (letterI _ _ (by omega)).mono ?_; rintro e w' ⟨rfl, rfl⟩))
    go_returns
    exact ⟨ret_pair (unhide HP), one_below _ _⟩
  by_cases c2 : 8704 ≤ p ∧ p ≤ 9119
  · obtain ⟨q, hq⟩ : ∃ q, (p - 8704) / 8 = q := ⟨_, rfl⟩
    obtain ⟨r, hr⟩ : ∃ r, (p - 8704) % 8 = r := ⟨_, rfl⟩
    have e1 : (p - 8704).tdiv 8 = q := by rw [Int.tdiv_eq_ediv_of_nonneg (by omega)]; exact hq
    have e2 : p.tmod 8 = r := by rw [Int.tmod_eq_emod_of_nonneg (by omega)]; omega
    have b1 : 0 ≤ q ∧ q ≤ 51 := by omega
    have b2 : 0 ≤ r ∧ r ≤ 7 := by omega
    have HP : Hid (pairZ k p = (letterZ q, 4112 + r)) := hide (pair_two (by unfold partsZ; rw [if_neg c1, if_pos c2, hq, hr]))
    clear hq hr
    go_enter Tryz.func79, Tryz.ntmps79
    go_wp2_with (first | (go_at_call 14; refine (within_t _ _ _ _ (by omega)).mono ?_; rintro e w' ⟨rfl, rfl⟩) | (go_at_call 14; refine (within_f _ _ _ _ (by omega)).mono ?_; rintro e w' ⟨rfl, rfl⟩) | (go_at_call 101; refine (letterI _ _ (by omega)).mono ?_; rintro e w' ⟨rfl, rfl⟩))
    go_returns
    exact ⟨ret_pair (unhide HP), one_below _ _⟩
  by_cases c3 : 9216 ≤ p ∧ p ≤ 9631
  · have HP : Hid (pairZ k p = (p - 512, 4096)) := hide (pair_two (by unfold partsZ; rw [if_neg c1, if_neg c2, if_pos c3]))
    go_enter Tryz.func79, Tryz.ntmps79
    go_wp2_with (first | (go_at_call 14; refine (within_t _ _ _ _ (by omega)).mono ?_; rintro e w' ⟨rfl, rfl⟩) | (go_at_call 14; refine (within_f _ _ _ _ (by omega)).mono ?_; rintro e w' ⟨rfl, rfl⟩))
    go_returns
    exact ⟨ret_pair (unhide HP), one_below _ _⟩
  by_cases c4 : 9728 ≤ p ∧ p ≤ 9753
  · have HP : Hid (pairZ k p = (65 + p - 9728, -1)) := hide (by
      rw [pair_one (a := p - 9728 + 65) (by unfold partsZ; rw [if_neg c1, if_neg c2, if_neg c3, if_pos c4])]
      congr 1
      omega)
    go_enter Tryz.func79, Tryz.ntmps79
    go_wp2_with (first | (go_at_call 14; refine (within_t _ _ _ _ (by omega)).mono ?_; rintro e w' ⟨rfl, rfl⟩) | (go_at_call 14; refine (within_f _ _ _ _ (by omega)).mono ?_; rintro e w' ⟨rfl, rfl⟩))
    go_returns
    exact ⟨ret_pair (unhide HP), one_below _ _⟩
  by_cases c5 : 12288 ≤ p ∧ p ≤ 23459
  · have hz : pairZ false p = pairZ k p := by
      rw [pairZ_L, pairZ_L]
      unfold partsZ
      rw [if_neg c1, if_neg c2, if_neg c3, if_neg c4, if_pos c5, if_neg c1, if_neg c2, if_neg c3, if_neg c4, if_pos c5]
    have SY := hide (fun W => syllableI p W c5)
    rw [hz] at SY
    generalize pairZ k p = z at *
    obtain ⟨za, zb⟩ := z
    clear hz
    go_enter Tryz.func79, Tryz.ntmps79
    go_wp2_with (first | (go_at_call 102; refine (syll_t _ _ (by omega)).mono ?_; rintro e w' ⟨rfl, rfl⟩) | (go_at_call 14; refine (within_t _ _ _ _ (by omega)).mono ?_; rintro e w' ⟨rfl, rfl⟩) | (go_at_call 14; refine (within_f _ _ _ _ (by omega)).mono ?_; rintro e w' ⟨rfl, rfl⟩) | (go_at_call 103; refine ((unhide SY) _).mono ?_; rintro e w' ⟨rfl, o, rfl⟩; simp only [pairV]))
    go_returns
    exact ⟨rfl, two_below _ _ _⟩
  cases k with
  | true =>
    have hz : pairL p (wideZ p) = pairZ true p := by
      rw [pairZ_L]
      unfold partsZ
      rw [if_neg c1, if_neg c2, if_neg c3, if_neg c4, if_neg c5, if_pos rfl]
    have SY := hide (fun W => looseI p W)
    rw [hz] at SY
    generalize pairZ true p = z at *
    obtain ⟨za, zb⟩ := z
    clear hz
    have hf := hk.1 rfl
    clear hk
    rcases hf with rfl | rfl
    · go_enter Tryz.func79, Tryz.ntmps79
      go_wp2_with (first | (go_at_call 102; refine (syll_f _ _ (by omega)).mono ?_; rintro e w' ⟨rfl, rfl⟩) | (go_at_call 14; refine (within_f _ _ _ _ (by omega)).mono ?_; rintro e w' ⟨rfl, rfl⟩) | (go_at_call 104; refine ((unhide SY) _).mono ?_; rintro e w' ⟨rfl, o, rfl⟩; simp only [pairV]))
      go_returns
      exact ⟨rfl, two_below _ _ _⟩
    · go_enter Tryz.func79, Tryz.ntmps79
      go_wp2_with (first | (go_at_call 102; refine (syll_f _ _ (by omega)).mono ?_; rintro e w' ⟨rfl, rfl⟩) | (go_at_call 14; refine (within_f _ _ _ _ (by omega)).mono ?_; rintro e w' ⟨rfl, rfl⟩) | (go_at_call 104; refine ((unhide SY) _).mono ?_; rintro e w' ⟨rfl, o, rfl⟩; simp only [pairV]))
      go_returns
      exact ⟨rfl, two_below _ _ _⟩
  | false =>
    have n3 : ¬ form = 3 := fun h => by have := hk.2 (.inl h); cases this
    have n4 : ¬ form = 4 := fun h => by have := hk.2 (.inr h); cases this
    have t3 : (form == 3) = false := by simpa using n3
    have t4 : (form == 4) = false := by simpa using n4
    have HP : Hid (pairZ false p = (p, -1)) := hide (pair_none (by unfold partsZ; rw [if_neg c1, if_neg c2, if_neg c3, if_neg c4, if_neg c5, if_neg (by simp)]))
    clear hk
    go_enter Tryz.func79, Tryz.ntmps79
    go_wp2_with (first | (go_at_call 14; refine (within_f _ _ _ _ (by omega)).mono ?_; rintro e w' ⟨rfl, rfl⟩) | (go_at_call 102; refine (syll_f _ _ (by omega)).mono ?_; rintro e w' ⟨rfl, rfl⟩))
    go_returns
    exact ⟨ret_pair (unhide HP), one_below _ _⟩
end Go.Proofs.YtamigjljgepfiaaGreatDoor
/- append to a row of the call's own: the new row is where the old one was, or new. -/
namespace Go.Proofs.YtamigjljgepfiaaGreatDoor
open Go.RowKit
theorem app_blockG {P : Program} (w : World) (t ty e : TypeId) (i : TypeInfo) (z : Value) (size bytes : Nat) (ht : P.underlying t = some (.slice e)) (hi : P.info? e = some i) (hz : i.zero = some z) (hsize : i.size = size) (hby : i.bytes = bytes) (hzs : z.cells.size = size) (hsz : 0 < size)
    (base : Nat) (v : Value) (n : Nat) (xs : List Value) (hown : w.ownsRow base e size v n xs) (a : Addr) (m c : Nat) (news : List Value) (hl : news.length = m * size) (hn : ∀ j u, news[j]? = some u → w.cell? (a.add j) = some u) (h1 : ∀ u ∈ news, u.oneCell' = true)
    (h63 : n + m ≤ maxLen) (hbytes : (n + m) * bytes ≤ 140737488355328) (hbase : base ≤ w.heap.size) :
    ∃ v' w', (Builtin.append_ #[t, t] ty #[v, .slice (some a) m c]).run P w = .ok v' w' ∧ w'.ownsRow base e size v' (n + m) (xs ++ news) ∧ w.grownBy w' v.ownBlock ∧ (∀ k, v'.ownBlock = some k → v.ownBlock = some k ∨ w.heap.size ≤ k) := by
  obtain ⟨v', w', hr, ho, hg, _⟩ := run_append_own (P := P) w base t ty e i z size bytes ht hi hz hsize hby hzs hsz v n xs hown a m c news hl hn h1 h63 hbytes hbase
  refine ⟨v', w', hr, ho, hg, ?_⟩
  rcases hown.2 with ⟨rfl, rfl⟩ | ⟨g, cap, cur, rfl, hbg, hgg, hnc, hcm, hcs, htake⟩
  · obtain ⟨v2, w2, hr2, ho2, _, _⟩ := run_append_own (P := P) w w.heap.size t ty e i z size bytes ht hi hz hsize hby hzs hsz (.slice none 0 0) 0 [] (World.ownsRow_nil w _ e size) a m c news hl hn h1 h63 hbytes (Nat.le_refl _)
    have e : v' = v2 := by have := hr.symm.trans hr2; injection this
    intro k hk
    exact .inr (ho2.lt k (e ▸ hk)).1
  · by_cases hroom : n + m ≤ cap
    · have hr2 := run_append_room (P := P) w t ty e i ht hi g n cap cur hgg a m c news (by rw [hsize]; exact hl) hn h1 hroom (by rw [hsize, hl, ← Nat.add_mul, hcs]; exact Nat.mul_le_mul_right _ hroom)
      have e : v' = .slice (some ⟨g, 0, none⟩) (n + m) cap := by have := hr.symm.trans hr2; injection this
      intro k hk
      rw [e] at hk
      exact .inl hk
    · have holds : ∀ j u, xs[j]? = some u → w.cell? ((⟨g, 0, none⟩ : Addr).add j) = some u := hown.cells (g := g) rfl
      obtain ⟨v2, w2, hr2, ho2, _⟩ := run_append_arg_grows (P := P) w t ty e i z size bytes ht hi hz hsize hby hzs hsz ⟨g, 0, none⟩ n cap xs hown.1 holds a m c news hl hn (by omega) h63 hbytes
      have e : v' = v2 := by have := hr.symm.trans hr2; injection this
      intro k hk
      exact .inr (ho2.lt k (e ▸ hk)).1
theorem wpList_appG {P : Program} (w : World) {ops : Array Oper} {rest : List Oper} {o : Oper} {a : Act} {Q : Exit → Act → World → Prop} (hgd : o.guard = none) (s x : Operand) (t : TypeId)
    (ho : o.op = .call { callee := .builtin .append, args := #[s, x], argTypes := #[t, t] })
    (base : Nat) (e : TypeId) (i : TypeInfo) (z : Value) (size bytes : Nat) (ht : P.underlying t = some (.slice e)) (hi : P.info? e = some i) (hz : i.zero = some z) (hsize : i.size = size) (hby : i.bytes = bytes) (hzs : z.cells.size = size) (hsz : 0 < size)
    (v : Value) (n : Nat) (xs : List Value) (hs : a.eval s = v) (hown : w.ownsRow base e size v n xs) (ad : Addr) (m c : Nat) (news : List Value) (hx : a.eval x = .slice (some ad) m c) (hl : news.length = m * size) (hn : ∀ j u, news[j]? = some u → w.cell? (ad.add j) = some u) (h1 : ∀ u ∈ news, u.oneCell' = true)
    (h63 : n + m ≤ maxLen) (hbytes : (n + m) * bytes ≤ 140737488355328) (hbase : base ≤ w.heap.size)
    (h : ∀ v' w', w'.ownsRow base e size v' (n + m) (xs ++ news) → w.grownBy w' v.ownBlock → (∀ k, v'.ownBlock = some k → v.ownBlock = some k ∨ w.heap.size ≤ k) → wpList P ops Q rest (a.put o.dst v') w') : wpList P ops Q (o :: rest) a w := by
  refine wpList_plain hgd fun K hK => ?_
  obtain ⟨v', w', hr, h2, h3, h4⟩ := app_blockG (P := P) w t o.type e i z size bytes ht hi hz hsize hby hzs hsz base v n xs hown ad m c news hl hn h1 h63 hbytes hbase
  unfold Oper.wp execOp
  simp only [ho, resolve, invoke, builtin, Sem.run_bind, Sem.run_pure, Result.andThen_ok, List.map_toArray, List.map_cons, List.map_nil, hs, hx, hr]
  exact hK _ _ (h v' w' h2 h3 h4)
theorem step_append_own {P : Program} {ops : Array Oper} {o : Oper} {a : Act} {w : World} {K : Act → World → Prop} {Q : Exit → Act → World → Prop} {E : Prop}
    (hg : o.guard = none) (s x : Operand) (t : TypeId) (hop : o.op = Op.call { callee := Callee.builtin Builtin.append, args := #[s, x], argTypes := #[t, t] })
    (base : Nat) (e : TypeId) (i : TypeInfo) (z : Value) (size bytes : Nat) (ht : P.underlying t = some (.slice e)) (hi : P.info? e = some i) (hz : i.zero = some z)
    (hsize : i.size = size) (hby : i.bytes = bytes) (hzs : z.cells.size = size) (hsz : 0 < size)
    (v : Value) (n : Nat) (xs : List Value) (hs : a.eval s = v) (hown : w.ownsRow base e size v n xs)
    (ad : Addr) (m c : Nat) (news : List Value) (hx : a.eval x = .slice (some ad) m c) (hl : news.length = m * size) (hnews : ∀ j u, news[j]? = some u → w.cell? (ad.add j) = some u) (h1 : ∀ u ∈ news, u.oneCell' = true)
    (h63 : n + m ≤ maxLen) (hbytes : (n + m) * bytes ≤ 140737488355328) (hbase : base ≤ w.heap.size)
    (h : ∀ v' w', w'.ownsRow base e size v' (n + m) (xs ++ news) → w.grownBy w' v.ownBlock → K (a.put o.dst v') w') :
    if Region.wanted o (yielded ops a.tmps) = true then Oper.wp P o a w K Q else E := by
  have hw : Region.wanted o (yielded ops a.tmps) = true := by simp [Region.wanted, hg]
  rw [if_pos hw]
  exact wp_append_own w s x t hop base e i z size bytes ht hi hz hsize hby hzs hsz v n xs hs hown ad m c news hx hl hnews h1 h63 hbytes hbase (fun v' w' h2 h3 _ => h v' w' h2 h3)
end Go.Proofs.YtamigjljgepfiaaGreatDoor
/- A text's copy: strings.Clone answers the same bytes, by the library's contract of what it calls. -/
namespace Go.Proofs
open Go.Shelf
end Go.Proofs
namespace Go.Proofs.YtamigjljgepfiaaGreatDoor
open Go.RowKit
end Go.Proofs.YtamigjljgepfiaaGreatDoor
