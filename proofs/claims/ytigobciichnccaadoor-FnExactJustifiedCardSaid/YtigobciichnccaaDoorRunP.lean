/- Stretches of points of one value: there is one list of them. No Go in sight. -/
import Derived.WalkKit
namespace Go.Proofs.YtigobciichnccaaDoor
abbrev Sp := Int × Int × Int
/-- No span ahead has this value. -/
def headNe (t : List Sp) (v : Int) : Prop := ∀ r ∈ t.head?, r.2.2 ≠ v
/-- The spans, the last one first, are the longest stretches of one value of the points 0 .. b - 1. -/
def RunsR (f : Int → Int) : List Sp → Int → Prop
  | [], b => b = 0
  | (x, y, v) :: t, b => y + 1 = b ∧ x ≤ y ∧ (∀ p, x ≤ p → p ≤ y → f p = v) ∧ RunsR f t x ∧ headNe t v
theorem runs_nonneg (f : Int → Int) : ∀ (l : List Sp) (b : Int), RunsR f l b → 0 ≤ b ∧ (l = [] → b = 0)
  | [], b, h => by
    have h' : b = 0 := h
    omega
  | (x, y, v) :: t, b, h => by
    obtain ⟨h1, h2, _, h4, _⟩ := h
    have := (runs_nonneg f t x h4).1
    exact ⟨by omega, fun e => by cases e⟩
theorem runs_one (f : Int → Int) : ∀ (l l' : List Sp) (b : Int), RunsR f l b → RunsR f l' b → l = l'
  | [], [], _, _, _ => rfl
  | [], (x, y, v) :: t, b, h, h' => by
    have hb : b = 0 := h
    obtain ⟨h1, h2, _, h4, _⟩ := h'
    have := (runs_nonneg f t x h4).1
    omega
  | (x, y, v) :: t, [], b, h, h' => by
    have hb : b = 0 := h'
    obtain ⟨h1, h2, _, h4, _⟩ := h
    have := (runs_nonneg f t x h4).1
    omega
  | (x, y, v) :: t, (x', y', v') :: t', b, h, h' => by
    obtain ⟨h1, h2, h3, h4, h5⟩ := h
    obtain ⟨k1, k2, k3, k4, k5⟩ := h'
    have hy : y = y' := by omega
    subst hy
    have hv : v = v' := by rw [← h3 y h2 (Int.le_refl _), ← k3 y k2 (Int.le_refl _)]
    subst hv
    have gap : ∀ (a c : Int) (s : List Sp), a < c → c ≤ y → 0 ≤ a → (∀ p, a ≤ p → p ≤ y → f p = v) → RunsR f s c → headNe s v → False := by
      intro a c s hac hcy ha hf hs hn
      match s, hs, hn with
      | [], hs, _ => have : c = 0 := hs; omega
      | (p, q, u) :: r, hs, hn =>
        obtain ⟨s1, s2, s3, _, _⟩ := hs
        have hu : u = v := by rw [← s3 q s2 (Int.le_refl _), hf q (by omega) (by omega)]
        exact hn (p, q, u) (by simp) hu
    have hx : x = x' := by
      by_cases e : x < x'
      · exact (gap x x' t' e k2 (runs_nonneg f t x h4).1 h3 k4 k5).elim
      · by_cases e' : x' < x
        · exact (gap x' x t e' h2 (runs_nonneg f t' x' k4).1 k3 h4 h5).elim
        · omega
    subst hx
    rw [runs_one f t t' x h4 k4]
/-- One more span. -/
theorem runs_new {f : Int → Int} {t : List Sp} {x y v : Int} (h : RunsR f t x) (hxy : x ≤ y) (hv : ∀ p, x ≤ p → p ≤ y → f p = v) (hn : headNe t v) : RunsR f ((x, y, v) :: t) (y + 1) :=
  ⟨rfl, hxy, hv, h, hn⟩
/-- The last span goes on. -/
theorem runs_on {f : Int → Int} {t : List Sp} {x y v b : Int} (h : RunsR f ((x, y, v) :: t) b) (y' : Int) (hy : b ≤ y') (hv : ∀ p, b ≤ p → p ≤ y' → f p = v) : RunsR f ((x, y', v) :: t) (y' + 1) := by
  obtain ⟨h1, h2, h3, h4, h5⟩ := h
  refine ⟨rfl, by omega, fun p hp1 hp2 => ?_, h4, h5⟩
  by_cases e : p ≤ y
  · exact h3 p hp1 e
  · exact hv p (by omega) hp2
theorem headNe_nil (v : Int) : headNe [] v := fun r h => by simp at h
theorem headNe_cons (r : Sp) (t : List Sp) (v : Int) (h : r.2.2 ≠ v) : headNe (r :: t) v := by
  intro r' h'
  simp at h'
  rw [← h']; exact h
end Go.Proofs.YtigobciichnccaaDoor
