/- Stretches of points of one value: there is one list of them. No Go in sight. -/
import Derived.Test.YtbkeaoplncaihaaDoorPlain
namespace Go.Proofs.YtbkeaoplncaihaaDoor.Kd
abbrev Sp := Int × Int × Int
/-- No span ahead has this value. -/
def headNe (t : List Sp) (v : Int) : Prop := ∀ r ∈ t.head?, r.2.2 ≠ v
/-- The spans, the last one first, are the longest stretches of one value of the points 0 .. b - 1. -/
def RunsR (f : Int → Int) : List Sp → Int → Prop
  | [], b => b = 0
  | (x, y, v) :: t, b => y + 1 = b ∧ x ≤ y ∧ (∀ p, x ≤ p → p ≤ y → f p = v) ∧ RunsR f t x ∧ headNe t v
theorem runs_nonneg (f : Int → Int) : ∀ (l : List Sp) (b : Int), RunsR f l b → 0 ≤ b ∧ (l = [] → b = 0)
  | [], b, h => by
    have h' : b = 0 := h
    omega
  | (x, y, v) :: t, b, h => by
    obtain ⟨h1, h2, _, h4, _⟩ := h
    have := (runs_nonneg f t x h4).1
    exact ⟨by omega, fun e => by cases e⟩
theorem runs_one (f : Int → Int) : ∀ (l l' : List Sp) (b : Int), RunsR f l b → RunsR f l' b → l = l'
  | [], [], _, _, _ => rfl
  | [], (x, y, v) :: t, b, h, h' => by
    have hb : b = 0 := h
    obtain ⟨h1, h2, _, h4, _⟩ := h'
    have := (runs_nonneg f t x h4).1
    omega
  | (x, y, v) :: t, [], b, h, h' => by
    have hb : b = 0 := h'
    obtain ⟨h1, h2, _, h4, _⟩ := h
    have := (runs_nonneg f t x h4).1
    omega
  | (x, y, v) :: t, (x', y', v') :: t', b, h, h' => by
    obtain ⟨h1, h2, h3, h4, h5⟩ := h
    obtain ⟨k1, k2, k3, k4, k5⟩ := h'
    have hy : y = y' := by omega
    subst hy
    have hv : v = v' := by rw [← h3 y h2 (Int.le_refl _), ← k3 y k2 (Int.le_refl _)]
    subst hv
    have gap : ∀ (a c : Int) (s : List Sp), a < c → c ≤ y → 0 ≤ a → (∀ p, a ≤ p → p ≤ y → f p = v) → RunsR f s c → headNe s v → False := by
      intro a c s hac hcy ha hf hs hn
      match s, hs, hn with
      | [], hs, _ => have : c = 0 := hs; omega
      | (p, q, u) :: r, hs, hn =>
        obtain ⟨s1, s2, s3, _, _⟩ := hs
        have hu : u = v := by rw [← s3 q s2 (Int.le_refl _), hf q (by omega) (by omega)]
        exact hn (p, q, u) (by simp) hu
    have hx : x = x' := by
      by_cases e : x < x'
      · exact (gap x x' t' e k2 (runs_nonneg f t x h4).1 h3 k4 k5).elim
      · by_cases e' : x' < x
        · exact (gap x' x t e' h2 (runs_nonneg f t' x' k4).1 k3 h4 h5).elim
        · omega
    subst hx
    rw [runs_one f t t' x h4 k4]
/-- One more span. -/
theorem runs_new {f : Int → Int} {t : List Sp} {x y v : Int} (h : RunsR f t x) (hxy : x ≤ y) (hv : ∀ p, x ≤ p → p ≤ y → f p = v) (hn : headNe t v) : RunsR f ((x, y, v) :: t) (y + 1) :=
  ⟨rfl, hxy, hv, h, hn⟩
/-- The last span goes on. -/
theorem runs_on {f : Int → Int} {t : List Sp} {x y v b : Int} (h : RunsR f ((x, y, v) :: t) b) (y' : Int) (hy : b ≤ y') (hv : ∀ p, b ≤ p → p ≤ y' → f p = v) : RunsR f ((x, y', v) :: t) (y' + 1) := by
  obtain ⟨h1, h2, h3, h4, h5⟩ := h
  refine ⟨rfl, by omega, fun p hp1 hp2 => ?_, h4, h5⟩
  by_cases e : p ≤ y
  · exact h3 p hp1 e
  · exact hv p (by omega) hp2
theorem headNe_nil (v : Int) : headNe [] v := fun r h => by simp at h
theorem headNe_cons (r : Sp) (t : List Sp) (v : Int) (h : r.2.2 ≠ v) : headNe (r :: t) v := by
  intro r' h'
  simp at h'
  rw [← h']; exact h
def ageOf (c p : Int) : Int := if c = 0 then 0 else if p < 4096 then 1 else if p < 12288 then 2 else if p < 24576 then 3 else 4
def clsOf (p : Int) : Int := if p = 1584 then 9 else if p = 1585 then 7 else if p < 4096 then 0 else if p < 4112 then 230 else if p < 4128 then 220 else if p < 4136 then 202 else if p < 4144 then 1 else if p < 4152 then 232 else 0
def valW (w p : Int) : Int := if w = 1 then (known p).1 else if w = 2 then (known p).2 else if w = 3 then clsOf p else ageOf (known p).1 p
/-- A number at which something may change does not lie within lo + 1 .. hi. -/
def noCut (c lo hi : Int) : Bool := decide (c ≤ lo) || decide (hi < c)
def okK (lo hi : Int) : Bool :=
  ((decide (hi < 512) || decide (1280 ≤ lo)) && (decide (hi < 8192) || decide (9728 ≤ lo)) && unif spc lo hi) ||
  (decide (512 ≤ lo) && decide (hi < 1280) && decide (lo / 256 = hi / 256) && unif csd (lo % 256) (hi % 256)) ||
  (decide (8192 ≤ lo) && decide (hi < 9728) && decide (lo / 512 = hi / 512) && (decide (hi % 512 < 208) || (decide (208 ≤ lo % 512) && decide (hi % 512 < 416)) || decide (416 ≤ lo % 512)))
def okS (lo hi : Int) : Bool :=
  decide (lo ≤ hi) && okK lo hi && (([1584, 1585, 1586, 4096, 4112, 4128, 4136, 4144, 4152, 4160, 12288, 24576] : List Int).all fun c => noCut c lo hi)
theorem known_main (p : Int) (h1 : ¬ (512 ≤ p ∧ p < 1280)) (h2 : ¬ (8192 ≤ p ∧ p < 9728)) : known p = ((find spc p).2.2.1, (find spc p).2.2.2) := by
  unfold known; rw [if_neg h1, if_neg h2]
theorem known_csd (p : Int) (h : 512 ≤ p ∧ p < 1280) : known p = if (find csd (p % 256)).2.2.1 = 0 then (0, 0) else ((find csd (p % 256)).2.2.1, p / 256) := by
  unfold known; rw [if_pos h]
theorem known_mark (p : Int) (h2 : 8192 ≤ p ∧ p < 9728) : known p = if 416 ≤ p % 512 then (0, 0) else if p % 512 < 208 then (4, 1) else (5, 1) := by
  unfold known; rw [if_neg (by omega), if_pos h2]
theorem known_const (lo hi p : Int) (h : okK lo hi = true) (h1 : lo ≤ p) (h2 : p ≤ hi) : known p = known lo := by
  simp only [okK, Bool.or_eq_true, Bool.and_eq_true, decide_eq_true_eq] at h
  rcases h with (⟨⟨a1, a2⟩, u⟩ | ⟨⟨⟨a1, a2⟩, a3⟩, u⟩) | ⟨⟨⟨a1, a2⟩, a3⟩, u⟩
  · rw [known_main p (by omega) (by omega), known_main lo (by omega) (by omega), find_const spc lo hi p h1 h2 u]
  · have c := find_const csd (lo % 256) (hi % 256) (p % 256) (by omega) (by omega) u
    have d : p / 256 = lo / 256 := by omega
    rw [known_csd p (by omega), known_csd lo (by omega), c, d]
  · rw [known_mark p (by omega), known_mark lo (by omega)]
    have d : p / 512 = lo / 512 := by omega
    rcases u with (u | ⟨u1, u2⟩) | u
    · have e1 : ¬ 416 ≤ p % 512 := by omega
      have e2 : ¬ 416 ≤ lo % 512 := by omega
      have e3 : p % 512 < 208 := by omega
      have e4 : lo % 512 < 208 := by omega
      rw [if_neg e1, if_pos e3, if_neg e2, if_pos e4]
    · have e1 : ¬ 416 ≤ p % 512 := by omega
      have e2 : ¬ 416 ≤ lo % 512 := by omega
      have e3 : ¬ p % 512 < 208 := by omega
      have e4 : ¬ lo % 512 < 208 := by omega
      rw [if_neg e1, if_neg e3, if_neg e2, if_neg e4]
    · have e1 : 416 ≤ p % 512 := by omega
      rw [if_pos e1, if_pos u]
theorem okS_const (lo hi : Int) (h : okS lo hi = true) (w p : Int) (h1 : lo ≤ p) (h2 : p ≤ hi) : valW w p = valW w lo := by
  simp only [okS, Bool.and_eq_true, List.all_cons, List.all_nil, noCut, Bool.or_eq_true, decide_eq_true_eq, and_true] at h
  obtain ⟨⟨h0, hk⟩, c1, c2, c3, c4, c5, c6, c7, c8, c9, c10, c11, c12⟩ := h
  have e := known_const lo hi p hk h1 h2
  have q1 : (p = 1584) = (lo = 1584) := propext (by omega)
  have q2 : (p = 1585) = (lo = 1585) := propext (by omega)
  have r4096 : (p < 4096) = (lo < 4096) := propext (by clear q1 q2; omega)
  have r4112 : (p < 4112) = (lo < 4112) := propext (by clear q1 q2; omega)
  have r4128 : (p < 4128) = (lo < 4128) := propext (by clear q1 q2; omega)
  have r4136 : (p < 4136) = (lo < 4136) := propext (by clear q1 q2; omega)
  have r4144 : (p < 4144) = (lo < 4144) := propext (by clear q1 q2; omega)
  have r4152 : (p < 4152) = (lo < 4152) := propext (by clear q1 q2; omega)
  have r12288 : (p < 12288) = (lo < 12288) := propext (by clear q1 q2; omega)
  have r24576 : (p < 24576) = (lo < 24576) := propext (by clear q1 q2; omega)
  have ec : clsOf p = clsOf lo := by
    unfold clsOf
    simp only [q1, q2, r4096, r4112, r4128, r4136, r4144, r4152]
  have ea : ∀ c, ageOf c p = ageOf c lo := by
    intro c
    unfold ageOf
    simp only [r4096, r12288, r24576]
  unfold valW
  rw [e, ec, ea]
end Go.Proofs.YtbkeaoplncaihaaDoor.Kd
