/- What the spans of all points tell; digits; mirrors. No Go in sight. -/
import Derived.Test.YtbkeaoplncaihaaDoorKdS
import Derived.Test.YtbkeaoplncaihaaDoorSetH
import Derived.Test.YtbkeaoplncaihaaDoorKdM
import Derived.Test.YtbkeaoplncaihaaDoorKdD
namespace Go.Proofs.YtbkeaoplncaihaaDoor.Kd
open Go.RowKit
set_option linter.unusedVariables false
theorem okFrom_snoc : ∀ (A : List Sp) (e : Int) (r : Sp), okFrom e A = true → (∀ x ∈ A, x.2.1 < r.1) → e < r.1 → r.1 ≤ r.2.1 → r.2.1 ≤ 32767 → okFrom e (A ++ [r]) = true
  | [], e, r, _, _, h1, h2, h3 => by
    show (decide (e < r.1) && decide (r.1 ≤ r.2.1) && decide (r.2.1 ≤ 32767) && true) = true
    rw [decide_eq_true h1, decide_eq_true h2, decide_eq_true h3]
    rfl
  | a :: t, e, r, h, hx, h1, h2, h3 => by
    have h' : (decide (e < a.1) && decide (a.1 ≤ a.2.1) && decide (a.2.1 ≤ 32767) && okFrom a.2.1 t) = true := h
    rw [Bool.and_eq_true] at h'
    show (decide (e < a.1) && decide (a.1 ≤ a.2.1) && decide (a.2.1 ≤ 32767) && okFrom a.2.1 (t ++ [r])) = true
    rw [h'.1, okFrom_snoc t a.2.1 r h'.2 (fun x hx' => hx x (by simp [hx'])) (hx a (by simp)) h2 h3]
    rfl
theorem runs_all {f : Int → Int} : ∀ (l : List Sp) (b : Int), RunsR f l b → ∀ r ∈ l, 0 ≤ r.1 ∧ r.1 ≤ r.2.1 ∧ r.2.1 < b ∧ ∀ p, r.1 ≤ p → p ≤ r.2.1 → f p = r.2.2
  | [], _, _, r, hr => by simp at hr
  | (x, y, v) :: t, b, h, r, hr => by
    obtain ⟨h1, h2, h3, h4, _⟩ := h
    have h0 := (runs_nonneg f t x h4).1
    rcases List.mem_cons.1 hr with rfl | hr
    · exact ⟨h0, h2, by simp only; omega, h3⟩
    · obtain ⟨a, c, d, e⟩ := runs_all t x h4 r hr
      exact ⟨a, c, by omega, e⟩
theorem runs_ok {f : Int → Int} : ∀ (l : List Sp) (b : Int), RunsR f l b → b ≤ 32768 → okFrom (-1) l.reverse = true
  | [], _, _, _ => rfl
  | (x, y, v) :: t, b, h, hb => by
    obtain ⟨h1, h2, h3, h4, _⟩ := h
    have h0 := (runs_nonneg f t x h4).1
    rw [List.reverse_cons]
    refine okFrom_snoc _ _ _ (runs_ok t x h4 (by omega)) (fun r hr => ?_) (by simp only; omega) h2 (by simp only; omega)
    exact (runs_all t x h4 r (List.mem_reverse.1 hr)).2.2.1
theorem runs_has {f : Int → Int} : ∀ (l : List Sp) (b : Int), RunsR f l b → ∀ p, 0 ≤ p → p < b → ∃ r ∈ l, r.1 ≤ p ∧ p ≤ r.2.1
  | [], b, h, p, h0, h1 => by
    have : b = 0 := h
    omega
  | (x, y, v) :: t, b, h, p, h0, h1 => by
    obtain ⟨g1, g2, g3, g4, _⟩ := h
    by_cases hx : x ≤ p
    · exact ⟨(x, y, v), by simp, hx, by simp only; omega⟩
    · obtain ⟨r, hr, a⟩ := runs_has t x g4 p h0 (by omega)
      exact ⟨r, by simp [hr], a⟩
theorem spans_has {k p : Int} {L : List Sp} (h : RunsR (valW k) L.reverse 32768) (hl : L.length ≤ 128) (h0 : 0 ≤ p) (h1 : p ≤ 32767) : hasB L p = true := by
  have hr : right L = true := by
    have := runs_ok _ _ h (by omega)
    rw [List.reverse_reverse] at this
    unfold right
    rw [this, decide_eq_true (by omega)]
    rfl
  obtain ⟨r, hr2, a, b⟩ := runs_has _ _ h p h0 (by omega)
  unfold hasB
  rw [hr, Bool.true_and]
  refine List.any_eq_true.2 ⟨r, List.mem_reverse.1 hr2, ?_⟩
  rw [decide_eq_true a, decide_eq_true b]
  rfl
theorem spans_tell {k : Int} {L : List Sp} (h : RunsR (valW k) L.reverse 32768) (i : Nat) (hi : i < L.length) (p : Int) (h1 : (gx L i).1 ≤ p) (h2 : p ≤ (gx L i).2.1) : (gx L i).2.2 = valW k p := by
  have hm : gx L i ∈ L.reverse := by
    rw [List.mem_reverse]
    have : gx L i = L[i] := by simp [gx, List.getD, hi]
    rw [this]
    exact List.getElem_mem hi
  exact ((runs_all _ _ h _ hm).2.2.2 p h1 h2).symm
/-- The four numbers of a point. -/
def own4 (p : Int) : List Int := [catI p, scrI p, clsOf p, ageOf (catI p) p]
theorem own_val (p : Int) (k : Nat) (h1 : 1 ≤ k) (h4 : k ≤ 4) : nth (own4 p) (k - 1) = valW (k : Int) p := by
  have f1 := (fine p).1
  have f2 := (fine p).2.1
  obtain rfl | rfl | rfl | rfl : k = 1 ∨ k = 2 ∨ k = 3 ∨ k = 4 := by omega
  · show catI p = (known p).1
    exact f1
  · show scrI p = (known p).2
    exact f2
  · rfl
  · show ageOf (catI p) p = ageOf (known p).1 p
    rw [f1]
theorem dig_cat (p : Int) : (digOf p ≤ 9) ∧ ((catI p = 8 ∧ 0 ≤ digOf p) ∨ (catI p ≠ 8 ∧ digOf p < 0)) := by
  unfold digOf
  by_cases h : catI p = 8
  · rw [if_pos h]
    exact ⟨by omega, .inl ⟨h, by omega⟩⟩
  · rw [if_neg h]
    exact ⟨by omega, .inr ⟨h, by omega⟩⟩
theorem mir_back {p : Int} (h0 : 0 ≤ p) (h1 : p < 55296) : mir (mir p) = p := by
  by_cases h : Not8 p
  · have hp : isPt p = true := by simp [isPt]; omega
    rw [mir_pt p h hp, mir_pt p h hp]
  · have h' : p = 40 ∨ p = 41 ∨ p = 60 ∨ p = 62 ∨ p = 91 ∨ p = 93 ∨ p = 123 ∨ p = 125 := by unfold Not8 at h; omega
    rcases h' with rfl | rfl | rfl | rfl | rfl | rfl | rfl | rfl <;> decide
end Go.Proofs.YtbkeaoplncaihaaDoor.Kd
