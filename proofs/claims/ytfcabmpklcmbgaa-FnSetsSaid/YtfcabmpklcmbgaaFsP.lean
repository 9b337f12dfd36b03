/- Sets joined, met, taken away: right spans that have a point as the two have it. No walk. -/
import Derived.Test.YtfcabmpklcmbgaaSetS
import Derived.Test.YtfcabmpklcmbgaaSetH
namespace Go.Proofs.Ytfcabmpklcmbgaa.Fs
/-- Where the last one ends. -/
def lastE : Int → List Sp → Int
  | e, [] => e
  | _, r :: t => lastE r.2.1 t
theorem ok_app : ∀ (A B : List Sp) (e : Int), okFrom e (A ++ B) = (okFrom e A && okFrom (lastE e A) B)
  | [], B, e => by simp [okFrom, lastE]
  | r :: t, B, e => by
    show (_ && okFrom r.2.1 (t ++ B)) = ((_ && okFrom r.2.1 t) && okFrom (lastE r.2.1 t) B)
    rw [ok_app t B r.2.1]
    simp only [Bool.and_assoc]
theorem last_app : ∀ (A : List Sp) (e : Int) (r : Sp), lastE e (A ++ [r]) = r.2.1
  | [], _, _ => rfl
  | a :: t, _, r => last_app t a.2.1 r
theorem sets_ok {f : Int → Bool} : ∀ {l : List Sp} {b : Int}, SetsR f l b → b ≤ 32768 → okFrom (-1) l.reverse = true ∧ lastE (-1) l.reverse < b
  | [], b, h, _ => ⟨rfl, by have := h.1; show (-1 : Int) < b; omega⟩
  | (x, y, v) :: t, b, h, hb => by
    obtain ⟨_, h1, h2, h3, _, _, _, h7⟩ := h
    obtain ⟨k1, k2⟩ := sets_ok h7 (by omega)
    rw [List.reverse_cons, ok_app, last_app, k1]
    refine ⟨?_, h3⟩
    simp only [okFrom, Bool.and_true, Bool.true_and, Bool.and_eq_true, decide_eq_true_eq]
    exact ⟨⟨k2, h2⟩, by omega⟩
theorem sets_lt {f : Int → Bool} : ∀ {l : List Sp} {b : Int}, SetsR f l b → ∀ r ∈ l, r.2.1 < b
  | [], _, _, r, hr => by simp at hr
  | (x, y, v) :: t, b, h, r, hr => by
    obtain ⟨_, h1, h2, h3, _, _, _, h7⟩ := h
    rcases List.mem_cons.1 hr with e | e
    · rw [e]; exact h3
    · have := sets_lt h7 r e
      omega
theorem has_cons (r : Sp) (t : List Sp) (p : Int) : has (r :: t) p = ((decide (r.1 ≤ p) && decide (p ≤ r.2.1)) || has t p) := rfl
theorem has_none {t : List Sp} {p : Int} (h : ∀ r ∈ t, r.2.1 < p) : has t p = false := by
  unfold has
  rw [List.any_eq_false]
  intro r hr
  have := h r hr
  simp
  omega
theorem sets_has {f : Int → Bool} : ∀ {l : List Sp} {b : Int}, SetsR f l b → ∀ p, 0 ≤ p → p < b → has l p = f p
  | [], _, h, p, h0, h1 => by rw [h.2 p h0 h1]; rfl
  | (x, y, v) :: t, b, h, p, h0, h1 => by
    obtain ⟨_, k1, k2, k3, k4, k5, _, k7⟩ := h
    rw [has_cons]
    by_cases e1 : p < x
    · rw [decide_eq_false (show ¬ x ≤ p by omega), Bool.false_and, Bool.false_or]
      exact sets_has k7 p h0 e1
    · rw [has_none (fun r hr => by have := sets_lt k7 r hr; omega), Bool.or_false]
      by_cases e2 : p ≤ y
      · rw [k4 p (by omega) e2, decide_eq_true (show x ≤ p by omega), decide_eq_true (show p ≤ y from e2)]
        rfl
      · rw [k5 p (by omega) h1, decide_eq_false (show ¬ p ≤ y from e2), Bool.and_false]
theorem has_rev (l : List Sp) (p : Int) : has l.reverse p = has l p := by unfold has; rw [List.any_reverse]
theorem of_right {how : Nat} {A C M : List Sp} (h : SetOf how A C M) (hA : right A = true) (hC : right C = true) : SetsR (fS how A C) M.reverse 32768 := by
  rcases h with ⟨_, _, h⟩ | ⟨h, _⟩
  · exact h
  · exact absurd ⟨hA, hC⟩ h
theorem set_right {how : Nat} {A C M : List Sp} (h : SetOf how A C M) (hA : right A = true) (hC : right C = true) (hl : M.length ≤ 1000) : right M = true := by
  have := (sets_ok (of_right h hA hC) (by omega)).1
  rw [List.reverse_reverse] at this
  unfold right
  rw [this, decide_eq_true hl]
  rfl
theorem set_has {how : Nat} {A C M : List Sp} (h : SetOf how A C M) (hA : right A = true) (hC : right C = true) (hl : M.length ≤ 1000) {p : Int} (h0 : 0 ≤ p) (h1 : p < 32768) : hasB M p = comb how (hasB A p) (hasB C p) := by
  have e := sets_has (of_right h hA hC) p h0 h1
  rw [has_rev] at e
  unfold hasB
  rw [set_right h hA hC hl, hA, hC, Bool.true_and, Bool.true_and, Bool.true_and, e]
  rfl
theorem set_empty {how : Nat} {A C M : List Sp} (h : SetOf how A C M) (hn : ¬ (right A = true ∧ right C = true)) : M = [] := by
  rcases h with ⟨a, b, _⟩ | ⟨_, h⟩
  · exact absurd ⟨a, b⟩ hn
  · exact h
theorem set_turn {how : Nat} {A C M N : List Sp} (hw : how = 0 ∨ how = 1) (h : SetOf how A C M) (h' : SetOf how C A N) : N = M := by
  have e : fS how C A = fS how A C := by
    funext p
    unfold fS comb
    rcases hw with rfl | rfl
    · simp [Bool.or_comm]
    · simp [Bool.and_comm]
  refine setOf_one (how := how) (A := A) (C := C) ?_ h
  rcases h' with ⟨a, b, k⟩ | ⟨a, k⟩
  · rw [e] at k
    exact .inl ⟨b, a, k⟩
  · exact .inr ⟨fun q => a ⟨q.2, q.1⟩, k⟩
end Go.Proofs.Ytfcabmpklcmbgaa.Fs
