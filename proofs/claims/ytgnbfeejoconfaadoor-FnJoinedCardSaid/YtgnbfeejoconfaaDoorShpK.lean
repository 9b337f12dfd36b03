/- A letter that is joined to the one behind has one there that is joined to the one ahead: of forms of points, told without memory. -/
import Derived.Test.YtgnbfeejoconfaaDoorShpP
namespace Go.Proofs.YtgnbfeejoconfaaDoor.Shp
open Go.RowKit Chr
set_option linter.unusedVariables false
/-- The point at m is the next one behind i that is not looked past. -/
structure Nxt (L : List Int) (i m : Nat) : Prop where
  lt : i < m
  past : ∀ j, i < j → j < m → jns (nth L j) < 0
  here : ¬ jns (nth L m) < 0
/-- What holds of the joints of the first k points. -/
structure Jnv (L : List Int) (k : Nat) (s : Option Nat × List Bool) : Prop where
  both : ∀ i, s.2.getD (i * 2 + 1) false = true → ∃ m, m < k ∧ Nxt L i m ∧ 2 ≤ jns (nth L m) ∧ s.2.getD (m * 2) false = true
  last : ∀ l, s.1 = some l → ∀ j, l < j → j < k → jns (nth L j) < 0
theorem jnv (L : List Int) (k : Nat) (hk : k ≤ L.length) : Jnv L k (jst L k) := by
  induction k with
  | zero =>
    refine ⟨fun i h => ?_, fun l h => by simp [jst] at h⟩
    rw [(jok L 0 (Nat.zero_le _)).new _ (by omega)] at h
    cases h
  | succ k ih =>
    have I := ih (by omega)
    have K := jok L k (by omega)
    have wk : ∀ i, (jst L k).2.getD (i * 2 + 1) false = true → ∃ m, m < k + 1 ∧ Nxt L i m ∧ 2 ≤ jns (nth L m) ∧ (jst L k).2.getD (m * 2) false = true := fun i h => by
      obtain ⟨m, h1, h2, h3, h4⟩ := I.both i h
      exact ⟨m, by omega, h2, h3, h4⟩
    by_cases h : jns (nth L k) < 0
    · rw [jst_pass h]
      refine ⟨wk, fun l e j h1 h2 => ?_⟩
      by_cases e2 : j = k
      · rw [e2]; exact h
      · exact I.last l e j h1 (by omega)
    · cases e : (jst L k).1 with
      | none =>
        rw [jst_first h e]
        exact ⟨wk, fun l e j h1 h2 => by cases e; omega⟩
      | some l =>
        have hl := (K.lt l e).1
        cases hj : jnd (nth L l) (nth L k)
        · rw [jst_loose h e hj]
          exact ⟨wk, fun l e j h1 h2 => by cases e; omega⟩
        · rw [jst_join h e hj]
          have g : ∀ j, (((jst L k).2.set (l * 2 + 1) true).set (k * 2) true).getD j false = if j = k * 2 then true else if j = l * 2 + 1 then true else (jst L k).2.getD j false := fun j => by
            rw [getD_set _ _ _ _ (by simp [K.len]; omega), getD_set _ _ _ _ (by rw [K.len]; omega)]
          refine ⟨fun i hi => ?_, fun l e j h1 h2 => by cases e; omega⟩
          dsimp only at hi ⊢
          by_cases el : i = l
          · subst el
            have h2 : 2 ≤ jns (nth L k) := by
              unfold jnd at hj
              simp at hj
              exact hj.2
            exact ⟨k, by omega, ⟨hl, fun j h1 h2 => I.last i e j h1 h2, h⟩, h2, by rw [g, if_pos rfl]⟩
          · rw [g, if_neg (by omega), if_neg (by omega)] at hi
            obtain ⟨m, h1, h2, h3, h4⟩ := wk i hi
            refine ⟨m, h1, h2, h3, ?_⟩
            rw [g]
            split
            · rfl
            · split
              · rfl
              · exact h4
theorem frm_behind (a b : Bool) (h : frm a b = 1 ∨ frm a b = 2) : b = true := by cases a <;> cases b <;> simp [frm] at h ⊢
theorem frm_ahead (b : Bool) : frm true b = 2 ∨ frm true b = 3 := by cases b <;> simp [frm]
theorem jns_two (p : Int) (h : 2 ≤ jns p) : p = 7936 ∨ jlt p = true := by
  rcases jns_way p with ⟨_, e⟩ | ⟨_, e2, e⟩ | ⟨_, _, _, e⟩ | ⟨_, _, e2, _⟩
  · omega
  · exact .inl (by simpa using e2)
  · omega
  · exact .inr e2
/-- What FnJoined asks. -/
theorem joined (L : List Int) (i : Nat) (hi : i < L.length) (h : nth (frs L) i = 1 ∨ nth (frs L) i = 2) :
    ∃ m, m < L.length ∧ Nxt L i m ∧ (nth (frs L) m = 2 ∨ nth (frs L) m = 3 ∨ nth L m = 7936) := by
  unfold frs at h ⊢
  rw [fms_at _ _ _ hi] at h
  have J := jnv L L.length (Nat.le_refl _)
  by_cases q : jlt (nth L i) = true
  · rw [if_pos q] at h
    obtain ⟨m, h1, h2, h3, h4⟩ := J.both i (frm_behind _ _ h)
    refine ⟨m, h1, h2, ?_⟩
    rcases jns_two _ h3 with e | e
    · exact .inr (.inr e)
    · rw [fms_at _ _ _ h1, if_pos e, h4]
      rcases frm_ahead ((jst L L.length).2.getD (m * 2 + 1) false) with e2 | e2
      · exact .inl e2
      · exact .inr (.inl e2)
  · rw [if_neg q] at h
    omega
end Go.Proofs.YtgnbfeejoconfaaDoor.Shp
