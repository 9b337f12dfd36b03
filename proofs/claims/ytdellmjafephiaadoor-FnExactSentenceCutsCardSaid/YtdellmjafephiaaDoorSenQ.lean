/- The row of cuts that the specification fills, in plain numbers. No Go in sight. -/
import Derived.Test.YtdellmjafephiaaDoorSenP
namespace Go.Proofs.YtdellmjafephiaaDoor
namespace Sen
def InvL (L : List Int) (i : Nat) (C : List Bool) : Prop := C.length = L.length + 1 ∧ C.getD 0 false = true ∧ C.getD L.length false = true ∧
  ∀ t, 0 < t → t < L.length → Chr.charS L t = true → C.getD t false = ((decide (t ≤ i + 1) && lov (at0 L (t - 1)) (at0 L t)) || (cah (sst L t) (at0 L t) && decide (bg L t < i)))
theorem getD_set (C : List Bool) (k t : Nat) (v : Bool) (hk : k < C.length) : (C.set k v).getD t false = if t = k then v else C.getD t false := by
  rw [List.getD_eq_getElem?_getD, List.getD_eq_getElem?_getD, List.getElem?_set]
  by_cases h : k = t
  · subst h; simp [hk]
  · rw [if_neg h, if_neg (fun e => h e.symm)]
/-- Behind point i a line is over. -/
def lb (L : List Int) (i : Nat) : Bool := at0 L i == 10 || (at0 L i == 13 && (i + 1 == L.length || at0 L (i + 1) != 10))
theorem inv_line {L : List Int} {i : Nat} {C : List Bool} (h : Inv L i C) (hi : i < L.length) : InvL L i (if lb L i = true then C.set (i + 1) true else C) := by
  obtain ⟨h1, h2, h3, h4⟩ := h
  have key : i + 1 < L.length → lb L i = lov (at0 L i) (at0 L (i + 1)) := by
    intro hl
    unfold lb lov
    have : (i + 1 == L.length) = false := by simp; omega
    rw [this, Bool.false_or]
  have dec : ∀ t, t ≠ i + 1 → decide (t ≤ i + 1) = decide (t ≤ i) := fun t ht => decide_eq_decide.2 (by omega)
  split
  · rename_i hb
    refine ⟨by simp [h1], ?_, ?_, fun t ht1 ht2 hc => ?_⟩
    · rw [getD_set _ _ _ _ (by omega), if_neg (by omega)]; exact h2
    · rw [getD_set _ _ _ _ (by omega)]; split; rfl; exact h3
    · rw [getD_set _ _ _ _ (by omega)]
      by_cases e : t = i + 1
      · subst e
        rw [if_pos rfl, show i + 1 - 1 = i by omega, ← key ht2, hb]
        simp
      · rw [if_neg e, h4 t ht1 ht2 hc, dec t e]
  · rename_i hb
    refine ⟨h1, h2, h3, fun t ht1 ht2 hc => ?_⟩
    rw [h4 t ht1 ht2 hc]
    by_cases e : t = i + 1
    · subst e
      have : lov (at0 L i) (at0 L (i + 1)) = false := by rw [← key ht2]; simpa using hb
      rw [show i + 1 - 1 = i by omega, this]
      simp
    · rw [dec t e]
theorem bg_ne {L : List Int} {i t : Nat} (hc : cah (sst L t) (at0 L t) = true) (hs : ¬ (crw (at0 L i) = 1 ∧ (sst L i).1 ≠ 1)) : bg L t ≠ i := by
  intro e
  have h1 : crw (at0 L t) < (sst L t).1 := Decidable.byContradiction fun h => by rw [cah_no (by omega)] at hc; cases hc
  have h2 := bg_is (L := L) t (by omega)
  rw [e] at h2
  exact hs h2.2
theorem inv_skip {L : List Int} {i : Nat} {C : List Bool} (h : InvL L i C) (hs : ¬ (crw (at0 L i) = 1 ∧ (sst L i).1 ≠ 1)) : Inv L (i + 1) C := by
  obtain ⟨h1, h2, h3, h4⟩ := h
  refine ⟨h1, h2, h3, fun t ht1 ht2 hc => ?_⟩
  rw [h4 t ht1 ht2 hc]
  cases hk : cah (sst L t) (at0 L t)
  · simp
  · have := bg_ne hk hs
    rw [show decide (bg L t < i) = decide (bg L t < i + 1) from decide_eq_decide.2 (by omega)]
theorem inv_hit {L : List Int} {i k : Nat} {ok : Bool} {C : List Bool} (h : InvL L i C) (he : End L i k) (hs : crw (at0 L i) = 1) (hn : (sst L i).1 ≠ 1) (ho : k < L.length → Chr.cat (at0 L k) ≠ 3 → ok = okB (sst L k) (at0 L k)) : Inv L (i + 1) (if ok = true then C.set k true else C) := by
  obtain ⟨h1, h2, h3, h4⟩ := h
  have hk := he.lt
  have hkl := he.le
  have at_k : k < L.length → Chr.charS L k = true → cah (sst L k) (at0 L k) = ok := fun hl hc => by
    rw [cah_yes (he.stop hl), ho hl (no_mark (by omega) he.row hc)]
  have hb := he.bgk hs hn
  have others : ∀ t, t < L.length → t ≠ k → (cah (sst L t) (at0 L t) && decide (bg L t < i)) = (cah (sst L t) (at0 L t) && decide (bg L t < i + 1)) := by
    intro t ht hne
    cases hc : cah (sst L t) (at0 L t)
    · rfl
    · have : bg L t ≠ i := fun e => hne (he.only t ht hc e)
      rw [show decide (bg L t < i) = decide (bg L t < i + 1) from decide_eq_decide.2 (by omega)]
  have atk2 : k < L.length → Chr.charS L k = true → C.getD k false = (decide (k ≤ i + 1) && lov (at0 L (k - 1)) (at0 L k)) := fun hl hc => by
    rw [h4 k (by omega) hl hc, hb]
    simp
  cases ok
  · rw [if_neg (by simp)]
    refine ⟨h1, h2, h3, fun t ht1 ht2 hc => ?_⟩
    by_cases e : t = k
    · subst e; rw [atk2 ht2 hc, at_k ht2 hc]; simp
    · rw [h4 t ht1 ht2 hc, others t ht2 e]
  · rw [if_pos rfl]
    refine ⟨by simp [h1], ?_, ?_, fun t ht1 ht2 hc => ?_⟩
    · rw [getD_set _ _ _ _ (by omega), if_neg (by omega)]; exact h2
    · rw [getD_set _ _ _ _ (by omega)]; split; rfl; exact h3
    · rw [getD_set _ _ _ _ (by omega)]
      by_cases e : t = k
      · subst e; rw [if_pos rfl, at_k ht2 hc, hb]; simp
      · rw [if_neg e, h4 t ht1 ht2 hc, others t ht2 e]
theorem inv_first (L : List Int) : Inv L 0 (((List.replicate (L.length + 1) false).set 0 true).set L.length true) := by
  refine ⟨by simp, ?_, ?_, fun t ht1 ht2 hc => ?_⟩
  · rw [getD_set _ _ _ _ (by simp)]; split; rfl; rw [getD_set _ _ _ _ (by simp), if_pos rfl]
  · rw [getD_set _ _ _ _ (by simp), if_pos rfl]
  · rw [getD_set _ _ _ _ (by simp), if_neg (by omega), getD_set _ _ _ _ (by simp), if_neg (by omega)]
    have e1 : decide (t ≤ 0) = false := by simp; omega
    rw [e1]
    simp [List.getD_eq_getElem?_getD, List.getElem?_replicate]
    rw [if_pos (by omega)]; rfl
theorem start_iff (L : List Int) (m : Nat) : (sst L (m + 1)).1 ≠ 1 ↔ crw (at0 L m) ≠ 1 := not_congr (sst_one L m)
end Sen
end Go.Proofs.YtdellmjafephiaaDoor
