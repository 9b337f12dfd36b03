/- The digits of a text, by the tree and by the patterns, in plain numbers. -/
import Derived.Test.YtgmpkapeemiecaaHypN
namespace Go.Proofs.Ytgmpkapeemiecaa
namespace Hyp
open Go.RowKit
set_option linter.unusedVariables false
set_option linter.unusedSimpArgs false
theorem getD_set (L : List Int) (i j : Nat) (x : Int) (h : i < L.length) : (L.set i x).getD j 0 = if j = i then x else L.getD j 0 := by
  rw [List.getD_eq_getElem?_getD, List.getElem?_set, List.getD_eq_getElem?_getD]
  by_cases e : i = j
  · subst e
    simp [h]
  · rw [if_neg e, if_neg (fun c => e c.symm)]
theorem rsk_at (L : List Int) (off : Nat) (O : List Int) (j : Nat) : ∀ k, off + k ≤ L.length → (rsk L off O k).getD j 0 = if off ≤ j ∧ j < off + k then max (L.getD j 0) (O.getD (j - off) 0) else L.getD j 0
  | 0, _ => by
    rw [rsk, if_neg (by omega)]
  | k + 1, h => by
    rw [rsk, getD_set _ _ _ _ (by rw [rsk_len]; omega)]
    by_cases e : j = off + k
    · subst e
      rw [if_pos rfl, if_pos (by omega), rsk_at L off O (off + k) k (by omega), if_neg (by omega), show off + k - off = k by omega]
    · rw [if_neg e, rsk_at L off O j k (by omega)]
      by_cases c : off ≤ j ∧ j < off + k
      · rw [if_pos c, if_pos (by omega)]
      · rw [if_neg c, if_neg (by omega)]
theorem rsk_le {L : List Int} {off : Nat} {O : List Int} (h : off + O.length ≤ L.length) (j : Nat) (v : Int) : (rsk L off O O.length).getD j 0 ≤ v ↔ L.getD j 0 ≤ v ∧ (off ≤ j → j - off < O.length → O.getD (j - off) 0 ≤ v) := by
  rw [rsk_at L off O j O.length h]
  generalize L.getD j 0 = x
  generalize O.getD (j - off) 0 = y
  by_cases c : off ≤ j ∧ j < off + O.length
  · rw [if_pos c]
    constructor
    · intro h2
      exact ⟨by omega, fun _ _ => by omega⟩
    · rintro ⟨h2, h3⟩
      have := h3 c.1 (by omega)
      omega
  · rw [if_neg c]
    constructor
    · intro h2
      exact ⟨h2, fun c1 c2 => absurd ⟨c1, by omega⟩ c⟩
    · exact fun h2 => h2.1
/-- Digits are one more than letters. -/
def Dl (D : List Nat → Option (List Int)) : Prop := ∀ p L, D p = some L → L.length = p.length + 1
theorem rr_le {D : List Nat → Option (List Int)} (hD : Dl D) (t : ByteArray) (a : Nat) (R : List Int) (hR : R.length = t.size + 1) (j : Nat) (v : Int) : ∀ n, a + n ≤ t.size → ((rr D t a R n).getD j 0 ≤ v ↔ R.getD j 0 ≤ v ∧ ∀ k, 1 ≤ k → k ≤ n → ∀ L, D (pth t a k) = some L → a ≤ j → j - a < L.length → L.getD (j - a) 0 ≤ v)
  | 0, _ => by
    rw [rr]
    exact ⟨fun h => ⟨h, fun k h1 h2 => absurd h2 (by omega)⟩, fun h => h.1⟩
  | n + 1, h => by
    have ih := rr_le hD t a R hR j v n (by omega)
    rw [rr]
    cases e : D (pth t a (n + 1)) with
    | none =>
      show (rr D t a R n).getD j 0 ≤ v ↔ _
      rw [ih]
      constructor
      · rintro ⟨h1, h2⟩
        refine ⟨h1, fun k c1 c2 L c3 => ?_⟩
        by_cases c : k = n + 1
        · subst c
          rw [e] at c3
          cases c3
        · exact h2 k c1 (by omega) L c3
      · rintro ⟨h1, h2⟩
        exact ⟨h1, fun k c1 c2 => h2 k c1 (by omega)⟩
    | some O =>
      show (rsk (rr D t a R n) a O O.length).getD j 0 ≤ v ↔ _
      have hO := hD _ _ e
      rw [pth_len] at hO
      rw [rsk_le (by rw [rr_len, hR]; omega), ih]
      constructor
      · rintro ⟨⟨h1, h2⟩, h3⟩
        refine ⟨h1, fun k c1 c2 L c3 => ?_⟩
        by_cases c : k = n + 1
        · subst c
          rw [e] at c3
          obtain rfl := Option.some.inj c3
          exact h3
        · exact h2 k c1 (by omega) L c3
      · rintro ⟨h1, h2⟩
        exact ⟨⟨h1, fun k c1 c2 => h2 k c1 (by omega)⟩, h2 (n + 1) (by omega) (Nat.le_refl _) O e⟩
theorem zeros_at (n j : Nat) : (List.replicate n (0 : Int)).getD j 0 = 0 := by
  rw [List.getD_eq_getElem?_getD, List.getElem?_replicate]
  split <;> rfl
theorem aa_le {D : List Nat → Option (List Int)} (hD : Dl D) (t : ByteArray) (j : Nat) (v : Int) : ∀ a, a ≤ t.size → ((aa D t a).getD j 0 ≤ v ↔ 0 ≤ v ∧ ∀ b, b < a → ∀ k, 1 ≤ k → b + k ≤ t.size → ∀ L, D (pth t b k) = some L → b ≤ j → j - b < L.length → L.getD (j - b) 0 ≤ v)
  | 0, _ => by
    rw [aa, zeros_at]
    exact ⟨fun h => ⟨h, fun b c => absurd c (by omega)⟩, fun h => h.1⟩
  | a + 1, h => by
    rw [aa, rr_le hD t a _ (aa_len D t a) j v _ (by omega), aa_le hD t j v a (by omega)]
    constructor
    · rintro ⟨⟨h1, h2⟩, h3⟩
      refine ⟨h1, fun b c k c1 c2 => ?_⟩
      by_cases e : b = a
      · subst e
        exact h3 k c1 (by omega)
      · exact h2 b (by omega) k c1 c2
    · rintro ⟨h1, h2⟩
      exact ⟨⟨h1, fun b c => h2 b (by omega)⟩, fun k c1 c2 => h2 a (by omega) k c1 (by omega)⟩
theorem pat_len {x : ByteArray} {s : St} (h : pat x = some s) : (s.D ++ [s.d]).length = s.L.length + 1 := by
  simp [(pr_ok (pat_pr h).1).len]
theorem put_len {D : List Nat → Option (List Int)} (hD : Dl D) {p : List Nat} {O : List Int} (hO : O.length = p.length + 1) : Dl (put D p O) := by
  intro q L h
  unfold put at h
  by_cases e : q = p
  · subst e
    rw [if_pos rfl] at h
    obtain rfl := Option.some.inj h
    rw [rsk_len]
    cases c : D q with
    | none => simp [hO]
    | some L => exact hD q L c
  · rw [if_neg e] at h
    exact hD q L h
theorem dgs_len (P : List ByteArray) : ∀ i, Dl (dgs P i)
  | 0 => fun p L h => by cases h
  | i + 1 => by
    rw [dgs]
    cases e : pat (nthS P i) with
    | none => exact dgs_len P i
    | some s => exact put_len (dgs_len P i) (by rw [pat_len e, List.length_map])
theorem dgs_le (P : List ByteArray) (q : List Nat) (k : Nat) (v : Int) (hv : 0 ≤ v) : ∀ i, ((∀ L, dgs P i q = some L → k < L.length → L.getD k 0 ≤ v) ↔ ∀ i', i' < i → ∀ s, pat (nthS P i') = some s → s.L.map kd = q → k < (s.D ++ [s.d]).length → (s.D ++ [s.d]).getD k 0 ≤ v)
  | 0 => ⟨fun _ i' c => absurd c (by omega), fun _ L h => by cases h⟩
  | i + 1 => by
    have ih := dgs_le P q k v hv i
    have hl := dgs_len P i
    rw [dgs]
    cases e : pat (nthS P i) with
    | none =>
      show (∀ L, dgs P i q = some L → _) ↔ _
      rw [ih]
      constructor
      · intro h i' c s h2
        by_cases e2 : i' = i
        · subst e2
          rw [e] at h2
          cases h2
        · exact h i' (by omega) s h2
      · exact fun h i' c => h i' (by omega)
    | some s =>
      show (∀ L, put (dgs P i) (s.L.map kd) (s.D ++ [s.d]) q = some L → _) ↔ _
      have hs := pat_len e
      unfold put
      by_cases c : q = s.L.map kd
      · subst c
        rw [if_pos rfl]
        have hX : ((dgs P i (s.L.map kd)).getD (List.replicate (s.D ++ [s.d]).length 0)).length = (s.D ++ [s.d]).length := by
          cases c2 : dgs P i (s.L.map kd) with
          | none => simp
          | some L => have := hl _ L c2; rw [List.length_map] at this; rw [hs]; exact this
        constructor
        · intro h i' c s' h2 h3 h4
          have h5 := h _ rfl (by rw [rsk_len, hX, hs]; rw [pat_len h2] at h4; have := congrArg List.length h3; simp at this; omega)
          rw [rsk_le (by rw [hX]; omega)] at h5
          by_cases e2 : i' = i
          · subst e2
            rw [e] at h2
            obtain rfl := Option.some.inj h2
            exact h5.2 (Nat.zero_le _) (by simpa using h4)
          · refine ih.1 (fun L h6 h7 => ?_) i' (by omega) s' h2 h3 h4
            rw [h6] at h5
            exact h5.1
        · intro h L h2 h3
          obtain rfl := Option.some.inj h2
          rw [rsk_le (by rw [hX]; omega)]
          refine ⟨?_, fun _ h4 => h i (by omega) s e rfl (by simpa using h4)⟩
          cases c2 : dgs P i (s.L.map kd) with
          | none =>
            show (List.replicate _ (0 : Int)).getD k 0 ≤ v
            rw [zeros_at]
            exact hv
          | some L =>
            refine ih.2 (fun i' c s' h4 => h i' (by omega) s' h4) L c2 ?_
            rw [rsk_len, hX, hs] at h3
            rw [hl _ L c2, List.length_map]
            exact h3
      · rw [if_neg c, ih]
        constructor
        · intro h i' c1 s' h2 h3
          by_cases e2 : i' = i
          · subst e2
            rw [e] at h2
            obtain rfl := Option.some.inj h2
            exact absurd h3.symm c
          · exact h i' (by omega) s' h2 h3
        · exact fun h i' c1 => h i' (by omega)
end Hyp
end Go.Proofs.Ytgmpkapeemiecaa
