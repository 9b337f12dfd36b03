/- What CaselessSame holds against each other, point by point. No Go in sight. -/
import Derived.Test.YtecbbifepbgmlaaDoorCslC
import Derived.Test.YtecbbifepbgmlaaDoorMF
import Derived.Test.YtecbbifepbgmlaaDoorCsoP
namespace Go.Proofs.YtecbbifepbgmlaaDoor
namespace Cas
open Go.RowKit
/-- A mark ahead of higher ones may as well come behind them. -/
theorem ord_front (x : Int) (hx : clsZ x ≠ 0) : ∀ (Z X : List Int), (∀ z ∈ Z, clsZ x < clsZ z) → ordL (X ++ x :: Z) = ordL (X ++ Z ++ [x])
  | [], X, _ => by simp
  | z :: Z, X, h => by
    have e : ordL (X ++ x :: z :: Z) = ordL ((X ++ [z]) ++ x :: Z) := by
      rw [ord_app, List.append_assoc, ord_app]
      show List.foldl insO (insO (insO (ordL X) x) z) Z = List.foldl insO (insO (insO (ordL X) z) x) Z
      rw [ins_swap (ordL X) hx (h z (by simp))]
    rw [e, ord_front x hx Z (X ++ [z]) (fun y hy => h y (by simp [hy]))]
    simp
theorem flat_self {h : Int → List Int} : ∀ {l : List Int}, (∀ x ∈ l, h x = [x]) → l.flatMap h = l
  | [], _ => rfl
  | y :: l, e => by rw [List.flatMap_cons, e y (by simp), flat_self (fun x hx => e x (by simp [hx]))]; rfl
/-- Where marks stay as they are, it does not matter whether they were in order. -/
theorem ord_flat {h : Int → List Int} (hm : ∀ m, clsZ m ≠ 0 → h m = [m]) : ∀ (n : Nat) (M : List Int), M.length = n → ordL ((ordL M).flatMap h) = ordL (M.flatMap h)
  | 0, M, e => by
    obtain rfl := List.length_eq_zero_iff.1 e
    rfl
  | n + 1, M, e => by
    rcases snoc_cases M with rfl | ⟨M', x, rfl⟩
    · simp at e
    · have ih := ord_flat hm n M' (by simpa using e)
      by_cases hx : clsZ x = 0
      · rw [ord_zero M' hx, List.flatMap_append, List.flatMap_append, ord_app, ord_app, ih]
      · obtain ⟨Z1, Z2, e1, h2, h1⟩ := split_last x _ (ordL M') rfl
        have hz : ∀ z ∈ Z2, clsZ x < clsZ z := fun z hz => of_decide_eq_true (h2 z hz)
        have hz2 : Z2.flatMap h = Z2 := flat_self (fun z hz' => hm z (by have := hz z hz'; have := cls_nonneg x; omega))
        have e3 : (M' ++ [x]).flatMap h = M'.flatMap h ++ [x] := by rw [List.flatMap_append]; simp [hm x hx]
        have e4 : (Z1 ++ x :: Z2).flatMap h = Z1.flatMap h ++ x :: Z2 := by rw [List.flatMap_append, List.flatMap_cons, hz2, hm x hx]; rfl
        rw [ordL_snoc, e1, insO_at hx h2 h1, e3, e4, ordL_snoc, ← ih, e1, List.flatMap_append, hz2, ← ordL_snoc]
        exact ord_front x hx Z2 _ hz
theorem mark_is {m : Int} (h : clsZ m ≠ 0) : m = 1584 ∨ m = 1585 ∨ (4096 ≤ m ∧ m < 4152) := by
  unfold clsZ at h
  by_cases h1 : m = 1584
  · exact .inl h1
  by_cases h2 : m = 1585
  · exact .inr (.inl h2)
  rw [if_neg h1, if_neg h2] at h
  by_cases h3 : m < 4096
  · rw [if_pos h3] at h
    exact absurd rfl h
  by_cases h4 : m < 4152
  · exact .inr (.inr ⟨by omega, h4⟩)
  rw [if_neg h3, if_neg (by omega), if_neg (by omega), if_neg (by omega), if_neg (by omega), if_neg h4] at h
  exact absurd rfl h
theorem fo_mark {m : Int} (h : clsZ m ≠ 0) : fo1 m = [m] := by
  have hm := mark_is h
  have e1 : three m = none := by
    unfold three; rw [if_neg (by omega), if_neg (by omega), if_neg (by omega), if_pos (by omega)]
  have e2 : bl m = 0 := by unfold bl; rw [if_pos (by omega)]
  unfold fo1 lowS
  rw [e1, e2, if_neg (by omega), if_neg (by omega), if_neg (by omega)]
/-- What a point comes to in what CaselessSame holds against each other. -/
def kk (p : Int) : List Int := (allF false 2 p).flatMap fun q => (fo1 q).flatMap (allF false 2)
theorem csl_kk (L : List Int) : nrmL 1 ((nrmL 1 L).flatMap fo1) = ordL (L.flatMap kk) := by
  have e1 : nrmL 1 L = ordL (L.flatMap (allF false 2)) := rfl
  have e2 : nrmL 1 ((nrmL 1 L).flatMap fo1) = ordL (((nrmL 1 L).flatMap fo1).flatMap (allF false 2)) := rfl
  rw [e2, e1, List.flatMap_assoc, ord_flat (fun m hm => by rw [fo_mark hm]; simp [allF_none (mark_none hm)]) _ _ rfl, List.flatMap_assoc]
  rfl
def okK (p : Int) : Bool := (raw (root p)).all fun x => decide (kk x = kk p)
def okKR (a n : Nat) : Bool := (List.range n).all fun i => okK ((a + i : Nat) : Int)
theorem okK_65 : okKR 65 58 = true := by decide +kernel
theorem okK_512 : okKR 512 256 = true := by decide +kernel
theorem okK_768 : okKR 768 256 = true := by decide +kernel
theorem okK_1024 : okKR 1024 256 = true := by decide +kernel
theorem okK_8192 : okKR 8192 223 = true := by decide +kernel
theorem okK_8415 : okKR 8415 223 = true := by decide +kernel
theorem okK_8638 : okKR 8638 223 = true := by decide +kernel
theorem okK_8861 : okKR 8861 223 = true := by decide +kernel
theorem okK_9084 : okKR 9084 223 = true := by decide +kernel
theorem okK_9307 : okKR 9307 223 = true := by decide +kernel
theorem okK_9530 : okKR 9530 224 = true := by decide +kernel
theorem okK_at {a n : Nat} (h : okKR a n = true) {p : Int} (h0 : (a : Int) ≤ p) (h1 : p < a + n) : okK p = true := by
  have h2 := List.all_eq_true.1 h (p.toNat - a) (by simp; omega)
  have e : ((a + (p.toNat - a) : Nat) : Int) = p := by omega
  rw [e] at h2
  exact h2
/-- All cases of a point come to the same. -/
theorem kk_raw {p x : Int} (hx : x ∈ raw (root p)) : kk x = kk p := by
  by_cases h : p < 65 ∨ (90 < p ∧ p < 97) ∨ (122 < p ∧ p < 512) ∨ (1280 ≤ p ∧ p < 8192) ∨ 9754 ≤ p
  · obtain ⟨e1, e2⟩ := far_is h
    rw [e1, e2] at hx
    simp at hx
    rw [hx]
  · have hd : (65 ≤ p ∧ p < 123) ∨ (512 ≤ p ∧ p < 768) ∨ (768 ≤ p ∧ p < 1024) ∨ (1024 ≤ p ∧ p < 1280) ∨ (8192 ≤ p ∧ p < 8415) ∨ (8415 ≤ p ∧ p < 8638) ∨ (8638 ≤ p ∧ p < 8861) ∨ (8861 ≤ p ∧ p < 9084) ∨ (9084 ≤ p ∧ p < 9307) ∨ (9307 ≤ p ∧ p < 9530) ∨ (9530 ≤ p ∧ p < 9754) := by omega
    have hk : okK p = true := by
      rcases hd with h | h | h | h | h | h | h | h | h | h | h
      · exact okK_at okK_65 (by omega) (by omega)
      · exact okK_at okK_512 (by omega) (by omega)
      · exact okK_at okK_768 (by omega) (by omega)
      · exact okK_at okK_1024 (by omega) (by omega)
      · exact okK_at okK_8192 (by omega) (by omega)
      · exact okK_at okK_8415 (by omega) (by omega)
      · exact okK_at okK_8638 (by omega) (by omega)
      · exact okK_at okK_8861 (by omega) (by omega)
      · exact okK_at okK_9084 (by omega) (by omega)
      · exact okK_at okK_9307 (by omega) (by omega)
      · exact okK_at okK_9530 (by omega) (by omega)
    have := List.all_eq_true.1 hk x hx
    exact of_decide_eq_true this
end Cas
end Go.Proofs.YtecbbifepbgmlaaDoor
