/- The order of levels, as numbers: rows turned round, from the highest level down. -/
import Derived.Test.YtfnaclpkpjembaaIntA
namespace Go.Proofs.Ytfnaclpkpjembaa.Bd
open Go.RowKit
theorem nth_map (f : Nat → Int) (n k : Nat) (h : k < n) : nth ((List.range n).map f) k = f k := by simp [nth, List.getD, h]
theorem nth_set (l : List Int) (i k : Nat) (x : Int) (hi : i < l.length) : nth (l.set i x) k = if k = i then x else nth l k := by
  unfold nth List.getD
  by_cases e : k = i
  · subst e; simp [hi]
  · rw [if_neg e, List.getElem?_set_ne (by omega)]
theorem ext_nth {l m : List Int} (hl : l.length = m.length) (h : ∀ k, k < l.length → nth l k = nth m k) : l = m := by
  refine List.ext_getElem hl (fun k h1 h2 => ?_)
  have := h k h1
  simpa [nth, List.getD, h1, h2] using this
/-- The places a to b of a row turned round, as far as s exchanges go. -/
def rvp (O : List Int) (a b s : Nat) : List Int := (List.range O.length).map fun p => if (a ≤ p ∧ p < a + s) ∨ (b ≤ p + s ∧ p < b) then nth O (a + b - 1 - p) else nth O p
/-- The places a to b of a row turned round. -/
def rv (O : List Int) (a b : Nat) : List Int := (List.range O.length).map fun p => if a ≤ p ∧ p < b then nth O (a + b - 1 - p) else nth O p
theorem rvp_len (O : List Int) (a b s : Nat) : (rvp O a b s).length = O.length := by simp [rvp]
theorem rv_len (O : List Int) (a b : Nat) : (rv O a b).length = O.length := by simp [rv]
theorem rv_at (O : List Int) (a b p : Nat) (hp : p < O.length) : nth (rv O a b) p = if a ≤ p ∧ p < b then nth O (a + b - 1 - p) else nth O p := nth_map _ _ _ hp
theorem rvp_at (O : List Int) (a b s p : Nat) (hp : p < O.length) : nth (rvp O a b s) p = if (a ≤ p ∧ p < a + s) ∨ (b ≤ p + s ∧ p < b) then nth O (a + b - 1 - p) else nth O p := nth_map _ _ _ hp
theorem rvp_zero (O : List Int) (a b : Nat) : rvp O a b 0 = O := by
  refine ext_nth (rvp_len _ _ _ _) (fun k hk => ?_)
  rw [rvp_len] at hk
  rw [rvp_at _ _ _ _ _ hk, if_neg (by omega)]
theorem rvp_lo (O : List Int) (a b s : Nat) (h : a + s + s + 1 < b) (hb : b ≤ O.length) : nth (rvp O a b s) (a + s) = nth O (a + s) := by
  rw [rvp_at _ _ _ _ _ (by omega), if_neg (by omega)]
theorem rvp_hi (O : List Int) (a b s : Nat) (h : a + s + s + 1 < b) (hb : b ≤ O.length) : nth (rvp O a b s) (b - 1 - s) = nth O (b - 1 - s) := by
  rw [rvp_at _ _ _ _ _ (by omega), if_neg (by omega)]
theorem rvp_step (O : List Int) (a b s : Nat) (h : a + s + s + 1 < b) (hb : b ≤ O.length) :
    ((rvp O a b s).set (a + s) (nth O (b - 1 - s))).set (b - 1 - s) (nth O (a + s)) = rvp O a b (s + 1) := by
  refine ext_nth (by simp [rvp_len]) (fun k hk => ?_)
  simp only [List.length_set, rvp_len] at hk
  rw [nth_set _ _ _ _ (by simp [rvp_len]; omega), nth_set _ _ _ _ (by simp [rvp_len]; omega), rvp_at _ _ _ _ _ hk, rvp_at _ _ _ _ _ hk]
  by_cases e1 : k = b - 1 - s
  · rw [if_pos e1, if_pos (by omega)]
    congr 1; omega
  · rw [if_neg e1]
    by_cases e2 : k = a + s
    · rw [if_pos e2, if_pos (by omega)]
      congr 1; omega
    · rw [if_neg e2]
      by_cases e3 : (a ≤ k ∧ k < a + s) ∨ (b ≤ k + s ∧ k < b)
      · rw [if_pos e3, if_pos (by omega)]
      · rw [if_neg e3, if_neg (by omega)]
theorem rvp_done (O : List Int) (a b s : Nat) (h : ¬ a + s + s + 1 < b) (h2 : a + s + s ≤ b ∨ s = 0) : rvp O a b s = rv O a b := by
  refine ext_nth (by rw [rvp_len, rv_len]) (fun k hk => ?_)
  rw [rvp_len] at hk
  rw [rvp_at _ _ _ _ _ hk, rv_at _ _ _ _ hk]
  by_cases e : (a ≤ k ∧ k < a + s) ∨ (b ≤ k + s ∧ k < b)
  · rw [if_pos e, if_pos (by omega)]
  · rw [if_neg e]
    by_cases e2 : a ≤ k ∧ k < b
    · rw [if_pos e2]
      congr 1; omega
    · rw [if_neg e2]
/-- The rows of the level h or a higher one, up to the place k: those that are over are turned round; where the last one begins. -/
def trn (L : List Int) (h : Int) (O : List Int) : Nat → List Int × Nat
  | 0 => (O, 0)
  | k + 1 => if nth L k < h then (rv (trn L h O k).1 (trn L h O k).2 k, k + 1) else trn L h O k
theorem trn_low {L : List Int} {h : Int} {O : List Int} {k : Nat} (e : nth L k < h) : trn L h O (k + 1) = (rv (trn L h O k).1 (trn L h O k).2 k, k + 1) := by simp [trn, e]
theorem trn_high {L : List Int} {h : Int} {O : List Int} {k : Nat} (e : ¬ nth L k < h) : trn L h O (k + 1) = trn L h O k := by simp [trn, e]
/-- All rows of the level h or a higher one turned round. -/
def fin (L : List Int) (h : Int) (O : List Int) : List Int := rv (trn L h O L.length).1 (trn L h O L.length).2 L.length
theorem trn_len (L : List Int) (h : Int) (O : List Int) (k : Nat) : (trn L h O k).1.length = O.length := by
  induction k with
  | zero => rfl
  | succ k ih =>
    by_cases e : nth L k < h
    · rw [trn_low e]; simp [rv_len, ih]
    · rw [trn_high e]; exact ih
theorem trn_le (L : List Int) (h : Int) (O : List Int) (k : Nat) : (trn L h O k).2 ≤ k := by
  induction k with
  | zero => exact Nat.le_refl _
  | succ k ih =>
    by_cases e : nth L k < h
    · rw [trn_low e]; exact Nat.le_refl _
    · rw [trn_high e]; omega
theorem trn_hi (L : List Int) (h : Int) (O : List Int) (k p : Nat) (h1 : (trn L h O k).2 ≤ p) (h2 : p < k) : h ≤ nth L p := by
  induction k with
  | zero => omega
  | succ k ih =>
    by_cases e : nth L k < h
    · rw [trn_low e] at h1; simp at h1; omega
    · rw [trn_high e] at h1
      by_cases e2 : p = k
      · subst e2; omega
      · exact ih h1 (by omega)
theorem trn_out (L : List Int) (h : Int) (O : List Int) (k p : Nat) (h1 : (trn L h O k).2 ≤ p) (hp : p < O.length) : nth (trn L h O k).1 p = nth O p := by
  induction k with
  | zero => rfl
  | succ k ih =>
    by_cases e : nth L k < h
    · have l := trn_le L h O k
      rw [trn_low e] at h1 ⊢
      simp only at h1 ⊢
      rw [rv_at _ _ _ _ (by rw [trn_len]; exact hp), if_neg (by omega)]
      exact ih (by omega)
    · rw [trn_high e] at h1 ⊢
      exact ih h1
theorem trn_perm (L : List Int) (h : Int) (O : List Int) (hO : O.length = L.length) (k : Nat) (hk : k ≤ L.length) (p : Nat) (hp : p < L.length) : ∃ q, q < L.length ∧ nth (trn L h O k).1 p = nth O q ∧ (q = p ∨ (h ≤ nth L q ∧ h ≤ nth L p)) := by
  induction k generalizing p with
  | zero => exact ⟨p, hp, rfl, .inl rfl⟩
  | succ k ih =>
    by_cases e : nth L k < h
    · have l := trn_le L h O k
      rw [trn_low e]
      simp only
      rw [rv_at _ _ _ _ (by rw [trn_len]; omega)]
      by_cases e2 : (trn L h O k).2 ≤ p ∧ p < k
      · rw [if_pos e2]
        obtain ⟨q, hq, h1, h2⟩ := ih (by omega) ((trn L h O k).2 + k - 1 - p) (by omega)
        have hP := trn_hi L h O k p e2.1 e2.2
        have hQ := trn_hi L h O k ((trn L h O k).2 + k - 1 - p) (by omega) (by omega)
        refine ⟨q, hq, h1, .inr ⟨?_, hP⟩⟩
        rcases h2 with h2 | h2
        · rw [h2]; exact hQ
        · exact h2.1
      · rw [if_neg e2]
        exact ih (by omega) p hp
    · rw [trn_high e]
      exact ih (by omega) p hp
theorem fin_len (L : List Int) (h : Int) (O : List Int) : (fin L h O).length = O.length := by unfold fin; rw [rv_len, trn_len]
theorem fin_perm (L : List Int) (h : Int) (O : List Int) (hO : O.length = L.length) (p : Nat) (hp : p < L.length) : ∃ q, q < L.length ∧ nth (fin L h O) p = nth O q ∧ (q = p ∨ (h ≤ nth L q ∧ h ≤ nth L p)) := by
  have l := trn_le L h O L.length
  unfold fin
  rw [rv_at _ _ _ _ (by rw [trn_len]; omega)]
  by_cases e2 : (trn L h O L.length).2 ≤ p ∧ p < L.length
  · rw [if_pos e2]
    obtain ⟨q, hq, h1, h2⟩ := trn_perm L h O hO L.length (Nat.le_refl _) ((trn L h O L.length).2 + L.length - 1 - p) (by omega)
    have hP := trn_hi L h O L.length p e2.1 e2.2
    have hQ := trn_hi L h O L.length ((trn L h O L.length).2 + L.length - 1 - p) (by omega) (by omega)
    refine ⟨q, hq, h1, .inr ⟨?_, hP⟩⟩
    rcases h2 with h2 | h2
    · rw [h2]; exact hQ
    · exact h2.1
  · rw [if_neg e2]
    exact trn_perm L h O hO L.length (Nat.le_refl _) p hp
/-- The order with the levels from 20 down by k turned. -/
def ordK (L : List Int) : Nat → List Int
  | 0 => (List.range L.length).map fun (i : Nat) => (i : Int)
  | k + 1 => fin L (20 - (k : Int)) (ordK L k)
/-- The order of levels. -/
def ordL (L : List Int) : List Int := ordK L 20
/-- Each place of a row tells a place that is up to the level h as high as it. -/
def Inv (L O : List Int) (h : Int) : Prop := O.length = L.length ∧ ∀ k, k < L.length → ∃ j : Nat, j < L.length ∧ nth O k = (j : Int) ∧ ∀ h', h' ≤ h → (h' ≤ nth L j ↔ h' ≤ nth L k)
theorem Inv.low {L O : List Int} {h h2 : Int} (i : Inv L O h) (hh : h2 ≤ h) : Inv L O h2 :=
  ⟨i.1, fun k hk => by obtain ⟨j, h1, h2, h3⟩ := i.2 k hk; exact ⟨j, h1, h2, fun h' hh' => h3 h' (by omega)⟩⟩
theorem Inv.fin {L O : List Int} {h : Int} (i : Inv L O h) : Inv L (fin L h O) h := by
  refine ⟨(fin_len L h O).trans i.1, fun p hp => ?_⟩
  obtain ⟨q, hq, h1, h2⟩ := fin_perm L h O i.1 p hp
  obtain ⟨j, hj, h3, h4⟩ := i.2 q hq
  refine ⟨j, hj, h1.trans h3, fun h' hh' => (h4 h' hh').trans ?_⟩
  rcases h2 with rfl | h2
  · exact Iff.rfl
  · exact ⟨fun _ => by omega, fun _ => by omega⟩
theorem inv_ord (L : List Int) (k : Nat) : Inv L (ordK L k) (20 - (k : Int)) := by
  induction k with
  | zero => exact ⟨by simp [ordK], fun k hk => ⟨k, hk, nth_map _ _ _ hk, fun _ _ => Iff.rfl⟩⟩
  | succ k ih => exact (Inv.fin ih).low (by omega)
theorem ordK_len (L : List Int) (k : Nat) : (ordK L k).length = L.length := (inv_ord L k).1
theorem ordL_len (L : List Int) : (ordL L).length = L.length := ordK_len L 20
theorem ordK_in (L : List Int) (k p : Nat) (hp : p < L.length) : ∃ j : Nat, j < L.length ∧ nth (ordK L k) p = (j : Int) ∧ (20 - (k : Int) ≤ nth L j ↔ 20 - (k : Int) ≤ nth L p) := by
  obtain ⟨j, h1, h2, h3⟩ := (inv_ord L k).2 p hp
  exact ⟨j, h1, h2, h3 _ (Int.le_refl _)⟩
theorem ordL_in (L : List Int) (p : Nat) (hp : p < L.length) : ∃ j : Nat, j < L.length ∧ nth (ordL L) p = (j : Int) := by
  obtain ⟨j, h1, h2, _⟩ := ordK_in L 20 p hp
  exact ⟨j, h1, h2⟩
/-- Levels that can be. -/
def okL (L : List Int) : Bool := decide (L.length ≤ 1000) && L.all fun x => decide (0 ≤ x) && decide (x ≤ 20)
theorem all_nth (L : List Int) (f : Int → Bool) : L.all f = true ↔ ∀ k, k < L.length → f (nth L k) = true := by
  rw [List.all_eq_true]
  constructor
  · intro h k hk
    have e : nth L k = L[k] := by simp [nth, List.getD, hk]
    rw [e]; exact h _ (List.getElem_mem hk)
  · intro h x hx
    obtain ⟨k, hk, rfl⟩ := List.mem_iff_getElem.1 hx
    have e : nth L k = L[k] := by simp [nth, List.getD, hk]
    rw [← e]; exact h k hk
theorem okL_iff (L : List Int) : okL L = true ↔ L.length ≤ 1000 ∧ ∀ k, k < L.length → 0 ≤ nth L k ∧ nth L k ≤ 20 := by
  unfold okL
  rw [Bool.and_eq_true, decide_eq_true_eq, all_nth]
  simp
theorem okL_bad {L : List Int} {k : Nat} (hk : k < L.length) (h : nth L k < 0 ∨ 20 < nth L k) : okL L = false := by
  cases e : okL L
  · rfl
  · have := ((okL_iff L).1 e).2 k hk; omega
theorem okL_long {L : List Int} (h : 1000 < L.length) : okL L = false := by
  cases e : okL L
  · rfl
  · have := ((okL_iff L).1 e).1; omega
theorem okL_good {L : List Int} (h : L.length ≤ 1000) (h2 : ∀ k, k < L.length → ¬ (nth L k < 0) ∧ ¬ (20 < nth L k)) : okL L = true :=
  (okL_iff L).2 ⟨h, fun k hk => by have := h2 k hk; omega⟩
/-- The answer of OrderOf. -/
def ordA (L : List Int) : List Int := if okL L then ordL L else []
theorem ordA_len (L : List Int) : (ordA L).length ≤ 1000 := by
  unfold ordA
  split
  · rename_i h; rw [ordL_len]; exact ((okL_iff L).1 h).1
  · simp
end Go.Proofs.Ytfnaclpkpjembaa.Bd
