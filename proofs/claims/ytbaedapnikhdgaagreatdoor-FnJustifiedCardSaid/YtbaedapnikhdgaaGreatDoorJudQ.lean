/- How wide a text is, point by point; and that a line made as wide as asked for is so. -/
import Derived.Test.YtbaedapnikhdgaaGreatDoorJudP
namespace Go.Proofs.YtbaedapnikhdgaaGreatDoor
namespace Jud
open Go.RowKit Chr Wid Jus
set_option linter.unusedVariables false
set_option linter.unusedSimpArgs false
theorem first_pt (s : ByteArray) (h : 0 < s.size) : (pts s).getD 0 0 = (dP s 0 : Int) := by
  have e1 : (steps s 1).1 = [(dP s 0 : Int)] := by
    rw [steps_next s 0 (by rw [steps_zero]; exact h), steps_zero]
    rfl
  have t := steps_take s 1 (pts_pos h)
  rw [e1] at t
  have hp := pts_pos h
  cases e : pts s with
  | nil => rw [e] at hp; simp at hp
  | cons a l =>
    rw [e] at t
    simp at t
    rw [List.getD_cons_zero, ← t]
theorem wk_one (L : List Int) (a : Nat) (hc : a = 0 ∨ Chr.charS L a = true) : ∀ k, (∀ m, a < m → m < a + 1 + k → Chr.charS L m = false) → wk L (a + 1 + k) = wk L a + wd (L.getD a 0)
  | 0, _ => by rw [Nat.add_zero, wk, if_pos hc]
  | k + 1, h => by
    rw [← Nat.add_assoc, wk, wk_one L a hc k (fun m h1 h2 => h m h1 (by omega)), if_neg (by rintro (q | q); omega; rw [h (a + 1 + k) (by omega) (by omega)] at q; cases q)]
    omega
theorem ws_chars (s : ByteArray) (hs : s.size ≤ 65536) : ws (charsOut s) = WK (pts s) := by
  by_cases h0 : 0 < s.size
  · have hl := ixs_len (pts s)
    have hlen : (charsOut s).length = (ixs (pts s)).length - 1 := by unfold charsOut; rw [pieces_len, cutsOut_ix s hs h0, List.length_map]
    have key : ∀ j, (h : j < (ixs (pts s)).length) → ws ((charsOut s).take j) = wk (pts s) ((ixs (pts s))[j]) := by
      intro j
      induction j with
      | zero => intro h; rw [ixs_zero _ (pts_pos h0)]; simp [ws, wk]
      | succ j ih =>
        intro h
        obtain ⟨q1, q2, q3, q4⟩ := ixs_next (pts s) j h
        have hk2 : j + 1 < (cutsOut s).length := by rw [cutsOut_ix s hs h0, List.length_map]; exact h
        have e : nthS (charsOut s) j = s.extract (steps s (ixs (pts s))[j]).2 (steps s (ixs (pts s))[j + 1]).2 := by
          unfold charsOut
          rw [nthS_pieces s _ j hk2, cutsOut_ix s hs h0, nth_map _ _ j (by omega), nth_map _ _ (j + 1) h]
          rfl
        rw [ws_take _ _ (by omega), ih (by omega)]
        have hp := pts_piece s _ _ (Nat.le_of_lt q1) q2
        have hlt := steps_lt s q1 q2
        have hend := (steps_le s (ixs (pts s))[j + 1]).1
        have hwc : wc (nthS (charsOut s) j) = wd ((pts s).getD (ixs (pts s))[j] 0) := by
          rw [e]
          unfold wc
          rw [← first_pt _ (by rw [ByteArray.size_extract]; omega), hp, getD_take _ _ _ (by omega), getD_drop, Nat.add_zero]
        obtain ⟨k, hk⟩ : ∃ k, (ixs (pts s))[j + 1] = (ixs (pts s))[j] + 1 + k := ⟨(ixs (pts s))[j + 1] - (ixs (pts s))[j] - 1, by omega⟩
        rw [hwc, hk, wk_one _ _ q3 k (fun m h1 h2 => q4 m h1 (by omega))]
    have q := key ((ixs (pts s)).length - 1) (by omega)
    rw [ixs_last, List.take_of_length_le (by omega)] at q
    exact q
  · have hp : pts s = [] := List.length_eq_zero_iff.1 (by have := pts_le s; omega)
    have hc : (charsOut s).length = 0 := by
      unfold charsOut
      rw [pieces_len]
      unfold cutsOut
      rw [if_neg (by omega), hp]
      simp [cutsL, bsS]
    rw [List.length_eq_zero_iff.1 hc, hp]
    rfl
theorem ju_none (x : ByteArray) (wd : Int) (h : ¬ (few x = true ∧ 0 ≤ wd ∧ wd ≤ 1000)) : ju x wd = ⟨#[]⟩ := by
  unfold ju
  rw [if_neg h]
theorem ju_all (x : ByteArray) (wd : Int) (hx : x.size ≤ 60000) (hf : few x = true ∧ 0 ≤ wd ∧ wd ≤ 1000) (hne : ju x wd ≠ x) : ws (charsOut (ju x wd)) = wd ∧ NB (ju x wd) = NB x ∧ (ju x wd).size ≤ 65536 := by
  unfold ju at hne ⊢
  rw [if_pos hf] at hne ⊢
  by_cases c : (gps x x.size).length = 0 ∨ lk x wd ≤ 0
  · rw [if_pos c] at hne
    exact absurd rfl hne
  · rw [if_neg c]
    obtain ⟨b1, b2, b3, b4⟩ := lk_bd x wd hf.2.1 hf.2.2
    obtain ⟨l, hl⟩ : ∃ l : Nat, lk x wd = (l : Int) := ⟨(lk x wd).toNat, by omega⟩
    have hn : 0 < (gps x x.size).length := by omega
    rw [hl, ← Int.ofNat_tdiv, ← Int.ofNat_tmod, Int.toNat_natCast, Int.toNat_natCast]
    obtain ⟨t1, t2, t3⟩ := tl_all x (l / (gps x x.size).length) (l % (gps x x.size).length) _ (Nat.le_refl _)
    have e : sm (l / (gps x x.size).length) (l % (gps x x.size).length) (gps x x.size).length = l := by
      unfold sm
      have d := Nat.div_add_mod l (gps x x.size).length
      have m := Nat.mod_lt l hn
      rw [Nat.min_eq_right (Nat.le_of_lt m)]
      exact d
    rw [e] at t1 t2
    have j : jus x (gps x x.size) (l / (gps x x.size).length) (l % (gps x x.size).length) = tl x (l / (gps x x.size).length) (l % (gps x x.size).length) (gps x x.size).length := rfl
    rw [j]
    refine ⟨?_, t3, by omega⟩
    rw [ws_chars _ (by omega), t1, ← ws_chars x (by omega)]
    unfold lk at hl
    omega
end Jud
end Go.Proofs.YtbaedapnikhdgaaGreatDoor
