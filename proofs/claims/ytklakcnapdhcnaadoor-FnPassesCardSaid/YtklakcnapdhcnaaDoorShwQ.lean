/- How long texts of passes that are right are. -/
import Derived.Test.YtklakcnapdhcnaaDoorShwP
namespace Go.Proofs.YtklakcnapdhcnaaDoor.Pas
open Go.RowKit
set_option linter.unusedVariables false
theorem dec_hi (size pos b0 b1 b2 b3 : Nat) : (dec size pos b0 b1 b2 b3).2 = 1 ∨ ((dec size pos b0 b1 b2 b3).2 = 2 ∧ 128 ≤ b0 ∧ 128 ≤ b1) ∨ ((dec size pos b0 b1 b2 b3).2 = 3 ∧ 128 ≤ b0 ∧ 128 ≤ b1 ∧ 128 ≤ b2) ∨ ((dec size pos b0 b1 b2 b3).2 = 4 ∧ 128 ≤ b0 ∧ 128 ≤ b1 ∧ 128 ≤ b2 ∧ 128 ≤ b3) := by
  unfold dec
  split
  · exact .inl rfl
  · split
    · split
      · refine .inr (.inl ⟨rfl, ?_⟩); omega
      · exact .inl rfl
    · split
      · split
        · refine .inr (.inr (.inl ⟨rfl, ?_⟩)); omega
        · exact .inl rfl
      · split
        · split
          · refine .inr (.inr (.inr ⟨rfl, ?_⟩)); omega
          · exact .inl rfl
        · exact .inl rfl
theorem one_hi {t : ByteArray} {k : Nat} (h : 128 ≤ bt t k) : (shk t (k + 1)).length = (shk t k).length + 1 := by
  have e : shk t (k + 1) = shk t k ++ esc (bt t k) := rfl
  rw [e, List.length_append, sg_small _ h]
  rfl
theorem shk_step (t : ByteArray) (pos : Nat) : (shk t (pos + dN t pos)).length ≤ (shk t pos).length + 4 := by
  have h := dec_hi t.size pos (bt t pos) (bt t (pos + 1)) (bt t (pos + 2)) (bt t (pos + 3))
  rw [← decode_dec] at h
  have e : (Utf8.decode t pos).2 = dN t pos := rfl
  rw [e] at h
  rcases h with h | ⟨h, a, b⟩ | ⟨h, a, b, c⟩ | ⟨h, a, b, c, d⟩
  · rw [h]
    have e : shk t (pos + 1) = shk t pos ++ esc (bt t pos) := rfl
    have := esc_len (bt t pos)
    rw [e, List.length_append]
    omega
  · rw [h, show pos + 2 = pos + 1 + 1 by omega, one_hi b, one_hi a]; omega
  · rw [h, show pos + 3 = pos + 2 + 1 by omega, one_hi c, show pos + 2 = pos + 1 + 1 by omega, one_hi b, one_hi a]; omega
  · rw [h, show pos + 4 = pos + 3 + 1 by omega, one_hi d, show pos + 3 = pos + 2 + 1 by omega, one_hi c, show pos + 2 = pos + 1 + 1 by omega, one_hi b, one_hi a]; omega
theorem shk_steps (t : ByteArray) (n : Nat) : (shk t (steps t n).2).length ≤ 4 * (steps t n).1.length := by
  induction n with
  | zero => simp [steps, shk]
  | succ n ih =>
    by_cases h : (steps t n).2 < t.size
    · have e : steps t (n + 1) = ((steps t n).1 ++ [(dP t (steps t n).2 : Int)], (steps t n).2 + dN t (steps t n).2) := if_pos h
      rw [e]
      have := shk_step t (steps t n).2
      simp only [List.length_append, List.length_singleton]
      omega
    · have e : steps t (n + 1) = steps t n := if_neg h
      rw [e]; exact ih
theorem shw_pts (t : ByteArray) : (shw t).length ≤ 4 * (pts t).length := by
  have h := shk_steps t t.size
  have h2 : (steps t t.size).2 = t.size := by
    have := (steps_le t t.size).1
    rcases steps_go t t.size with h | h <;> omega
  rw [h2] at h
  exact h
theorem shw_ok {t : ByteArray} (h : okT t = true) : (shw t).length ≤ 80 ∧ t.size ≤ 80 := by
  unfold okT at h
  rw [Bool.and_eq_true, decide_eq_true_iff] at h
  have := shw_pts t
  exact ⟨by omega, okT_small h.1 h.2⟩
theorem okR_parts {r : Ru} (h : okR r = true) : (r.1.size ≤ 80 ∧ r.2.1.size ≤ 80 ∧ r.2.2.1.size ≤ 80 ∧ r.2.2.2.1.size ≤ 80) ∧ (0 ≤ r.2.2.2.2 ∧ r.2.2.2.2 ≤ 20) ∧ (line r).length ≤ 350 := by
  unfold okR at h
  simp only [Bool.and_eq_true] at h
  obtain ⟨h1, h2, h3, h4, _, h6⟩ := h
  unfold okG at h6
  rw [decide_eq_true_iff] at h6
  have e4 := h4
  unfold okT at e4
  rw [Bool.and_eq_true, decide_eq_true_iff] at e4
  have a := shw_ok h1
  have b := shw_ok h2
  have c := shw_ok h3
  have d := shw_ok h4
  have hb := bars_len r.2.2.2.2 (by omega)
  refine ⟨⟨a.2, b.2, c.2, d.2⟩, ⟨h6.1, by omega⟩, ?_⟩
  unfold line
  simp only [List.length_append, List.length_cons, List.length_nil]
  omega
theorem lns_len {L : List Ru} {n : Nat} (h : okk L n = true) (k : Nat) (hk : k ≤ n) : (lns L k).length ≤ 350 * k := by
  induction k with
  | zero => simp [lns]
  | succ k ih =>
    have := ih (by omega)
    have := (okR_parts (okk_at h (show k < n by omega))).2.2
    have e : lns L (k + 1) = lns L k ++ line (gr L k) := rfl
    rw [e, List.length_append]
    omega
theorem okP_parts {P : List Pa} {k : Nat} (h : okP P k = true) : (0 ≤ (gp P k).2 ∧ (gp P k).2 ≤ 4) ∧ cnt P (k + 1) ≤ 100 ∧ okk (gp P k).1 (gp P k).1.length = true := by
  unfold okP at h
  rw [Bool.and_eq_true, Bool.and_eq_true, decide_eq_true_iff, decide_eq_true_iff] at h
  exact ⟨h.1, h.2.1, h.2.2⟩
theorem txt_len {P : List Pa} {n : Nat} (h : okq P n = true) (k : Nat) (hk : k ≤ n) : (txt P k).length ≤ 350 * cnt P k + 6 * k := by
  induction k with
  | zero => simp [txt]
  | succ k ih =>
    have h1 := ih (by omega)
    obtain ⟨_, _, h3⟩ := okP_parts (okq_at h (show k < n by omega))
    have h4 := lns_len h3 (gp P k).1.length (Nat.le_refl _)
    have h5 := nam_len (gp P k).2
    have e : txt P (k + 1) = txt P k ++ ([58] ++ nam (gp P k).2 ++ [10] ++ lns (gp P k).1 (gp P k).1.length) := rfl
    have e2 : cnt P (k + 1) = cnt P k + (gp P k).1.length := rfl
    rw [e]
    simp only [List.length_append, List.length_cons, List.length_nil]
    omega
/-- What ShowPasses tells. -/
def shP (P : List Pa) : List Int := if right P = true then txt P P.length else []
theorem right_parts {P : List Pa} (h : right P = true) : P.length ≤ 10 ∧ okq P P.length = true := by
  unfold right at h
  rw [Bool.and_eq_true, decide_eq_true_iff] at h
  exact h
theorem cnt_up {P : List Pa} {n : Nat} (h : okq P n = true) (k : Nat) (hk : k ≤ n) : cnt P k ≤ 100 := by
  cases k with
  | zero => simp [cnt]
  | succ k => exact (okP_parts (okq_at h (show k < n by omega))).2.1
theorem shP_len (P : List Pa) : (shP P).length ≤ 65536 := by
  unfold shP
  split
  · rename_i h
    obtain ⟨h1, h2⟩ := right_parts h
    have := txt_len h2 P.length (Nat.le_refl _)
    have := cnt_up h2 P.length (Nat.le_refl _)
    omega
  · simp
end Go.Proofs.YtklakcnapdhcnaaDoor.Pas
