/- What the quick check tells is so. No Go in sight. -/
import Derived.Test.YtncfjpdbfojfoaaDoorQckY
import Derived.Test.YtncfjpdbfojfoaaDoorIsnL
namespace Go.Proofs.YtncfjpdbfojfoaaDoor
open Go.RowKit
theorem q_sec {f : Int} (hc : isC f = true) : ∀ (n : Nat) (L : List Int), L.length = n → ∀ a o, qS f L = some (a, o) → (o = 1 ∨ o = 3) ∧ (o = 1 → ∀ p ∈ L, isSec p = false)
  | 0, L, h, a, o, hr => by
    obtain rfl := List.length_eq_zero_iff.1 h
    have e : some ((0 : Int), (1 : Int)) = some (a, o) := hr
    injection e with e
    injection e with _ e
    exact ⟨.inl e.symm, fun _ p hp => by simp at hp⟩
  | n + 1, L, h, a, o, hr => by
    rcases snoc_cases L with rfl | ⟨L', p, rfl⟩
    · simp at h
    · rw [qS_snoc] at hr
      cases hq : qS f L' with
      | none => rw [hq] at hr; cases hr
      | some q =>
        obtain ⟨a', o'⟩ := q
        obtain ⟨i1, i2⟩ := q_sec hc n L' (by simpa using h) a' o' hq
        rw [hq] at hr
        unfold qStep at hr
        simp only at hr
        split at hr
        · cases hr
        · injection hr with hr
          injection hr with _ hr
          by_cases hs : isSec p = true
          · rw [if_pos ⟨hc, hs⟩] at hr
            exact ⟨.inr hr.symm, fun e => by omega⟩
          · rw [if_neg (fun e => hs e.2)] at hr
            refine ⟨by rw [← hr]; exact i1, fun e q hq' => ?_⟩
            rcases List.mem_append.1 hq' with k | k
            · exact i2 (by omega) q k
            · simp at k
              rw [k]
              simpa using hs
theorem q_two {f : Int} (hc : isC f = false) : ∀ (n : Nat) (L : List Int), L.length = n → ∀ a o, qS f L = some (a, o) → o = 1
  | 0, L, h, a, o, hr => by
    obtain rfl := List.length_eq_zero_iff.1 h
    have e : some ((0 : Int), (1 : Int)) = some (a, o) := hr
    injection e with e
    injection e with _ e
    exact e.symm
  | n + 1, L, h, a, o, hr => by
    rcases snoc_cases L with rfl | ⟨L', p, rfl⟩
    · simp at h
    · rw [qS_snoc] at hr
      cases hq : qS f L' with
      | none => rw [hq] at hr; cases hr
      | some q =>
        obtain ⟨a', o'⟩ := q
        have i1 := q_two hc n L' (by simpa using h) a' o' hq
        rw [hq] at hr
        unfold qStep at hr
        simp only at hr
        split at hr
        · cases hr
        · injection hr with hr
          injection hr with _ hr
          rw [if_neg (by rw [hc]; simp)] at hr
          omega
theorem q_yes {f : Int} {s : ByteArray} {a : Int} (h : qS f (pts s) = some (a, 1)) : nrmL f (pts s) = pts s := by
  cases hc : isC f with
  | false => exact q_yes_d hc h
  | true =>
    obtain ⟨h1, h2, _⟩ := q_back _ _ rfl _ h
    have h3 := (q_sec hc _ _ rfl a 1 h).2 rfl
    rw [nrm_c hc]
    exact yes_all hc _ _ rfl h1 (fun p hp => ⟨(pts_bd s p hp).1, h2 p hp, h3 p hp⟩)
theorem isN_pts {f : Int} {s : ByteArray} (h : isN f s = true) : isF f = true ∧ s.size ≤ 65536 ∧ pts s = nrmL f (pts s) ∧ vB s = true := by
  unfold isN at h
  simp only [Bool.and_eq_true, decide_eq_true_eq] at h
  obtain ⟨⟨h1, h2⟩, h3⟩ := h
  have e : pts s = nrmL f (pts s) := by
    have := congrArg pts h3
    unfold nrmT at this
    rw [pts_text _ (nrm_pt f s)] at this
    exact this.symm
  refine ⟨h1, h2, e, wel_back ?_⟩
  unfold nrmT at h3
  rw [← e] at h3
  exact h3
theorem quick_yes {f : Int} {s : ByteArray} (h : qckOut f s = 1) : isN f s = true := by
  unfold qckOut at h
  split at h
  · omega
  rename_i h1
  split at h
  · omega
  rename_i h2
  have hv : vB s = true := by simpa using h2
  have hs : s.size ≤ 65536 := by
    by_cases k : 65536 < s.size
    · exact absurd (.inl k) h1
    · omega
  have hf : isF f = true := by
    cases k : isF f with
    | true => rfl
    | false => exact absurd (.inr k) h1
  cases hq : qS f (pts s) with
  | none => rw [hq] at h; have : (2 : Int) = 1 := h; omega
  | some q =>
    obtain ⟨a, o⟩ := q
    rw [hq] at h
    have ho : o = 1 := h
    subst ho
    have e := q_yes hq
    unfold isN nrmT
    rw [hf, decide_eq_true hs, e, decide_eq_true (wel_of hv)]
    rfl
theorem quick_no {f : Int} {s : ByteArray} (h : qckOut f s = 2) : isN f s = false := by
  cases hn : isN f s with
  | false => rfl
  | true =>
    exfalso
    obtain ⟨h1, h2, h3, h4⟩ := isN_pts hn
    have hq := q_no h3.symm
    unfold qckOut at h
    rw [if_neg (by rw [h1]; simp; omega), if_neg (by rw [h4]; simp)] at h
    cases hr : qS f (pts s) with
    | none => exact hq hr
    | some q =>
      obtain ⟨a, o⟩ := q
      rw [hr] at h
      have ho : o = 2 := h
      cases hc : isC f with
      | false => have := q_two hc _ _ rfl a o hr; omega
      | true => have := (q_sec hc _ _ rfl a o hr).1; omega
end Go.Proofs.YtncfjpdbfojfoaaDoor
