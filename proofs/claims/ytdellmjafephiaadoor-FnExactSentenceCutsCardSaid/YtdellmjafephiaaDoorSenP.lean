/- Where sentences are cut, in plain numbers: the state that the program keeps and what the specification looks for. No Go in sight. -/
import Derived.Test.YtdellmjafephiaaDoorChrP
namespace Go.Proofs.YtdellmjafephiaaDoor
namespace Sen
def at0 (L : List Int) (i : Nat) : Int := L.getD i 0
/-- The row of a close in which a point may stand. -/
def crw (p : Int) : Nat := if p = 46 ∨ p = 33 ∨ p = 63 then 1 else if p = 41 ∨ p = 93 ∨ p = 125 ∨ p = 34 ∨ p = 39 then 2 else if Chr.cat p = 2 then 3 else 0
def stp (r : Nat × Bool) (p : Int) : Nat × Bool :=
  if crw p = 1 then (1, p == 46 && (r.1 != 1 || r.2)) else if r.1 = 0 ∨ crw p < r.1 then (0, false) else (crw p, r.2)
/-- How far a close has come with the points ahead of place k. -/
def sst (L : List Int) : Nat → Nat × Bool
  | 0 => (0, false)
  | k + 1 => stp (sst L k) (at0 L k)
/-- Where that close began. -/
def bg (L : List Int) : Nat → Nat
  | 0 => 0
  | k + 1 => if crw (at0 L k) = 1 ∧ (sst L k).1 ≠ 1 then k else bg L k
/-- Whether a close that is over ahead of a point cuts. -/
def okB (r : Nat × Bool) (p : Int) : Bool :=
  if Chr.cat p = 5 then !r.2 else if Chr.cat p = 4 ∨ Chr.cat p = 6 ∨ Chr.cat p = 7 ∨ Chr.cat p = 8 then !r.2 || r.1 == 3 else true
def cah (r : Nat × Bool) (p : Int) : Bool := if r.1 ≤ crw p then false else okB r p
def lov (a b : Int) : Bool := a == 10 || (a == 13 && b != 10)
/-- Whether a sentence starts with point i. -/
def senB (L : List Int) (i : Nat) : Bool := i == 0 || (Chr.charS L i && (lov (at0 L (i - 1)) (at0 L i) || cah (sst L i) (at0 L i)))
def senL (L : List Int) : List Bool := (List.range L.length).map (senB L)
theorem senL_len (L : List Int) : (senL L).length = L.length := by simp [senL]
theorem senL_at (L : List Int) (k : Nat) (h : k < L.length) : (senL L).getD k false = senB L k := by simp [senL, List.getD_eq_getElem?_getD, h]
theorem crw_le (p : Int) : crw p ≤ 3 := by unfold crw; split; omega; split; omega; split <;> omega
theorem stp_le (r : Nat × Bool) (p : Int) : (stp r p).1 ≤ 3 := by
  unfold stp
  split
  · simp
  · split
    · simp
    · exact crw_le p
theorem sst_le (L : List Int) (k : Nat) : (sst L k).1 ≤ 3 := by
  cases k with
  | zero => simp [sst]
  | succ k => exact stp_le _ _
theorem sst_one (L : List Int) (k : Nat) : (sst L (k + 1)).1 = 1 ↔ crw (at0 L k) = 1 := by
  show (stp (sst L k) (at0 L k)).1 = 1 ↔ _
  unfold stp
  split
  · rename_i h; simp [h]
  · rename_i h
    split
    · simp [h]
    · simp [h]
theorem stp_sign {r : Nat × Bool} {p : Int} (h : crw p = 1) : stp r p = (1, p == 46 && (r.1 != 1 || r.2)) := if_pos h
theorem stp_stop {r : Nat × Bool} {p : Int} (h : crw p ≠ 1) (h2 : crw p < r.1) : stp r p = (0, false) := by unfold stp; rw [if_neg h, if_pos (.inr h2)]
theorem stp_on {r : Nat × Bool} {p : Int} (h : crw p ≠ 1) (h1 : 1 ≤ r.1) (h2 : r.1 ≤ crw p) : stp r p = (crw p, r.2) := by unfold stp; rw [if_neg h, if_neg (by omega)]
theorem bg_new {L : List Int} {k : Nat} (h : crw (at0 L k) = 1) (h2 : (sst L k).1 ≠ 1) : bg L (k + 1) = k := if_pos ⟨h, h2⟩
theorem bg_on {L : List Int} {k : Nat} (h : ¬ (crw (at0 L k) = 1 ∧ (sst L k).1 ≠ 1)) : bg L (k + 1) = bg L k := if_neg h
/-- A close that goes on at k has begun where it had. -/
theorem bg_same {L : List Int} {k : Nat} (h1 : 1 ≤ (sst L k).1) (h2 : (sst L k).1 ≤ crw (at0 L k)) : bg L (k + 1) = bg L k := bg_on (by omega)
theorem bg_is {L : List Int} (t : Nat) (h : 1 ≤ (sst L t).1) : bg L t < t ∧ crw (at0 L (bg L t)) = 1 ∧ (sst L (bg L t)).1 ≠ 1 := by
  induction t with
  | zero => simp [sst] at h
  | succ t ih =>
    by_cases c : crw (at0 L t) = 1 ∧ (sst L t).1 ≠ 1
    · rw [bg_new c.1 c.2]; exact ⟨by omega, c.1, c.2⟩
    · rw [bg_on c]
      have h1 : 1 ≤ (sst L t).1 := by
        by_cases c1 : crw (at0 L t) = 1
        · have : (sst L t).1 = 1 := Decidable.byContradiction fun h => c ⟨c1, h⟩
          omega
        · have e : sst L (t + 1) = stp (sst L t) (at0 L t) := rfl
          rw [e] at h
          unfold stp at h
          rw [if_neg c1] at h
          split at h
          · simp at h
          · omega
      obtain ⟨a, b, d⟩ := ih h1
      exact ⟨by omega, b, d⟩
/-- Behind the end of a close another one begins not ahead of it. -/
theorem bg_after {L : List Int} {k : Nat} (h1 : crw (at0 L k) < (sst L k).1) (j : Nat) (h : 1 ≤ (sst L (k + 1 + j)).1) : k ≤ bg L (k + 1 + j) := by
  induction j with
  | zero =>
    by_cases c : crw (at0 L k) = 1
    · rw [Nat.add_zero, bg_new c (by omega)]; exact Nat.le_refl _
    · have e : sst L (k + 1) = stp (sst L k) (at0 L k) := rfl
      rw [Nat.add_zero, e, stp_stop c h1] at h
      simp at h
  | succ j ih =>
    show k ≤ bg L (k + 1 + j + 1)
    by_cases c : crw (at0 L (k + 1 + j)) = 1 ∧ (sst L (k + 1 + j)).1 ≠ 1
    · rw [bg_new c.1 c.2]; omega
    · rw [bg_on c]
      refine ih ?_
      by_cases c1 : crw (at0 L (k + 1 + j)) = 1
      · have : (sst L (k + 1 + j)).1 = 1 := Decidable.byContradiction fun h => c ⟨c1, h⟩
        omega
      · have e : sst L (k + 1 + (j + 1)) = stp (sst L (k + 1 + j)) (at0 L (k + 1 + j)) := rfl
        rw [e] at h
        unfold stp at h
        rw [if_neg c1] at h
        split at h
        · simp at h
        · omega
theorem cah_no {r : Nat × Bool} {p : Int} (h : r.1 ≤ crw p) : cah r p = false := if_pos h
theorem cah_yes {r : Nat × Bool} {p : Int} (h : crw p < r.1) : cah r p = okB r p := if_neg (by omega)
/-- What is known of the place at which the close that begins at j ends. -/
structure End (L : List Int) (j k : Nat) : Prop where
  lt : j < k
  le : k ≤ L.length
  row : 1 ≤ (sst L k).1
  stop : k < L.length → crw (at0 L k) < (sst L k).1
  on : ∀ i, j < i → i < k → 1 ≤ (sst L i).1 ∧ (sst L i).1 ≤ crw (at0 L i)
theorem End.bg {L : List Int} {j k : Nat} (h : End L j k) (hs : crw (at0 L j) = 1) (hn : (sst L j).1 ≠ 1) (d : Nat) (hd : j + 1 + d ≤ k) : bg L (j + 1 + d) = j := by
  induction d with
  | zero => exact bg_new hs hn
  | succ d ih =>
    obtain ⟨a, b⟩ := h.on (j + 1 + d) (by omega) (by omega)
    show Sen.bg L (j + 1 + d + 1) = j
    rw [bg_same a b]
    exact ih (by omega)
/-- Of the places whose close began at j that one alone cuts. -/
theorem End.only {L : List Int} {j k : Nat} (h : End L j k) (t : Nat) (ht : t < L.length) (hc : cah (sst L t) (at0 L t) = true) (hb : Sen.bg L t = j) : t = k := by
  have h1 : crw (at0 L t) < (sst L t).1 := Decidable.byContradiction fun h => by rw [cah_no (by omega)] at hc; cases hc
  have h2 := bg_is (L := L) t (by omega)
  rw [hb] at h2
  rcases Nat.lt_trichotomy t k with c | c | c
  · have := h.on t h2.1 c; omega
  · exact c
  · have := bg_after (L := L) (k := k) (h.stop (by omega)) (t - (k + 1)) (by rw [show k + 1 + (t - (k + 1)) = t by omega]; omega)
    rw [show k + 1 + (t - (k + 1)) = t by omega, hb] at this
    have := h.lt
    omega
theorem End.bgk {L : List Int} {j k : Nat} (h : End L j k) (hs : crw (at0 L j) = 1) (hn : (sst L j).1 ≠ 1) : Sen.bg L k = j := by
  have h1 := h.lt
  have := h.bg hs hn (k - (j + 1)) (by omega)
  rwa [show j + 1 + (k - (j + 1)) = k by omega] at this
theorem ctl_close {p : Int} (h : 1 ≤ crw p) : Chr.ctl p = false := by
  unfold crw at h
  split at h
  · rename_i c; rcases c with rfl | rfl | rfl <;> decide +kernel
  · split at h
    · rename_i c; rcases c with rfl | rfl | rfl | rfl | rfl <;> decide +kernel
    · split at h
      · rename_i c
        unfold Chr.ctl
        rw [c]
        by_cases e : p = 7954
        · subst e; exact absurd c (by decide +kernel)
        · simp [e]
      · omega
/-- Ahead of a mark there is no cut of characters behind a close. -/
theorem no_mark {L : List Int} {k : Nat} (hk : 0 < k) (h : 1 ≤ (sst L k).1) (hc : Chr.charS L k = true) : Chr.cat (at0 L k) ≠ 3 := by
  intro hm
  obtain ⟨m, rfl⟩ : ∃ m, k = m + 1 := ⟨k - 1, by omega⟩
  have h1 : 1 ≤ crw (at0 L m) := by
    have e : sst L (m + 1) = stp (sst L m) (at0 L m) := rfl
    rw [e] at h
    unfold stp at h
    split at h
    · rename_i c; omega
    · split at h
      · simp at h
      · exact h
  have h2 := ctl_close h1
  unfold Chr.charS at hc
  have e1 : L.getD (m + 1 - 1) 0 = at0 L m := rfl
  have e2 : L.getD (m + 1) 0 = at0 L (m + 1) := rfl
  rw [e1, e2] at hc
  have h3 : Chr.ctl (at0 L (m + 1)) = false := by
    unfold Chr.ctl
    rw [hm]
    by_cases e : at0 L (m + 1) = 7954
    · rw [e] at hm; exact absurd hm (by decide +kernel)
    · simp [e]
  have h4 : Chr.mrk (at0 L (m + 1)) = true := by unfold Chr.mrk; rw [hm]; rfl
  rw [h2, h3, h4] at hc
  by_cases e : at0 L m = 13
  · rw [e] at h1; exact absurd h1 (by decide +kernel)
  · have e' : (at0 L m == 13) = false := by simp [e]
    rw [e'] at hc
    simp at hc
/-- What the row of cuts holds once the points ahead of i have been looked at (n: how many there are): of the places at which characters are cut. -/
def Inv (L : List Int) (i : Nat) (C : List Bool) : Prop := C.length = L.length + 1 ∧ C.getD 0 false = true ∧ C.getD L.length false = true ∧
  ∀ t, 0 < t → t < L.length → Chr.charS L t = true → C.getD t false = ((decide (t ≤ i) && lov (at0 L (t - 1)) (at0 L t)) || (cah (sst L t) (at0 L t) && decide (bg L t < i)))
theorem inv_end {L : List Int} {C : List Bool} (h : Inv L L.length C) (t : Nat) (ht : t ≤ L.length) : (C.getD t false && (t == 0 || (t == L.length || Chr.charS L t))) = (if t < L.length then senB L t else true) := by
  obtain ⟨h1, h2, h3, h4⟩ := h
  by_cases c : t = 0
  · subst c
    rw [h2]
    split <;> simp [senB]
  · by_cases c2 : t = L.length
    · subst c2; rw [h3, if_neg (by omega)]; simp
    · rw [if_pos (by omega)]
      unfold senB
      have e1 : (t == 0) = false := by simp [c]
      have e2 : (t == L.length) = false := by simp [c2]
      rw [e1, e2]
      cases hc : Chr.charS L t
      · simp
      · rw [h4 t (by omega) (by omega) hc]
        have e3 : decide (t ≤ L.length) = true := by simp; omega
        rw [e3]
        cases hk : cah (sst L t) (at0 L t)
        · simp
        · have : crw (at0 L t) < (sst L t).1 := Decidable.byContradiction fun h => by rw [cah_no (by omega)] at hk; cases hk
          have := (bg_is (L := L) t (by omega)).1
          have e4 : decide (bg L t < L.length) = true := by simp; omega
          rw [e4]; simp
end Sen
end Go.Proofs.YtdellmjafephiaaDoor
