/- Where a close ends, as the specification tells it: the walk. -/
import Derived.Test.YtdellmjafephiaaDoorSenS
namespace Go.Proofs.YtdellmjafephiaaDoor
namespace Sen
open Go.RowKit
theorem sgn_iff (p : Int) : sgn p = decide (crw p = 1) := by
  unfold sgn crw
  by_cases h : p = 46 ∨ p = 33 ∨ p = 63
  · rw [if_pos h]; rcases h with rfl | rfl | rfl <;> rfl
  · rw [if_neg h]
    have : (p == 46 || p == 33 || p == 63) = false := by simp; omega
    rw [this]
    split
    · rfl
    · split <;> rfl
theorem quo_iff (p : Int) : quo p = decide (crw p = 2) := by
  unfold quo crw
  by_cases h : p = 46 ∨ p = 33 ∨ p = 63
  · rw [if_pos h]; rcases h with rfl | rfl | rfl <;> rfl
  · rw [if_neg h]
    by_cases h2 : p = 41 ∨ p = 93 ∨ p = 125 ∨ p = 34 ∨ p = 39
    · rw [if_pos h2]; rcases h2 with rfl | rfl | rfl | rfl | rfl <;> rfl
    · rw [if_neg h2]
      have : (p == 41 || p == 93 || p == 125 || p == 34 || p == 39) = false := by simp; omega
      rw [this]
      split <;> rfl
theorem spc_iff (p : Int) : (Chr.cat p == 2) = decide (crw p = 3) := by
  by_cases h : p = 46 ∨ p = 33 ∨ p = 63
  · have e : crw p = 1 := if_pos h
    rw [e]
    rcases h with rfl | rfl | rfl <;> decide +kernel
  · by_cases h2 : p = 41 ∨ p = 93 ∨ p = 125 ∨ p = 34 ∨ p = 39
    · have e : crw p = 2 := by unfold crw; rw [if_neg h, if_pos h2]
      rw [e]
      rcases h2 with rfl | rfl | rfl | rfl | rfl <;> decide +kernel
    · have e : crw p = if Chr.cat p = 2 then 3 else 0 := by unfold crw; rw [if_neg h, if_neg h2]
      rw [e]
      by_cases h3 : Chr.cat p = 2
      · simp [h3]
      · simp [h3]
def casC (c : Int) : Bool := c == 4 || c == 5 || c == 6
def okS (soft nsp : Bool) (c : Int) : Bool := !(soft && (c == 5 || (nsp && (casC c || c == 7 || c == 8))))
theorem okS_eq (r : Nat × Bool) (p : Int) : okS r.2 (r.1 != 3) (Chr.cat p) = okB r p := by
  unfold okS okB casC
  generalize Chr.cat p = c
  by_cases h5 : c = 5
  · subst h5; cases r.2 <;> simp
  · rw [if_neg h5]
    by_cases hk : c = 4 ∨ c = 6 ∨ c = 7 ∨ c = 8
    · rw [if_pos hk]
      rcases hk with rfl | rfl | rfl | rfl <;> cases r.2 <;> by_cases h : r.1 = 3 <;> simp [h] <;> rfl
    · rw [if_neg hk]
      have e4 : (c == 4) = false := by simp; omega
      have e5 : (c == 5) = false := by simp; omega
      have e6 : (c == 6) = false := by simp; omega
      have e7 : (c == 7) = false := by simp; omega
      have e8 : (c == 8) = false := by simp; omega
      rw [e4, e5, e6, e7, e8]
      simp
/-- Loop by loop: the state of the close at i. -/
def InA (L : List Int) (j i : Nat) (soft : Bool) : Prop := (i = j ∧ soft = true) ∨ (j < i ∧ sst L i = (1, soft))
def On (L : List Int) (j i : Nat) : Prop := ∀ t, j < t → t < i → 1 ≤ (sst L t).1 ∧ (sst L t).1 ≤ crw (at0 L t)
def InB (L : List Int) (i : Nat) (soft : Bool) : Prop := (sst L i = (1, soft) ∧ (i < L.length → crw (at0 L i) ≠ 1)) ∨ sst L i = (2, soft)
def InC (L : List Int) (sp i : Nat) (soft : Bool) : Prop := ∃ r, sst L i = (r, soft) ∧ 1 ≤ r ∧ ((i = sp ∧ r ≤ 2 ∧ (i < L.length → crw (at0 L i) < r ∨ crw (at0 L i) = 3)) ∨ (sp < i ∧ r = 3))
theorem On.succ {L : List Int} {j i : Nat} (h : On L j i) (h2 : j < i → 1 ≤ (sst L i).1 ∧ (sst L i).1 ≤ crw (at0 L i)) : On L j (i + 1) := by
  intro t h3 h4
  by_cases e : t = i
  · subst e; exact h2 h3
  · exact h t h3 (by omega)
theorem InA.step {L : List Int} {j i : Nat} {soft : Bool} (h : InA L j i soft) (hn : (sst L j).1 ≠ 1) (hc : crw (at0 L i) = 1) : InA L j (i + 1) (soft && (at0 L i == 46)) := by
  refine .inr ⟨by rcases h with h | h <;> omega, ?_⟩
  show stp (sst L i) (at0 L i) = _
  rw [stp_sign hc]
  rcases h with ⟨rfl, rfl⟩ | ⟨_, h⟩
  · have : ((sst L i).1 != 1) = true := by simp [hn]
    rw [this]
    cases at0 L i == 46 <;> rfl
  · rw [h]
    cases at0 L i == 46 <;> cases soft <;> rfl
theorem InA.on {L : List Int} {j i : Nat} {soft : Bool} (h : InA L j i soft) (hc : crw (at0 L i) = 1) (hj : j < i) : 1 ≤ (sst L i).1 ∧ (sst L i).1 ≤ crw (at0 L i) := by
  rcases h with h | ⟨_, h⟩
  · omega
  · rw [h, hc]; simp
theorem InA.out {L : List Int} {j i : Nat} {soft : Bool} (h : InA L j i soft) (hs : crw (at0 L j) = 1) (hj : j < L.length) (hc : i < L.length → crw (at0 L i) ≠ 1) : j < i ∧ InB L i soft := by
  rcases h with ⟨rfl, _⟩ | ⟨h1, h⟩
  · exact absurd hs (hc hj)
  · exact ⟨h1, .inl ⟨h, hc⟩⟩
theorem InB.step {L : List Int} {i : Nat} {soft : Bool} (h : InB L i soft) (hc : crw (at0 L i) = 2) : InB L (i + 1) soft ∧ 1 ≤ (sst L i).1 ∧ (sst L i).1 ≤ crw (at0 L i) := by
  have e : sst L (i + 1) = stp (sst L i) (at0 L i) := rfl
  rcases h with ⟨h, _⟩ | h
  · rw [h, stp_on (by omega) (by simp) (by simp; omega), hc] at e
    rw [h, hc]
    exact ⟨.inr e, by simp, by simp⟩
  · rw [h, stp_on (by omega) (by simp) (by simp; omega), hc] at e
    rw [h, hc]
    exact ⟨.inr e, by simp, by simp⟩
theorem InB.out {L : List Int} {i : Nat} {soft : Bool} (h : InB L i soft) (hc : i < L.length → crw (at0 L i) ≠ 2) : InC L i i soft := by
  have h3 := crw_le (at0 L i)
  rcases h with ⟨h, h1⟩ | h
  · exact ⟨1, h, by omega, .inl ⟨rfl, by omega, fun hi => by have := hc hi; have := h1 hi; omega⟩⟩
  · exact ⟨2, h, by omega, .inl ⟨rfl, by omega, fun hi => by have := hc hi; omega⟩⟩
theorem InC.step {L : List Int} {sp i : Nat} {soft : Bool} (h : InC L sp i soft) (hc : crw (at0 L i) = 3) (hsp : sp ≤ i) : InC L sp (i + 1) soft ∧ 1 ≤ (sst L i).1 ∧ (sst L i).1 ≤ crw (at0 L i) := by
  obtain ⟨r, h, h1, h2⟩ := h
  have hr : r ≤ 3 := by rcases h2 with h2 | h2 <;> omega
  have e : sst L (i + 1) = stp (sst L i) (at0 L i) := rfl
  rw [h, stp_on (by omega) h1 (by simp; omega), hc] at e
  rw [h, hc]
  exact ⟨⟨3, e, by omega, .inr ⟨by omega, rfl⟩⟩, h1, hr⟩
theorem InC.out {L : List Int} {sp i j : Nat} {soft : Bool} (h : InC L sp i soft) (ho : On L j i) (hj : j < i) (hi : i ≤ L.length) (hc : i < L.length → crw (at0 L i) ≠ 3) : End L j i ∧ (sst L i).2 = soft ∧ ((sst L i).1 != 3) = (i == sp) := by
  have h3 := crw_le (at0 L i)
  obtain ⟨r, h, h1, h2⟩ := h
  refine ⟨⟨hj, hi, by rw [h]; exact h1, fun hl => ?_, ho⟩, by rw [h], ?_⟩
  · rw [h]
    have := hc hl
    rcases h2 with ⟨_, _, h2⟩ | ⟨_, rfl⟩
    · rcases h2 hl with h2 | h2
      · exact h2
      · omega
    · show crw (at0 L i) < 3; omega
  · rw [h]
    rcases h2 with ⟨rfl, h2, _⟩ | ⟨h2, rfl⟩
    · have e1 : (r != 3) = true := by simp; omega
      show (r != 3) = (i == i)
      rw [e1]; simp
    · have e1 : (i == sp) = false := by simp; omega
      show (3 != 3) = (i == sp)
      rw [e1]; rfl
set_option maxRecDepth 100000 in
theorem cased_s (p : Int) (w : World) : Calls Tryd.prog 93 #[.int .i64 p] w fun e w' => e = .returned (.bool (casC (Chr.cat p))) ∧ Below w.heap.size w w' := by
  have C := hide (cat_s p w)
  have HE : Hid (casC (Chr.cat p) = (Chr.cat p == 4 || Chr.cat p == 5 || Chr.cat p == 6)) := hide rfl
  generalize casC (Chr.cat p) = D at *
  generalize Chr.cat p = c at *
  cases h4 : (c == 4) <;> cases h5 : (c == 5)
  all_goals
    rw [h4, h5] at HE
    go_enter Tryd.func93, Tryd.ntmps93
    go_wp2_with (go_at_call 88; refine (unhide C).mono ?_; rintro e w2 ⟨rfl, hb2⟩)
    go_ret
    exact ⟨by rw [unhide HE]; rfl, hb2⟩
end Sen
end Go.Proofs.YtdellmjafephiaaDoor
