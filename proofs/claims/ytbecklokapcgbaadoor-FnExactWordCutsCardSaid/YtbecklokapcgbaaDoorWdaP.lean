/- Places that stand alone, and what is cut there: both sides in plain numbers. -/
import Derived.Test.YtbecklokapcgbaaDoorWrdW
import Derived.Test.YtbecklokapcgbaaDoorWrdY
import Derived.Test.YtbecklokapcgbaaDoorChrX
namespace Go.Proofs.YtbecklokapcgbaaDoor
namespace Wrd
open Chr (cat ctl mrk stb sts ctk cutsL)
set_option linter.unusedVariables false
/-- A point that belongs to no other one. -/
def aln (L : List Int) (i : Nat) : Bool := i == 0 || !blg (nth L i) (nth L (i - 1))
/-- The places of these among the first k points. -/
def alk (L : List Int) : Nat → List Int
  | 0 => []
  | k + 1 => alk L k ++ (if aln L k = true then [(k : Int)] else [])
section A
variable {L : List Int} {k : Nat}
theorem alk_yes (h : aln L k = true) : alk L (k + 1) = alk L k ++ [(k : Int)] := by unfold alk; rw [if_pos h]; cases k <;> rfl
theorem alk_no (h : aln L k = false) : alk L (k + 1) = alk L k := by rw [alk, if_neg (by rw [h]; decide), List.append_nil]
theorem alk_len (L : List Int) (k : Nat) : (alk L k).length ≤ k := by
  induction k with
  | zero => exact Nat.le_refl _
  | succ k ih =>
    cases h : aln L k with
    | true => rw [alk_yes h]; simp; omega
    | false => rw [alk_no h]; omega
theorem alk_mono (L : List Int) (j m : Nat) : ∃ X, alk L (j + m) = alk L j ++ X := by
  induction m with
  | zero => exact ⟨[], by simp⟩
  | succ m ih =>
    obtain ⟨X, hX⟩ := ih
    cases h : aln L (j + m) with
    | true => exact ⟨X ++ [((j + m : Nat) : Int)], by rw [← Nat.add_assoc, alk_yes h, hX, List.append_assoc]⟩
    | false => exact ⟨X, by rw [← Nat.add_assoc, alk_no h, hX]⟩
theorem nth_app_left (A B : List Int) (i : Nat) (h : i < A.length) : nth (A ++ B) i = nth A i := by
  unfold nth
  rw [List.getD_eq_getElem?_getD, List.getD_eq_getElem?_getD, List.getElem?_append_left h]
theorem nth_app_at (A B : List Int) (x : Int) : nth (A ++ x :: B) A.length = x := by
  unfold nth
  rw [List.getD_eq_getElem?_getD, List.getElem?_append_right (Nat.le_refl _), Nat.sub_self]
  rfl
theorem alk_at {j : Nat} (h : j < k) (ha : aln L j = true) : (alk L j).length < (alk L k).length ∧ nth (alk L k) (alk L j).length = (j : Int) := by
  obtain ⟨X, hX⟩ := alk_mono L (j + 1) (k - (j + 1))
  rw [show j + 1 + (k - (j + 1)) = k by omega, alk_yes ha, List.append_assoc] at hX
  rw [hX]
  exact ⟨by simp, nth_app_at _ _ _⟩
theorem alk_inv {i : Nat} : ∀ {k : Nat}, i < (alk L k).length → ∃ j, j < k ∧ aln L j = true ∧ (alk L j).length = i := by
  intro k
  induction k with
  | zero => intro h; simp [alk] at h
  | succ k ih =>
    intro h
    cases ha : aln L k with
    | true =>
      rw [alk_yes ha] at h
      by_cases c : i < (alk L k).length
      · obtain ⟨j, h1, h2, h3⟩ := ih c
        exact ⟨j, by omega, h2, h3⟩
      · exact ⟨k, by omega, ha, by simp at h; omega⟩
    | false =>
      rw [alk_no ha] at h
      obtain ⟨j, h1, h2, h3⟩ := ih h
      exact ⟨j, by omega, h2, h3⟩
end A
/-- All places that stand alone. -/
def alA (L : List Int) : List Int := alk L L.length
theorem alA_at {L : List Int} {i : Nat} (h : i < (alA L).length) : ∃ j, j < L.length ∧ aln L j = true ∧ (alk L j).length = i ∧ nth (alA L) i = (j : Int) := by
  obtain ⟨j, h1, h2, h3⟩ := alk_inv h
  refine ⟨j, h1, h2, h3, ?_⟩
  have := (alk_at h1 h2).2
  rw [h3] at this
  exact this
theorem alA_in (L : List Int) : InL L (alA L) := by
  intro k hk
  obtain ⟨j, h1, _, _, e⟩ := alA_at hk
  rw [e]
  omega
theorem alA_len (L : List Int) : (alA L).length ≤ L.length := alk_len L _
theorem alA_zero {L : List Int} (h : 0 < (alA L).length) : nth (alA L) 0 = 0 := by
  obtain ⟨j, h1, h2, h3, e⟩ := alA_at h
  have := (alk_at (L := L) (k := L.length) (j := 0) (by omega) rfl).2
  exact this
/-- The points that stand alone. -/
def ownL (L : List Int) : List Int := (alA L).map fun a => nth L a.toNat
theorem ownL_len (L : List Int) : (ownL L).length = (alA L).length := by simp [ownL]
theorem ownL_at (L : List Int) (i : Nat) (h : i < (alA L).length) : nth (ownL L) i = ptA L (alA L) i := by
  unfold ptA ownL
  unfold nth
  simp [List.getD, h]
/-- Whether a character starts at the place that stands alone as number i. -/
def chA (L : List Int) (i : Nat) : Bool := stb L (nth (alA L) i).toNat
/-- Whether a piece starts there. -/
def cst (L : List Int) (T : List Tl) (i : Nat) : Bool := i == 0 || cutW T (plc (ownL L) i (chA L i))
theorem plc_same (L : List Int) (i : Nat) (c : Bool) (h0 : 0 < i) (h : i < (alA L).length) : ({ wplA L (alA L) i with n := !c } : WPl) = plc (ownL L) i c := by
  unfold wplA plc
  rw [ownL_len, if_pos (show 1 ≤ i by omega), ← ownL_at L (i - 1) (by omega), ← ownL_at L i h]
  by_cases c1 : 2 ≤ i
  · rw [if_pos c1, if_pos c1, ← ownL_at L (i - 2) (by omega)]
    by_cases c2 : i + 1 < (alA L).length
    · rw [if_pos c2, if_pos c2, ← ownL_at L (i + 1) c2]
    · rw [if_neg c2, if_neg c2]
  · rw [if_neg c1, if_neg c1]
    by_cases c2 : i + 1 < (alA L).length
    · rw [if_pos c2, if_pos c2, ← ownL_at L (i + 1) c2]
    · rw [if_neg c2, if_neg c2]
/-- The row of starts, the first i of them laid. -/
def wB (L : List Int) (T : List Tl) (i : Nat) : List Bool := (List.range L.length).map fun j => aln L j && (decide ((alk L j).length < i) && cst L T (alk L j).length)
theorem wB_len (L : List Int) (T : List Tl) (i : Nat) : (wB L T i).length = L.length := by simp [wB]
theorem wB_at (L : List Int) (T : List Tl) (i j : Nat) (h : j < L.length) : (wB L T i).getD j false = (aln L j && (decide ((alk L j).length < i) && cst L T (alk L j).length)) := by
  simp [wB, List.getD_eq_getElem?_getD, h]
theorem wB_zero (L : List Int) (T : List Tl) : (wB L T 0).map Value.bool = List.replicate L.length (.bool false) := by
  apply List.ext_getElem
  · simp [wB]
  · intro j h1 h2
    simp [wB]
theorem wB_set (L : List Int) (T : List Tl) (i : Nat) (h : i < (alA L).length) : ((wB L T i).map Value.bool).set (nth (alA L) i).toNat (.bool (cst L T i)) = (wB L T (i + 1)).map Value.bool := by
  obtain ⟨j, h1, h2, h3, e⟩ := alA_at h
  rw [e]
  apply List.ext_getElem
  · simp [wB]
  · intro k hk1 hk2
    rw [List.getElem_set]
    have hk : k < L.length := by simpa [wB] using hk2
    by_cases c : j = k
    · subst c
      simp [wB, h2, h3]
    · rw [if_neg (by simpa using c)]
      simp only [wB, List.map_map, List.getElem_map, List.getElem_range, Function.comp]
      congr 1
      cases ha : aln L k with
      | false => rfl
      | true =>
        have hne : ¬ (alk L k).length = i := fun e2 => by
          have := (alk_at (k := L.length) hk ha).2
          rw [e2] at this
          have e3 : nth (alk L L.length) i = (j : Int) := e
          rw [e3] at this
          omega
        have : decide ((alk L k).length < i) = decide ((alk L k).length < i + 1) := decide_eq_decide.2 (by omega)
        rw [this]
/-- The cuts, by the places that stand alone. -/
def outk (s : ByteArray) (T : List Tl) : Nat → List Int
  | 0 => []
  | i + 1 => outk s T i ++ (if cst (pts s) T i = true then [((steps s (nth (alA (pts s)) i).toNat).2 : Int)] else [])
theorem outk_len (s : ByteArray) (T : List Tl) (k : Nat) : (outk s T k).length ≤ k := by
  induction k with
  | zero => exact Nat.le_refl _
  | succ k ih =>
    unfold outk
    split <;> simp <;> omega
theorem ctk_out (s : ByteArray) (T : List Tl) : ∀ j, j ≤ (pts s).length → ctk s (wB (pts s) T (alA (pts s)).length) j = outk s T (alk (pts s) j).length := by
  intro j
  induction j with
  | zero => intro _; rfl
  | succ j ih =>
    intro h
    rw [ctk, ih (by omega), wB_at _ _ _ _ (by omega)]
    cases ha : aln (pts s) j with
    | false => rw [alk_no ha]; simp
    | true =>
      obtain ⟨h1, h2⟩ := alk_at (L := pts s) (k := (pts s).length) (show j < _ by omega) ha
      rw [alk_yes ha, List.length_append]
      show _ = outk s T ((alk (pts s) j).length + 1)
      rw [outk]
      have e : (alA (pts s)).length = (alk (pts s) (pts s).length).length := rfl
      have e2 : nth (alA (pts s)) (alk (pts s) j).length = (j : Int) := h2
      rw [e, decide_eq_true h1, e2]
      simp
/-- What WordCuts tells. -/
def wcA (s : ByteArray) (T : List Tl) : List Int := outk s T (alA (pts s)).length ++ (if 0 < s.size then [(s.size : Int)] else [])
theorem cuts_wcA (s : ByteArray) (T : List Tl) : cutsL s (wB (pts s) T (alA (pts s)).length) = wcA s T := by
  unfold cutsL wcA
  rw [wB_len]
  by_cases h : (pts s).length = 0
  · rw [if_pos h]
    have h2 : ¬ 0 < s.size := fun e => by have := Chr.pts_pos e; omega
    have h3 : (alA (pts s)).length = 0 := by have := alA_len (pts s); omega
    rw [if_neg h2, h3]
    rfl
  · rw [if_neg h, ctk_out s T _ (Nat.le_refl _)]
    have h2 : 0 < s.size := by
      rcases Nat.eq_zero_or_pos s.size with e | e
      · exfalso; apply h
        have := pts_le s
        omega
      · exact e
    rw [if_pos h2]
    rfl
/-- What the program asks of a place is what the specification does. -/
theorem aln_prog (L : List Int) (i : Nat) (h : 0 < i) : aln L i = (ctl (nth L (i - 1)) || ((cat (nth L (i - 1)) == 2) || !mbl (nth L i))) := by
  unfold aln blg
  have : (i == 0) = false := by rw [beq_eq_false_iff_ne]; omega
  rw [this]
  cases ctl (nth L (i - 1)) <;> cases (cat (nth L (i - 1)) == 2) <;> cases mbl (nth L i) <;> rfl
end Wrd
end Go.Proofs.YtbecklokapcgbaaDoor
