/- What is written in Shift is read back as it was. No walk. -/
import Derived.Test.YtohpifhpfijmcaaDoorHshM
import Derived.Test.YtohpifhpfijmcaaDoorRt
namespace Go.Proofs.YtohpifhpfijmcaaDoor
open Go.RowKit
theorem stF_idem {st p : Int} (hp : 0 ≤ p) : stF (stF st p) p = stF st p := by
  by_cases h32 : 32 ≤ p ∨ p = 27
  · exact stF_same _ h32
  · have e : ∀ x, stF x p = x := fun x => by unfold stF; rw [if_neg (by omega), if_pos (by omega)]
    rw [e, e]
theorem shGo_pre {D : List Int} (R : List Int) : ∀ (out : List Int) (st : Int) (k : Nat), shGo out st k R = (0, 0, D) → ∃ T, D = out ++ T := by
  induction R with
  | nil =>
    intro out st k h
    have h' : legA (out ++ layS st 0) = (0, 0, D) := h
    unfold legA at h'
    split at h'
    · simp at h'
    · simp only [Prod.mk.injEq, true_and] at h'; exact ⟨layS st 0, h'.symm⟩
  | cons p t ih =>
    intro out st k h
    by_cases hn : stF st p = -1
    · rw [shGo_not hn] at h; simp at h
    · rw [shGo_one hn] at h
      obtain ⟨T, hT⟩ := ih _ _ _ h
      exact ⟨layS st (stF st p) ++ (layP (stF st p) p ++ T), by rw [hT]; simp⟩
theorem letter_bd' (k : Int) : 0 ≤ letter k ∧ letter k ≤ 255 := by
  unfold letter
  repeat' split
  all_goals omega
theorem layS_byte (st nx : Int) : ∀ x ∈ layS st nx, 0 ≤ x ∧ x < 256 := by
  intro x hx
  unfold layS at hx
  have := letter_bd' nx
  split at hx
  · simp at hx
  · simp at hx; omega
theorem shGo_byte {D : List Int} (R : List Int) : ∀ (out : List Int) (st : Int) (k : Nat), (∀ x ∈ R, isPt x = true) → (∀ x ∈ out, 0 ≤ x ∧ x < 256) → shGo out st k R = (0, 0, D) → ∀ x ∈ D, 0 ≤ x ∧ x < 256 := by
  induction R with
  | nil =>
    intro out st k _ ho h
    have h' : legA (out ++ layS st 0) = (0, 0, D) := h
    unfold legA at h'
    split at h'
    · simp at h'
    · simp only [Prod.mk.injEq, true_and] at h'
      rw [← h']
      intro x hx
      rcases List.mem_append.1 hx with hx | hx
      · exact ho x hx
      · exact layS_byte _ _ x hx
  | cons p t ih =>
    intro out st k hR ho h
    by_cases hn : stF st p = -1
    · rw [shGo_not hn] at h; simp at h
    · rw [shGo_one hn] at h
      refine ih _ _ _ (fun x hx => hR x (by simp [hx])) ?_ h
      have hp := (isPt_iff p).1 (hR p (by simp))
      intro x hx
      rcases List.mem_append.1 hx with hx | hx
      · rcases List.mem_append.1 hx with hx | hx
        · exact ho x hx
        · exact layS_byte _ _ x hx
      · exact layP_byte hp.1 hn x hx
/-- The piece that leads to a state. -/
theorem pc_state {D A T : List Int} {st nx : Int} (h0 : 0 ≤ nx) (h4 : nx ≤ 4) (hD : D = A ++ ([27, letter nx] ++ T)) (hz : ∀ x ∈ D, 0 ≤ x ∧ x < 256) : A.length < (strOfNums D).size ∧ pc (strOfNums D) A.length st = (-1, nx, 2) := by
  have b0 := bt_mid hD hz 0 (by simp)
  have b1 := bt_mid hD hz 1 (by simp)
  simp only [Nat.add_zero, List.getElem_cons_zero, List.getElem_cons_succ] at b0 b1
  have hn := (name_letter h0 h4).1 b1.1
  refine ⟨b0.2, ?_⟩
  unfold pc
  rw [if_pos (by omega), hn, if_pos ⟨b1.2, by omega⟩]
/-- The piece that is a point. -/
theorem pc_point {D A T : List Int} {nx p : Int} (h0 : 0 ≤ nx) (h4 : nx ≤ 4) (hp : 0 ≤ p) (hn : stF nx p = nx) (hD : D = A ++ (layP nx p ++ T)) (hz : ∀ x ∈ D, 0 ≤ x ∧ x < 256) : A.length < (strOfNums D).size ∧ pc (strOfNums D) A.length nx = (p, behind nx p, (layP nx p).length) ∧ (layP nx p).length ≠ 0 := by
  rcases stF_here h0 hp hn with ⟨a, b⟩ | ⟨a, b, c⟩ | ⟨a, b, c, d⟩ | ⟨a, b, c⟩
  · have e : layP nx p = [p] := by unfold layP; rw [if_pos (.inl a)]
    rw [e] at hD ⊢
    have b0 := bt_mid hD hz 0 (by simp)
    simp only [Nat.add_zero, List.getElem_cons_zero] at b0
    refine ⟨b0.2, ?_, by simp⟩
    unfold pc behind
    rw [if_neg (by omega), if_pos (by omega), b0.1]
    by_cases h10 : p = 10
    · rw [if_pos h10, if_pos (by omega)]; rfl
    · rw [if_neg h10, if_neg (by omega)]; rfl
  · have e : layP nx p = [p] := by unfold layP; rw [if_pos (.inr c)]
    rw [e] at hD ⊢
    have b0 := bt_mid hD hz 0 (by simp)
    simp only [Nat.add_zero, List.getElem_cons_zero] at b0
    refine ⟨b0.2, ?_, by simp⟩
    unfold pc behind
    rw [if_neg (by omega), if_neg (by omega), if_pos c, if_pos (by omega), if_neg (by omega), b0.1, c]; rfl
  · have e : layP nx p = [32 + p % 256] := by unfold layP; rw [if_neg (by omega), if_neg (by omega)]
    rw [e] at hD ⊢
    have b0 := bt_mid hD hz 0 (by simp)
    simp only [Nat.add_zero, List.getElem_cons_zero] at b0
    refine ⟨b0.2, ?_, by simp⟩
    unfold pc behind
    rw [if_neg (by omega), if_neg (by omega), if_neg (by omega), if_pos b, if_pos (by omega), if_neg (by omega)]
    have e2 : 256 + 256 * nx + (bt (strOfNums D) A.length : Int) - 32 = p := by omega
    rw [e2]; rfl
  · have e : layP nx p = [33 + (p - 24576) / 94, 33 + (p - 24576) % 94] := by unfold layP; rw [if_neg (by omega), if_pos a]
    rw [e] at hD ⊢
    have b0 := bt_mid hD hz 0 (by simp)
    have b1 := bt_mid hD hz 1 (by simp)
    simp only [Nat.add_zero, List.getElem_cons_zero, List.getElem_cons_succ] at b0 b1
    refine ⟨b0.2, ?_, by simp⟩
    unfold pc behind
    have e2 : 24576 + 94 * ((bt (strOfNums D) A.length : Int) - 33) + ((bt (strOfNums D) (A.length + 1) : Int) - 33) = p := by omega
    rw [if_neg (by omega), if_neg (by omega), if_neg (by omega), if_neg (by omega), if_pos ⟨b1.2, by omega, by omega, by omega, by omega, by omega⟩, if_neg (by omega), e2, a]; rfl
theorem sh_back {D : List Int} (hz : ∀ x ∈ D, 0 ≤ x ∧ x < 256) (R : List Int) : ∀ (out : List Int) (st : Int) (k n : Nat) (l : List Int), (∀ x ∈ R, isPt x = true) → 0 ≤ st → st ≤ 4 → shGo out st k R = (0, 0, D) → hst (strOfNums D) n = ⟨l, st, out.length⟩ → n ≤ out.length →
    ∃ n', n' ≤ D.length ∧ hst (strOfNums D) n' = ⟨l ++ R, 0, D.length⟩ := by
  induction R with
  | nil =>
    intro out st k n l _ h0 h4 h hh hn
    have h' : legA (out ++ layS st 0) = (0, 0, D) := h
    unfold legA at h'
    split at h'
    · simp at h'
    simp only [Prod.mk.injEq, true_and] at h'
    rw [List.append_nil]
    by_cases hs : st = 0
    · subst hs
      have e : layS 0 0 = [] := by unfold layS; rw [if_pos rfl]
      rw [e, List.append_nil] at h'
      rw [← h'] at hh ⊢
      exact ⟨n, hn, hh⟩
    · have e : layS st 0 = [27, letter 0] := by unfold layS; rw [if_neg hs]
      have hD : D = out ++ ([27, letter 0] ++ []) := by rw [← h', e]; simp
      obtain ⟨p1, p2⟩ := pc_state (st := st) (by omega) (by omega) hD hz
      have hx := hst_succ hh p1 p2 (by omega)
      have hl : D.length = out.length + 2 := by rw [hD]; simp
      refine ⟨n + 1, by omega, ?_⟩
      rw [hx, hl, if_neg (by omega)]
  | cons p t ih =>
    intro out st k n l hR h0 h4 h hh hn
    by_cases hno : stF st p = -1
    · rw [shGo_not hno] at h; simp at h
    rw [shGo_one hno] at h
    have hp := ((isPt_iff p).1 (hR p (by simp))).1
    have hb := stF_bd h0 h4 hp hno
    have hid := stF_idem (st := st) hp
    obtain ⟨T, hT⟩ := shGo_pre _ _ _ _ h
    generalize stF st p = nx at *
    have hlp := layP_len nx p
    have hbb := behind_bd (p := p) hb.1 hb.2
    have hpoint : ∀ m, m ≤ (out ++ layS st nx).length → hst (strOfNums D) m = ⟨l, nx, (out ++ layS st nx).length⟩ → ∃ n', n' ≤ D.length ∧ hst (strOfNums D) n' = ⟨l ++ p :: t, 0, D.length⟩ := by
      intro m hm hx
      have hD : D = (out ++ layS st nx) ++ (layP nx p ++ T) := by rw [hT]; simp
      obtain ⟨q1, q2, q3⟩ := pc_point hb.1 hb.2 hp hid hD hz
      have hx2 := hst_succ hx q1 q2 q3
      rw [if_pos hp] at hx2
      have := ih (out ++ layS st nx ++ layP nx p) (behind nx p) (k + 1) (m + 1) (l ++ [p]) (fun x hx => hR x (by simp [hx])) hbb.1 hbb.2 h (by rw [hx2]; simp [Nat.add_assoc]) (by simp only [List.length_append] at hm ⊢; omega)
      simpa using this
    by_cases hs : st = nx
    · have e : layS st nx = [] := by unfold layS; rw [if_pos hs]
      rw [e, List.append_nil] at hpoint
      exact hpoint n hn (by rw [hh, hs])
    · have e : layS st nx = [27, letter nx] := by unfold layS; rw [if_neg hs]
      have hD : D = out ++ ([27, letter nx] ++ (layP nx p ++ T)) := by rw [hT, e]; simp
      obtain ⟨p1, p2⟩ := pc_state (st := st) hb.1 hb.2 hD hz
      have hx := hst_succ hh p1 p2 (by omega)
      rw [if_neg (by omega)] at hx
      refine hpoint (n + 1) (by rw [e]; simp; omega) ?_
      rw [hx, e]; simp
theorem shAns_back {l D : List Int} (hl : ∀ x ∈ l, isPt x = true) (h : shAns l = (0, 0, D)) : hans (strOfNums D) = legA (textL l) ∧ D.length ≤ 65536 := by
  have hz := shGo_byte l [] 0 0 hl (by simp) h
  obtain ⟨n, hn, hh⟩ := sh_back hz l [] 0 0 0 [] hl (by omega) (by omega) h rfl (Nat.le_refl _)
  rw [List.nil_append] at hh
  refine ⟨hans_text hh (by rw [strOfNums_size]; exact hn) (by rw [strOfNums_size]; omega), ?_⟩
  have key : ∀ (R out : List Int) (st : Int) (k : Nat), shGo out st k R = (0, 0, D) → D.length ≤ 65536 := by
    intro R
    induction R with
    | nil =>
      intro out st k h
      have h' : legA (out ++ layS st 0) = (0, 0, D) := h
      unfold legA at h'
      split at h'
      · simp at h'
      · simp only [Prod.mk.injEq, true_and] at h'; rw [← h']; omega
    | cons p t ih =>
      intro out st k h
      by_cases hn : stF st p = -1
      · rw [shGo_not hn] at h; simp at h
      · rw [shGo_one hn] at h; exact ih _ _ _ h
  exact key l [] 0 0 h
/-- No point that is written stands for a broken piece. -/
theorem shGo_no {D : List Int} (R : List Int) : ∀ (out : List Int) (st : Int) (k : Nat), shGo out st k R = (0, 0, D) → ∀ x ∈ R, x ≠ 65533 := by
  induction R with
  | nil => intro out st k _; simp
  | cons p t ih =>
    intro out st k h
    by_cases hn : stF st p = -1
    · rw [shGo_not hn] at h; simp at h
    · rw [shGo_one hn] at h
      intro x hx
      rcases List.mem_cons.1 hx with rfl | hx
      · intro e
        apply hn
        rw [e]
        unfold stF
        rw [if_neg (by omega), if_neg (by omega), if_neg (by omega), if_neg (by omega), if_neg (by omega)]
      · exact ih _ _ _ h x hx
theorem dec_len (size pos b0 b1 b2 b3 : Nat) (h : (dec size pos b0 b1 b2 b3).1 ≠ 65533) : (Lib.encodeRuneZ ((dec size pos b0 b1 b2 b3).1 : Int)).length ≤ (dec size pos b0 b1 b2 b3).2 := by
  unfold dec at h ⊢
  split at h
  · rename_i a; rw [if_pos a]; simp only []; rw [Lib.encodeRuneZ_one (by omega) (by omega)]; simp
  rename_i a0
  rw [if_neg a0]
  split at h
  · rename_i a
    rw [if_pos a]
    split at h
    · rename_i c; rw [if_pos c]; simp only []; rw [Lib.encodeRuneZ_two (by omega) (by omega)]; simp
    · exact absurd rfl h
  rename_i a1
  rw [if_neg a1]
  split at h
  · rename_i a
    rw [if_pos a]
    split at h
    · rename_i c; rw [if_pos c]; simp only []; rw [Lib.encodeRuneZ_three (by omega)]; simp
    · exact absurd rfl h
  rename_i a2
  rw [if_neg a2]
  split at h
  · rename_i a
    rw [if_pos a]
    split at h
    · rename_i c; rw [if_pos c]; simp only []; rw [Lib.encodeRuneZ_four (by omega) (by omega)]; simp
    · exact absurd rfl h
  · exact absurd rfl h
theorem steps_len (s : ByteArray) (n : Nat) (h : ∀ x ∈ (steps s n).1, x ≠ 65533) : (textL (steps s n).1).length ≤ (steps s n).2 := by
  induction n with
  | zero => simp [steps, textL]
  | succ n ih =>
    unfold steps at h ⊢
    split at h
    · rename_i hlt
      rw [if_pos hlt]
      simp only [] at h ⊢
      have h1 := ih (fun x hx => h x (by simp [hx]))
      have h2 : ((dP s (steps s n).2 : Nat) : Int) ≠ 65533 := h _ (by simp)
      unfold textL
      rw [List.flatMap_append, List.flatMap_singleton, List.length_append]
      have h3 : (Lib.encodeRuneZ ((dP s (steps s n).2 : Nat) : Int)).length ≤ dN s (steps s n).2 := by
        unfold dP dN at *
        rw [decode_dec] at h2 ⊢
        exact dec_len _ _ _ _ _ _ (by omega)
      unfold textL at h1
      omega
    · rename_i hlt
      rw [if_neg hlt]
      exact ih h
theorem pts_len (s : ByteArray) (h : ∀ x ∈ pts s, x ≠ 65533) : (textL (pts s)).length ≤ s.size := by
  have h1 := steps_len s s.size h
  have h2 := (steps_le s s.size).1
  unfold pts
  omega
/-- What comes of a text that Shift can write, written and read back. -/
theorem shiftD_back {s : ByteArray} {D : List Int} (hs : s.size ≤ 65536) (h : shAns (pts s) = (0, 0, D)) : shiftD (strOfNums D) = (0, 0, textL (pts s)) := by
  obtain ⟨h1, h2⟩ := shAns_back (pts_pt s) h
  have h3 := pts_len s (shGo_no (pts s) [] 0 0 h)
  unfold shiftD
  rw [if_neg (by rw [strOfNums_size]; omega), h1]
  unfold legA
  rw [if_neg (by omega)]
end Go.Proofs.YtohpifhpfijmcaaDoor
