/- Ropes, pure: where a text is cut, its tree, its nodes. -/
import Derived.Test.YtaipnmmlfbfcnaaDoorDec
namespace Go.Proofs.YtaipnmmlfbfcnaaDoor.Rop
open Go.RowKit
set_option linter.unusedVariables false
theorem dN_all (s : ByteArray) (r : Nat) : 1 ≤ dN s r ∧ dN s r ≤ 4 := by
  unfold dN
  rw [decode_dec]
  unfold dec
  repeat' split
  all_goals simp only []
  all_goals omega
theorem dN_lead {s : ByteArray} {r : Nat} (h : 1 < dN s r) : 192 ≤ bt s r ∧ r + dN s r ≤ s.size ∧ ∀ j, 1 ≤ j → j < dN s r → bt s (r + j) ≤ 191 := by
  unfold dN at *
  rw [decode_dec] at *
  unfold dec at *
  by_cases c1 : bt s r < 128
  · rw [if_pos c1] at h
    simp at h
  rw [if_neg c1] at h ⊢
  by_cases c2 : bt s r / 32 = 6 ∧ r + 1 < s.size ∧ bt s (r + 1) / 64 = 2
  · rw [if_pos c2] at h ⊢
    split at h
    · rename_i c3
      rw [if_pos c3]
      refine ⟨by omega, by show r + 2 ≤ s.size; omega, ?_⟩
      intro j h1 h2
      have h2' : j < 2 := h2
      obtain rfl : j = 1 := by omega
      omega
    · simp at h
  rw [if_neg c2] at h ⊢
  by_cases c4 : bt s r / 16 = 14 ∧ r + 1 < s.size ∧ bt s (r + 1) / 64 = 2 ∧ r + 2 < s.size ∧ bt s (r + 2) / 64 = 2
  · rw [if_pos c4] at h ⊢
    split at h
    · rename_i c3
      rw [if_pos c3]
      refine ⟨by omega, by show r + 3 ≤ s.size; omega, ?_⟩
      intro j h1 h2
      have h2' : j < 3 := h2
      have : j = 1 ∨ j = 2 := by omega
      rcases this with rfl | rfl <;> omega
    · simp at h
  rw [if_neg c4] at h ⊢
  by_cases c5 : bt s r / 8 = 30 ∧ r + 1 < s.size ∧ bt s (r + 1) / 64 = 2 ∧ r + 2 < s.size ∧ bt s (r + 2) / 64 = 2 ∧ r + 3 < s.size ∧ bt s (r + 3) / 64 = 2
  · rw [if_pos c5] at h ⊢
    split at h
    · rename_i c3
      rw [if_pos c3]
      refine ⟨by omega, by show r + 4 ≤ s.size; omega, ?_⟩
      intro j h1 h2
      have h2' : j < 4 := h2
      have : j = 1 ∨ j = 2 ∨ j = 3 := by omega
      rcases this with rfl | rfl | rfl <;> omega
    · simp at h
  rw [if_neg c5] at h
  simp at h
/-- The places between points, from the beginning. -/
def pos (s : ByteArray) : Nat → Nat
  | 0 => 0
  | n + 1 => pos s n + dN s (pos s n)
theorem pos_mono (s : ByteArray) {i j : Nat} (h : i < j) : pos s (i + 1) ≤ pos s j := by
  induction j with
  | zero => omega
  | succ j ih =>
    by_cases e : i = j
    · subst e; exact Nat.le_refl _
    · have := ih (by omega)
      have h2 : pos s (j + 1) = pos s j + dN s (pos s j) := rfl
      omega
theorem pos_up (s : ByteArray) (i : Nat) : pos s i < pos s (i + 1) := by
  have h2 : pos s (i + 1) = pos s i + dN s (pos s i) := rfl
  have := dN_all s (pos s i)
  omega
theorem pos_around (s : ByteArray) : ∀ r, ∃ i, pos s i ≤ r ∧ r < pos s (i + 1)
  | 0 => ⟨0, Nat.le_refl _, pos_up s 0⟩
  | r + 1 => by
    obtain ⟨i, h1, h2⟩ := pos_around s r
    by_cases c : r + 1 < pos s (i + 1)
    · exact ⟨i, by omega, c⟩
    · have := pos_up s (i + 1)
      exact ⟨i + 1, by omega, by omega⟩
theorem pos_lt {s : ByteArray} {i k : Nat} (h : pos s i < pos s k) : i < k := by
  rcases Nat.lt_or_ge i k with h1 | h1
  · exact h1
  · exfalso
    rcases Nat.eq_or_lt_of_le h1 with rfl | h2
    · omega
    · have := pos_mono s h2
      have := pos_up s k
      omega
/-- Whether a place is within a point's writing, by the few bytes ahead. -/
def winK (s : ByteArray) (p b : Nat) : Bool := decide (b ≤ p) && decide (b < dN s (p - b))
def win (s : ByteArray) (p : Nat) : Bool := winK s p 1 || winK s p 2 || winK s p 3
theorem win_iff (s : ByteArray) (p : Nat) : win s p = true ↔ ∃ b, 1 ≤ b ∧ b ≤ 3 ∧ b ≤ p ∧ b < dN s (p - b) := by
  unfold win winK
  simp only [Bool.or_eq_true, Bool.and_eq_true, decide_eq_true_eq]
  constructor
  · rintro ((⟨h1, h2⟩ | ⟨h1, h2⟩) | ⟨h1, h2⟩)
    · exact ⟨1, by omega, by omega, h1, h2⟩
    · exact ⟨2, by omega, by omega, h1, h2⟩
    · exact ⟨3, by omega, by omega, h1, h2⟩
  · rintro ⟨b, h1, h2, h3, h4⟩
    have : b = 1 ∨ b = 2 ∨ b = 3 := by omega
    rcases this with rfl | rfl | rfl
    · exact .inl (.inl ⟨h3, h4⟩)
    · exact .inl (.inr ⟨h3, h4⟩)
    · exact .inr ⟨h3, h4⟩
theorem win_pos (s : ByteArray) (k : Nat) : win s (pos s k) = false := by
  cases hw : win s (pos s k) with
  | false => rfl
  | true =>
    exfalso
    obtain ⟨b, h1, h2, h3, h4⟩ := (win_iff s _).1 hw
    obtain ⟨i, i1, i2⟩ := pos_around s (pos s k - b)
    have e : pos s (i + 1) = pos s i + dN s (pos s i) := rfl
    by_cases c : pos s i = pos s k - b
    · have := pos_mono s (pos_lt (s := s) (i := i) (k := k) (by omega))
      rw [← c] at h4
      omega
    · have hl := (dN_lead (s := s) (r := pos s k - b) (by omega)).1
      have hc := (dN_lead (s := s) (r := pos s i) (by omega)).2.2 (pos s k - b - pos s i) (by omega) (by omega)
      rw [show pos s i + (pos s k - b - pos s i) = pos s k - b by omega] at hc
      omega
theorem pos_of_win {s : ByteArray} {p : Nat} (h : win s p = false) : ∃ k, pos s k = p := by
  obtain ⟨i, i1, i2⟩ := pos_around s p
  by_cases c : pos s i = p
  · exact ⟨i, c⟩
  · exfalso
    have e : pos s (i + 1) = pos s i + dN s (pos s i) := rfl
    have hd := dN_all s (pos s i)
    have : win s p = true := (win_iff s p).2 ⟨p - pos s i, by omega, by omega, by omega, by rw [show p - (p - pos s i) = pos s i by omega]; omega⟩
    rw [h] at this
    cases this
/-- The greatest place at most at p that is not within a writing. -/
def dn (s : ByteArray) : Nat → Nat
  | 0 => 0
  | p + 1 => if win s (p + 1) then dn s p else p + 1
theorem dn_le (s : ByteArray) : ∀ p, dn s p ≤ p
  | 0 => Nat.le_refl _
  | p + 1 => by
    have := dn_le s p
    unfold dn
    split <;> omega
theorem dn_eq {s : ByteArray} {j : Nat} : ∀ {p : Nat}, pos s j ≤ p → p < pos s (j + 1) → dn s p = pos s j
  | 0, h, _ => by
    show 0 = pos s j
    omega
  | p + 1, h, h2 => by
    unfold dn
    by_cases c : pos s j = p + 1
    · have := win_pos s j
      rw [c] at this
      rw [this, c]
      rfl
    · cases hw : win s (p + 1) with
      | true => exact dn_eq (by omega) (by omega)
      | false =>
        exfalso
        obtain ⟨k, hk⟩ := pos_of_win hw
        have h3 := pos_lt (s := s) (i := j) (k := k) (by omega)
        have := pos_mono s h3
        omega
theorem dn_near (s : ByteArray) (p : Nat) : p ≤ dn s p + 3 := by
  obtain ⟨i, i1, i2⟩ := pos_around s p
  rw [dn_eq i1 i2]
  have e : pos s (i + 1) = pos s i + dN s (pos s i) := rfl
  have := dN_all s (pos s i)
  omega
def cut (s : ByteArray) : Nat := dn s ((s.size + 1) / 2)
theorem cut_bd {s : ByteArray} (h : 64 < s.size) : 0 < cut s ∧ cut s < s.size := by
  have h1 := dn_le s ((s.size + 1) / 2)
  have h2 := dn_near s ((s.size + 1) / 2)
  unfold cut
  omega
/-- How many ends of lines. -/
def ends (s : ByteArray) : Nat := s.data.toList.countP (fun b => b.toNat == 10)
/-- A tree. -/
inductive RT where
  | nil
  | leaf (t : ByteArray)
  | node (t : ByteArray) (l r : RT)
def RT.text : RT → ByteArray
  | .nil => ⟨#[]⟩
  | .leaf t => t
  | .node t _ _ => t
def RT.lines (T : RT) : Nat := ends T.text
def RT.count : RT → Nat
  | .nil => 0
  | .leaf _ => 1
  | .node _ l r => l.count + r.count + 1
/-- The tree of a text. -/
inductive IsTr : ByteArray → RT → Prop
  | nil {t} : t.size = 0 → IsTr t .nil
  | leaf {t} : 0 < t.size → t.size ≤ 64 → IsTr t (.leaf t)
  | node {t l r} : 64 < t.size → IsTr (t.extract 0 (cut t)) l → IsTr (t.extract (cut t) t.size) r → IsTr t (.node t l r)
theorem size_cut {t : ByteArray} (h : 64 < t.size) : (t.extract 0 (cut t)).size = cut t ∧ (t.extract (cut t) t.size).size = t.size - cut t := by
  have := cut_bd h
  constructor
  · rw [ByteArray.size_extract]; omega
  · rw [ByteArray.size_extract]; omega
theorem isTr_exists : ∀ (n : Nat) (t : ByteArray), t.size ≤ n → ∃ T, IsTr t T
  | 0, t, h => ⟨.nil, .nil (by omega)⟩
  | n + 1, t, h => by
    by_cases c0 : t.size = 0
    · exact ⟨_, .nil c0⟩
    by_cases c1 : t.size ≤ 64
    · exact ⟨_, .leaf (by omega) c1⟩
    have hc := cut_bd (s := t) (by omega)
    have hz := size_cut (t := t) (by omega)
    obtain ⟨l, hl⟩ := isTr_exists n (t.extract 0 (cut t)) (by omega)
    obtain ⟨r, hr⟩ := isTr_exists n (t.extract (cut t) t.size) (by omega)
    exact ⟨_, .node (by omega) hl hr⟩
theorem IsTr.text {t : ByteArray} {T : RT} (h : IsTr t T) : T.text = t := by
  cases h with
  | nil h0 => exact (ByteArray.size_eq_zero_iff.1 h0).symm
  | leaf _ _ => rfl
  | node _ _ _ => rfl
theorem IsTr.count {t : ByteArray} {T : RT} (h : IsTr t T) : T.count + 1 ≤ 2 * t.size + 1 ∧ (0 < t.size → 1 ≤ T.count ∧ T.count + 1 ≤ 2 * t.size) := by
  induction h with
  | nil h0 => exact ⟨by show 0 + 1 ≤ _; omega, fun h => by omega⟩
  | leaf h0 h1 => exact ⟨by show 1 + 1 ≤ _; omega, fun _ => ⟨by show 1 ≤ 1; omega, by show 1 + 1 ≤ _; omega⟩⟩
  | @node t l r h hl hr il ir =>
    have hz := size_cut h
    have hc := cut_bd h
    have h1 := (il.2 (by omega)).2
    have h2 := (ir.2 (by omega)).2
    have e : (RT.node t l r).count = l.count + r.count + 1 := rfl
    rw [e]
    omega
theorem data_extract (s : ByteArray) (a b : Nat) : (s.extract a b).data.toList = (s.data.toList.take b).drop a := by
  rw [ByteArray.data_extract]
  simp [List.take_drop]
  by_cases h : a ≤ b
  · rw [show a + (b - a) = b by omega]
  · rw [List.drop_of_length_le (by simp; omega), List.drop_of_length_le (by simp; omega)]
theorem ends_cut {t : ByteArray} (h : 64 < t.size) : ends t = ends (t.extract 0 (cut t)) + ends (t.extract (cut t) t.size) := by
  unfold ends
  rw [data_extract, data_extract, ← List.countP_append]
  congr 1
  simp only [List.drop_zero]
  have : t.data.toList.take t.size = t.data.toList := List.take_of_length_le (Nat.le_of_eq Array.length_toList)
  rw [this, List.take_append_drop]
theorem ends_le (t : ByteArray) : ends t ≤ t.size := by
  unfold ends
  exact Nat.le_trans List.countP_le_length (Nat.le_of_eq Array.length_toList)
/-- A node of a rope. -/
structure Nd where
  text : ByteArray
  left : Int
  right : Int
  size : Int
  lines : Int
def nds : RT → Int → List Nd
  | .nil, _ => []
  | .leaf t, at' => [⟨t, -1, -1, t.size, ends t⟩]
  | .node t l r, at' => ⟨⟨#[]⟩, at' + 1, at' + 1 + l.count, t.size, ends t⟩ :: (nds l (at' + 1) ++ nds r (at' + 1 + l.count))
theorem nds_len : ∀ (T : RT) (a : Int), (nds T a).length = T.count
  | .nil, _ => rfl
  | .leaf _, _ => rfl
  | .node t l r, a => by
    show (nds l _ ++ nds r _).length + 1 = l.count + r.count + 1
    rw [List.length_append, nds_len l, nds_len r]
end Go.Proofs.YtaipnmmlfbfcnaaDoor.Rop
