/- A piece of a text between two of its points has just the points between. No Go in sight. -/
import Derived.Test.YtjcgchmncgihbaaDoorDec
namespace Go.Proofs.YtjcgchmncgihbaaDoor
open Go.RowKit
/-- What is read in a piece is what is read in the whole, if it ends within the piece. -/
theorem dec_cut {ss su P pos b0 b1 b2 b3 c1 c2 c3 : Nat} (h1 : pos + 1 < su → P + 1 < ss ∧ c1 = b1) (h2 : pos + 2 < su → P + 2 < ss ∧ c2 = b2) (h3 : pos + 3 < su → P + 3 < ss ∧ c3 = b3) (hn : pos + (dec ss P b0 b1 b2 b3).2 ≤ su) : dec su pos b0 c1 c2 c3 = dec ss P b0 b1 b2 b3 := by
  by_cases d0 : b0 < 128
  · unfold dec; rw [if_pos d0, if_pos d0]
  by_cases d1 : b0 / 32 = 6
  · have n2 : ¬ b0 / 16 = 14 := by omega
    have n3 : ¬ b0 / 8 = 30 := by omega
    by_cases k : pos + 1 < su
    · obtain ⟨e1, rfl⟩ := h1 k
      unfold dec
      simp only [d0, d1, n2, n3, k, e1, if_false, true_and, false_and]
    · have hs : dec su pos b0 c1 c2 c3 = (65533, 1) := by
        unfold dec; simp only [d0, n2, n3, k, if_false, false_and, and_false]
      rw [hs]
      unfold dec at hn ⊢
      simp only [d0, d1, n2, n3, if_false, true_and, false_and] at hn ⊢
      split
      · split
        · rename_i c4 c5
          rw [if_pos c4, if_pos c5] at hn
          simp only at hn
          omega
        · rfl
      · rfl
  by_cases d2 : b0 / 16 = 14
  · have n3 : ¬ b0 / 8 = 30 := by omega
    by_cases k : pos + 2 < su
    · obtain ⟨e1, rfl⟩ := h1 (by omega)
      obtain ⟨e2, rfl⟩ := h2 k
      have k1 : pos + 1 < su := by omega
      unfold dec
      simp only [d0, d1, d2, n3, k, k1, e1, e2, if_false, true_and, false_and]
    · have hs : dec su pos b0 c1 c2 c3 = (65533, 1) := by
        unfold dec; simp only [d0, d1, n3, k, if_false, false_and, and_false]
      rw [hs]
      unfold dec at hn ⊢
      simp only [d0, d1, d2, n3, if_false, true_and, false_and] at hn ⊢
      split
      · split
        · rename_i c4 c5
          rw [if_pos c4, if_pos c5] at hn
          simp only at hn
          omega
        · rfl
      · rfl
  by_cases d3 : b0 / 8 = 30
  · by_cases k : pos + 3 < su
    · obtain ⟨e1, rfl⟩ := h1 (by omega)
      obtain ⟨e2, rfl⟩ := h2 (by omega)
      obtain ⟨e3, rfl⟩ := h3 k
      have k1 : pos + 1 < su := by omega
      have k2 : pos + 2 < su := by omega
      unfold dec
      simp only [d0, d1, d2, d3, k, k1, k2, e1, e2, e3, if_false, true_and, false_and]
    · have hs : dec su pos b0 c1 c2 c3 = (65533, 1) := by
        unfold dec; simp only [d0, d1, d2, k, if_false, false_and, and_false]
      rw [hs]
      unfold dec at hn ⊢
      simp only [d0, d1, d2, d3, if_false, true_and, false_and] at hn ⊢
      split
      · split
        · rename_i c4 c5
          rw [if_pos c4, if_pos c5] at hn
          simp only at hn
          omega
        · rfl
      · rfl
  · unfold dec
    simp only [d0, d1, d2, d3, if_false, false_and]
theorem bt_extract (s : ByteArray) (A B i : Nat) (hB : B ≤ s.size) (hi : i < B - A) : bt (s.extract A B) i = bt s (A + i) := by
  have hs : (s.extract A B).size = B - A := by rw [ByteArray.size_extract]; omega
  rw [← bt_get _ i (by omega), ← bt_get s (A + i) (by omega)]
  congr 1
  exact ByteArray.getElem_extract _
theorem decode_cut (s : ByteArray) (A B pos : Nat) (hB : B ≤ s.size) (hp : pos < B - A) (hn : A + pos + dN s (A + pos) ≤ B) : dP (s.extract A B) pos = dP s (A + pos) ∧ dN (s.extract A B) pos = dN s (A + pos) := by
  have hs : (s.extract A B).size = B - A := by rw [ByteArray.size_extract]; omega
  have e : Utf8.decode (s.extract A B) pos = Utf8.decode s (A + pos) := by
    unfold dN at hn
    rw [decode_dec] at hn ⊢
    rw [decode_dec, hs, bt_extract s A B pos hB hp]
    refine dec_cut (fun h => ⟨by omega, ?_⟩) (fun h => ⟨by omega, ?_⟩) (fun h => ⟨by omega, ?_⟩) (by omega)
    · exact bt_extract s A B (pos + 1) hB (by omega)
    · exact bt_extract s A B (pos + 2) hB (by omega)
    · exact bt_extract s A B (pos + 3) hB (by omega)
  unfold dP dN
  rw [e]
  exact ⟨rfl, rfl⟩
theorem steps_few (s : ByteArray) : ∀ n, (steps s n).1.length ≤ n
  | 0 => Nat.le_refl _
  | n + 1 => by
    have ih := steps_few s n
    by_cases h : (steps s n).2 < s.size
    · rw [steps_next s n h]; simp; omega
    · have e : steps s (n + 1) = steps s n := steps_stop s n 1 (by omega)
      rw [e]; omega
theorem steps_in (s : ByteArray) (n : Nat) (h : n < (pts s).length) : (steps s n).2 < s.size := by
  by_cases hp : (steps s n).2 < s.size
  · exact hp
  · have e := steps_pts s n (by omega)
    have := steps_few s n
    rw [e] at this
    omega
theorem steps_len (s : ByteArray) : ∀ n, n ≤ (pts s).length → (steps s n).1.length = n
  | 0, _ => rfl
  | n + 1, h => by
    rw [steps_next s n (steps_in s n (by omega)), List.length_append, steps_len s n (by omega)]
    rfl
theorem steps_pre (s : ByteArray) (n : Nat) : ∀ m, ∃ R, (steps s (n + m)).1 = (steps s n).1 ++ R
  | 0 => ⟨[], by simp⟩
  | m + 1 => by
    obtain ⟨R, hR⟩ := steps_pre s n m
    by_cases h : (steps s (n + m)).2 < s.size
    · rw [show n + (m + 1) = n + m + 1 by omega, steps_next s (n + m) h, hR]
      exact ⟨R ++ [(dP s (steps s (n + m)).2 : Int)], by simp⟩
    · have e : steps s (n + m + 1) = steps s (n + m) := steps_stop s (n + m) 1 (by omega)
      rw [show n + (m + 1) = n + m + 1 by omega, e]
      exact ⟨R, hR⟩
/-- The first n points. -/
theorem steps_take (s : ByteArray) (n : Nat) (h : n ≤ (pts s).length) : (steps s n).1 = (pts s).take n := by
  have hl := steps_len s n h
  have hle := (steps_le s s.size).2
  have hz := (steps_le s s.size).1
  have hns : n ≤ s.size := by
    unfold pts at h
    omega
  obtain ⟨R, hR⟩ := steps_pre s n (s.size - n)
  rw [show n + (s.size - n) = s.size by omega] at hR
  have e : pts s = (steps s n).1 ++ R := hR
  rw [e, List.take_left' hl]
theorem steps_pos (s : ByteArray) (n m : Nat) : (steps s n).2 ≤ (steps s (n + m)).2 := by
  induction m with
  | zero => exact Nat.le_refl _
  | succ m ih =>
    by_cases h : (steps s (n + m)).2 < s.size
    · rw [show n + (m + 1) = n + m + 1 by omega, steps_next s (n + m) h]
      show _ ≤ (steps s (n + m)).2 + _
      omega
    · have e : steps s (n + m + 1) = steps s (n + m) := steps_stop s (n + m) 1 (by omega)
      rw [show n + (m + 1) = n + m + 1 by omega, e]
      exact ih
theorem steps_zero (s : ByteArray) : steps s 0 = ([], 0) := rfl
set_option maxHeartbeats 1000000 in
/-- The points of a piece between point a and point b. -/
theorem steps_piece (s : ByteArray) (a b : Nat) (hb : b ≤ (pts s).length) : ∀ k, a + k ≤ b → steps (s.extract (steps s a).2 (steps s b).2) k = (((pts s).drop a).take k, (steps s (a + k)).2 - (steps s a).2)
  | 0, _ => by rw [steps_zero, List.take_zero, Nat.add_zero, Nat.sub_self]
  | k + 1, hk => by
    have ih := steps_piece s a b hb k (by omega)
    have hB := (steps_le s b).1
    have hA := steps_pos s a k
    have hp := steps_in s (a + k) (by omega)
    have hd := dN_bd s (steps s (a + k)).2 hp
    have hnx := steps_next s (a + k) hp
    have hup : (steps s (a + k + 1)).2 ≤ (steps s b).2 := by
      have := steps_pos s (a + k + 1) (b - (a + k + 1))
      rwa [show a + k + 1 + (b - (a + k + 1)) = b by omega] at this
    have hn2 : (steps s (a + k + 1)).2 = (steps s (a + k)).2 + dN s (steps s (a + k)).2 := by rw [hnx]
    have hsz : (s.extract (steps s a).2 (steps s b).2).size = (steps s b).2 - (steps s a).2 := by rw [ByteArray.size_extract]; omega
    have eA : (steps s a).2 + ((steps s (a + k)).2 - (steps s a).2) = (steps s (a + k)).2 := by omega
    obtain ⟨q1, q2⟩ := decode_cut s (steps s a).2 (steps s b).2 ((steps s (a + k)).2 - (steps s a).2) hB (by omega) (by rw [eA]; omega)
    rw [eA] at q1 q2
    have hlt : (steps (s.extract (steps s a).2 (steps s b).2) k).2 < (s.extract (steps s a).2 (steps s b).2).size := by
      rw [ih, hsz]
      show (steps s (a + k)).2 - (steps s a).2 < _
      omega
    rw [steps_next _ k hlt, ih]
    simp only
    rw [q1, q2]
    have e1 : ((pts s).drop a).take (k + 1) = ((pts s).drop a).take k ++ [(dP s (steps s (a + k)).2 : Int)] := by
      rw [List.take_add_one, List.getElem?_drop]
      congr 1
      have t1 := steps_take s (a + k + 1) (by omega)
      have t2 := steps_take s (a + k) (by omega)
      rw [hnx, t2] at t1
      simp only at t1
      rw [List.take_add_one] at t1
      have := List.append_cancel_left t1
      rw [← this]
    rw [e1]
    congr 1
    rw [show a + (k + 1) = a + k + 1 by omega, hn2]
    omega
theorem pts_piece (s : ByteArray) (a b : Nat) (hab : a ≤ b) (hb : b ≤ (pts s).length) : pts (s.extract (steps s a).2 (steps s b).2) = ((pts s).drop a).take (b - a) := by
  have h := steps_piece s a b hb (b - a) (by omega)
  rw [show a + (b - a) = b by omega] at h
  have hB := (steps_le s b).1
  have hsz : (s.extract (steps s a).2 (steps s b).2).size = (steps s b).2 - (steps s a).2 := by rw [ByteArray.size_extract]; omega
  have := steps_pts (s.extract (steps s a).2 (steps s b).2) (b - a) (by rw [h, hsz]; exact Nat.le_refl _)
  rw [← this, h]
end Go.Proofs.YtjcgchmncgihbaaDoor
