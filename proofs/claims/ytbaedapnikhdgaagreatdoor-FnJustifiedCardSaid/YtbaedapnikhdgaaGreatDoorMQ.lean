/- Several texts in one. -/
import Derived.Test.YtbaedapnikhdgaaGreatDoorChrP
import Derived.Test.YtbaedapnikhdgaaGreatDoorND
import Derived.Test.YtbaedapnikhdgaaGreatDoorChsL
import Derived.Test.YtbaedapnikhdgaaGreatDoorChsI
import Derived.Test.YtbaedapnikhdgaaGreatDoorChrI
import Derived.Test.YtbaedapnikhdgaaGreatDoorScrK
/- A character taken alone: where a text is cut, what stands behind is decided as if the text began there. No Go in sight. -/
namespace Go.Proofs.YtbaedapnikhdgaaGreatDoor
namespace Chr
theorem ctl_mrk : ((List.range 1).all fun _ => ctl 1584 == false && (ctl 1585 == false && (ctl 7936 == false && mrk 7954 == false))) = true := by decide +kernel
theorem ctl_tags : ((List.range 5).all fun i => ctl ((7744 + i : Nat) : Int) == false) = true := by decide +kernel
theorem ctl_pics : ((List.range 64).all fun i => ctl ((7680 + i : Nat) : Int) == false) = true := by decide +kernel
theorem ctl_flgs : ((List.range 26).all fun i => ctl ((7760 + i : Nat) : Int) == false) = true := by decide +kernel
theorem ctl_in {a n : Nat} (h : ((List.range n).all fun i => ctl ((a + i : Nat) : Int) == false) = true) {p : Int} (h0 : (a : Int) ≤ p) (h1 : p < a + n) : ctl p = false := by
  have := List.all_eq_true.1 h (p.toNat - a) (by simp; omega)
  rw [show ((a + (p.toNat - a) : Nat) : Int) = p by omega] at this
  simpa using this
/-- A control is no mark, no picture, no flag, no stroke that binds. -/
theorem ctl_not {p : Int} (h : ctl p = true) : mrk p = false ∧ pic p = false ∧ flg p = false ∧ p ≠ 1584 ∧ p ≠ 1585 := by
  have h4 := ctl_mrk
  simp only [List.range_one, List.all_cons, List.all_nil, Bool.and_true, Bool.and_eq_true, beq_iff_eq] at h4
  refine ⟨?_, ?_, ?_, ?_, ?_⟩
  · by_cases e : p = 7954
    · rw [e]; exact h4.2.2.2
    · have hc : cat p = 1 := by
        unfold ctl at h
        rw [Bool.or_eq_true] at h
        rcases h with h | h
        · exact eq_of_beq h
        · exact absurd (eq_of_beq h) e
      unfold mrk
      rw [hc]
      by_cases e2 : p = 7936
      · rw [e2, h4.2.2.1] at h; cases h
      · by_cases e3 : 7744 ≤ p ∧ p ≤ 7748
        · have := ctl_in ctl_tags (p := p) (by omega) (by omega)
          rw [this] at h; cases h
        · have e4 : (decide (7744 ≤ p) && decide (p ≤ 7748)) = false := by
            rw [← Bool.decide_and]
            exact decide_eq_false e3
          rw [e4]
          simp [e2]
  · by_cases e : 7680 ≤ p ∧ p ≤ 7743
    · have := ctl_in ctl_pics (p := p) (by omega) (by omega)
      rw [this] at h; cases h
    · unfold pic
      rw [← Bool.decide_and]
      exact decide_eq_false e
  · by_cases e : 7760 ≤ p ∧ p ≤ 7785
    · have := ctl_in ctl_flgs (p := p) (by omega) (by omega)
      rw [this] at h; cases h
    · unfold flg
      rw [← Bool.decide_and]
      exact decide_eq_false e
  · rintro rfl
    rw [h4.1] at h; cases h
  · rintro rfl
    rw [h4.2.1] at h; cases h
theorem getD_drop (L : List Int) (a j : Nat) : (L.drop a).getD j 0 = L.getD (a + j) 0 := by
  simp [List.getD_eq_getElem?_getD, List.getElem?_drop]
theorem bnd_drop (L : List Int) (a : Nat) (h : a = 0 ∨ L.getD a 0 ≠ 1585 ∨ bnd L (a - 1) = false) : ∀ j, bnd (L.drop a) j = bnd L (a + j)
  | 0 => by
    show ((L.drop a).getD 0 0 == 1584) = _
    rw [getD_drop, Nat.add_zero]
    cases a with
    | zero => rfl
    | succ a =>
      show _ = (if L.getD (a + 1) 0 == 1585 then bnd L a else L.getD (a + 1) 0 == 1584)
      by_cases e : L.getD (a + 1) 0 = 1585
      · rw [e]
        rcases h with h | h | h
        · omega
        · exact absurd e h
        · have h' : bnd L a = false := h
          rw [h']; rfl
      · have : (L.getD (a + 1) 0 == 1585) = false := by simpa using e
        rw [this]; rfl
  | j + 1 => by
    show (if (L.drop a).getD (j + 1) 0 == 1585 then bnd (L.drop a) j else (L.drop a).getD (j + 1) 0 == 1584) = (if L.getD (a + j + 1) 0 == 1585 then bnd L (a + j) else L.getD (a + j + 1) 0 == 1584)
    rw [getD_drop, bnd_drop L a h j, show a + (j + 1) = a + j + 1 by omega]
theorem pik_drop (L : List Int) (a : Nat) (h : pik L a = false ∨ mrk (L.getD a 0) = false) : ∀ j, pik L a = false ∨ 0 < j → pik (L.drop a) j = pik L (a + j)
  | 0, h0 => by
    rcases h0 with h0 | h0
    · rw [Nat.add_zero, h0]; rfl
    · omega
  | j + 1, _ => by
    show (if mrk ((L.drop a).getD j 0) then pik (L.drop a) j else pic ((L.drop a).getD j 0)) = (if mrk (L.getD (a + j) 0) then pik L (a + j) else pic (L.getD (a + j) 0))
    rw [getD_drop]
    by_cases c : pik L a = false ∨ 0 < j
    · rw [pik_drop L a h j c]
    · have hj : j = 0 := by
        by_cases e : 0 < j
        · exact absurd (.inr e) c
        · omega
      subst hj
      have hm : mrk (L.getD a 0) = false := by
        rcases h with h | h
        · exact absurd (.inl h) c
        · exact h
      rw [Nat.add_zero, hm]; rfl
theorem fls_drop (L : List Int) (a : Nat) (h : a = 0 ∨ flg (L.getD a 0) = false ∨ fls L (a - 1) % 2 = 0) : ∀ j, fls (L.drop a) j % 2 = fls L (a + j) % 2
  | 0 => by
    show (if flg ((L.drop a).getD 0 0) then 1 else 0) % 2 = _
    rw [getD_drop, Nat.add_zero]
    cases a with
    | zero => rfl
    | succ a =>
      show _ = (if flg (L.getD (a + 1) 0) then fls L a + 1 else 0) % 2
      cases e : flg (L.getD (a + 1) 0)
      · rfl
      · rcases h with h | h | h
        · omega
        · rw [e] at h; cases h
        · have h' : fls L a % 2 = 0 := h
          simp only [if_true]
          omega
  | j + 1 => by
    show (if flg ((L.drop a).getD (j + 1) 0) then fls (L.drop a) j + 1 else 0) % 2 = (if flg (L.getD (a + j + 1) 0) then fls L (a + j) + 1 else 0) % 2
    rw [getD_drop, show a + (j + 1) = a + j + 1 by omega]
    have ih := fls_drop L a h j
    cases flg (L.getD (a + j + 1) 0)
    · rfl
    · simp only [if_true]
      omega
/-- Where a text is cut ahead of a mark a control stands. -/
theorem cut_mark {L : List Int} {a : Nat} (_ha : 0 < a) (h : charS L a = true) (hm : mrk (L.getD a 0) = true) : ctl (L.getD (a - 1) 0) = true := by
  unfold charS at h
  have h0 := h
  split at h
  · cases h
  · split at h
    · rename_i h1 h2
      rw [Bool.or_eq_true] at h2
      rcases h2 with h2 | h2
      · exact h2
      · have := (ctl_not h2).1
        rw [this] at hm; cases hm
    · rw [hm, Bool.or_true] at h
      simp at h
theorem cut_flag {L : List Int} {a : Nat} (_ha : 0 < a) (h : charS L a = true) (h1 : flg (L.getD (a - 1) 0) = true) (h2 : flg (L.getD a 0) = true) : fls L (a - 1) % 2 = 0 := by
  have hb : 7760 ≤ L.getD (a - 1) 0 ∧ L.getD (a - 1) 0 ≤ 7785 := by simpa [flg] using h1
  have hc : 7760 ≤ L.getD a 0 ∧ L.getD a 0 ≤ 7785 := by simpa [flg] using h2
  have c1 := ctl_in ctl_flgs (p := L.getD (a - 1) 0) (by omega) (by omega)
  have c2 := ctl_in ctl_flgs (p := L.getD a 0) (by omega) (by omega)
  unfold charS at h
  split at h
  · cases h
  · rw [c1, c2] at h
    simp only [Bool.or_self, Bool.false_eq_true, if_false] at h
    split at h
    · cases h
    · split at h
      · cases h
      · split at h
        · rename_i h5
          rw [Bool.and_eq_true] at h5
          have : L.getD (a - 1) 0 = 7936 := eq_of_beq h5.1
          omega
        · rw [h1, h2] at h
          simpa using h
/-- Behind a cut all is decided as if the text began there. -/
theorem char_drop {L : List Int} {a : Nat} (h : a = 0 ∨ charS L a = true) (j : Nat) (hj : 0 < j) : charS (L.drop a) j = charS L (a + j) := by
  obtain ⟨i, rfl⟩ : ∃ i, j = i + 1 := ⟨j - 1, by omega⟩
  have hB : bnd (L.drop a) i = bnd L (a + i) := bnd_drop L a (by
    by_cases h0 : a = 0
    · exact .inl h0
    · right
      by_cases e : L.getD a 0 = 1585
      · right
        have hm : mrk (L.getD a 0) = true := by rw [e]; decide +kernel
        have hc := ctl_not (cut_mark (by omega) (h.resolve_left h0) hm)
        cases hk : a - 1 with
        | zero => show (L.getD 0 0 == 1584) = false; rw [hk] at hc; simpa using hc.2.2.2.1
        | succ k =>
          rw [hk] at hc
          show (if L.getD (k + 1) 0 == 1585 then bnd L k else L.getD (k + 1) 0 == 1584) = false
          rw [show (L.getD (k + 1) 0 == 1585) = false by simpa using hc.2.2.2.2]
          simpa using hc.2.2.2.1
      · exact .inl e) i
  have hP : L.getD (a + i) 0 = 7936 → pik (L.drop a) i = pik L (a + i) := fun e7 => by
    by_cases hm : mrk (L.getD a 0) = true
    · have hpa : pik L a = false := by
        by_cases h0 : a = 0
        · rw [h0]; rfl
        · obtain ⟨b, rfl⟩ : ∃ b, a = b + 1 := ⟨a - 1, by omega⟩
          have hc := ctl_not (cut_mark (by omega) (h.resolve_left h0) hm)
          have hc' : mrk (L.getD b 0) = false ∧ pic (L.getD b 0) = false := ⟨hc.1, hc.2.1⟩
          show (if mrk (L.getD b 0) then pik L b else pic (L.getD b 0)) = false
          rw [hc'.1, hc'.2]; rfl
      exact pik_drop L a (.inl hpa) i (.inl hpa)
    · have hm' : mrk (L.getD a 0) = false := by simpa using hm
      refine pik_drop L a (.inr hm') i (.inr ?_)
      by_cases e : i = 0
      · subst e
        rw [Nat.add_zero] at e7
        rw [e7] at hm'
        exact absurd hm' (by decide +kernel)
      · omega
  have hF : fls (L.drop a) i % 2 = fls L (a + i) % 2 := fls_drop L a (by
    by_cases h0 : a = 0
    · exact .inl h0
    · right
      cases e : flg (L.getD a 0)
      · exact .inl rfl
      · right
        cases e2 : flg (L.getD (a - 1) 0)
        · rw [fls_flg L (a - 1) e2]
        · exact cut_flag (by omega) (h.resolve_left h0) e2 e) i
  have e1 : (L.drop a).getD i 0 = L.getD (a + i) 0 := getD_drop L a i
  have e2 : (L.drop a).getD (i + 1) 0 = L.getD (a + (i + 1)) 0 := getD_drop L a (i + 1)
  unfold charS
  rw [show i + 1 - 1 = i by omega, show a + (i + 1) - 1 = a + i by omega, e1, e2, hB, hF]
  by_cases e7 : L.getD (a + i) 0 = 7936
  · rw [hP e7]
  · have : (L.getD (a + i) 0 == 7936) = false := by simpa using e7
    rw [this]
    rfl
end Chr
end Go.Proofs.YtbaedapnikhdgaaGreatDoor
/- A piece of a text between two of its points has just the points between. No Go in sight. -/
namespace Go.Proofs.YtbaedapnikhdgaaGreatDoor
open Go.RowKit
/-- What is read in a piece is what is read in the whole, if it ends within the piece. -/
theorem dec_cut {ss su P pos b0 b1 b2 b3 c1 c2 c3 : Nat} (h1 : pos + 1 < su → P + 1 < ss ∧ c1 = b1) (h2 : pos + 2 < su → P + 2 < ss ∧ c2 = b2) (h3 : pos + 3 < su → P + 3 < ss ∧ c3 = b3) (hn : pos + (dec ss P b0 b1 b2 b3).2 ≤ su) : dec su pos b0 c1 c2 c3 = dec ss P b0 b1 b2 b3 := by
  by_cases d0 : b0 < 128
  · unfold dec; rw [if_pos d0, if_pos d0]
  by_cases d1 : b0 / 32 = 6
  · have n2 : ¬ b0 / 16 = 14 := by omega
    have n3 : ¬ b0 / 8 = 30 := by omega
    by_cases k : pos + 1 < su
    · obtain ⟨e1, rfl⟩ := h1 k
      unfold dec
      simp only [d0, d1, n2, n3, k, e1, if_false, true_and, false_and]
    · have hs : dec su pos b0 c1 c2 c3 = (65533, 1) := by
        unfold dec; simp only [d0, n2, n3, k, if_false, false_and, and_false]
      rw [hs]
      unfold dec at hn ⊢
      simp only [d0, d1, n2, n3, if_false, true_and, false_and] at hn ⊢
      split
      · split
        · rename_i c4 c5
          rw [if_pos c4, if_pos c5] at hn
          simp only at hn
          omega
        · rfl
      · rfl
  by_cases d2 : b0 / 16 = 14
  · have n3 : ¬ b0 / 8 = 30 := by omega
    by_cases k : pos + 2 < su
    · obtain ⟨e1, rfl⟩ := h1 (by omega)
      obtain ⟨e2, rfl⟩ := h2 k
      have k1 : pos + 1 < su := by omega
      unfold dec
      simp only [d0, d1, d2, n3, k, k1, e1, e2, if_false, true_and, false_and]
    · have hs : dec su pos b0 c1 c2 c3 = (65533, 1) := by
        unfold dec; simp only [d0, d1, n3, k, if_false, false_and, and_false]
      rw [hs]
      unfold dec at hn ⊢
      simp only [d0, d1, d2, n3, if_false, true_and, false_and] at hn ⊢
      split
      · split
        · rename_i c4 c5
          rw [if_pos c4, if_pos c5] at hn
          simp only at hn
          omega
        · rfl
      · rfl
  by_cases d3 : b0 / 8 = 30
  · by_cases k : pos + 3 < su
    · obtain ⟨e1, rfl⟩ := h1 (by omega)
      obtain ⟨e2, rfl⟩ := h2 (by omega)
      obtain ⟨e3, rfl⟩ := h3 k
      have k1 : pos + 1 < su := by omega
      have k2 : pos + 2 < su := by omega
      unfold dec
      simp only [d0, d1, d2, d3, k, k1, k2, e1, e2, e3, if_false, true_and, false_and]
    · have hs : dec su pos b0 c1 c2 c3 = (65533, 1) := by
        unfold dec; simp only [d0, d1, d2, k, if_false, false_and, and_false]
      rw [hs]
      unfold dec at hn ⊢
      simp only [d0, d1, d2, d3, if_false, true_and, false_and] at hn ⊢
      split
      · split
        · rename_i c4 c5
          rw [if_pos c4, if_pos c5] at hn
          simp only at hn
          omega
        · rfl
      · rfl
  · unfold dec
    simp only [d0, d1, d2, d3, if_false, false_and]
theorem bt_extract (s : ByteArray) (A B i : Nat) (hB : B ≤ s.size) (hi : i < B - A) : bt (s.extract A B) i = bt s (A + i) := by
  have hs : (s.extract A B).size = B - A := by rw [ByteArray.size_extract]; omega
  rw [← bt_get _ i (by omega), ← bt_get s (A + i) (by omega)]
  congr 1
  exact ByteArray.getElem_extract _
theorem decode_cut (s : ByteArray) (A B pos : Nat) (hB : B ≤ s.size) (hp : pos < B - A) (hn : A + pos + dN s (A + pos) ≤ B) : dP (s.extract A B) pos = dP s (A + pos) ∧ dN (s.extract A B) pos = dN s (A + pos) := by
  have hs : (s.extract A B).size = B - A := by rw [ByteArray.size_extract]; omega
  have e : Utf8.decode (s.extract A B) pos = Utf8.decode s (A + pos) := by
    unfold dN at hn
    rw [decode_dec] at hn ⊢
    rw [decode_dec, hs, bt_extract s A B pos hB hp]
    refine dec_cut (fun h => ⟨by omega, ?_⟩) (fun h => ⟨by omega, ?_⟩) (fun h => ⟨by omega, ?_⟩) (by omega)
    · exact bt_extract s A B (pos + 1) hB (by omega)
    · exact bt_extract s A B (pos + 2) hB (by omega)
    · exact bt_extract s A B (pos + 3) hB (by omega)
  unfold dP dN
  rw [e]
  exact ⟨rfl, rfl⟩
theorem steps_few (s : ByteArray) : ∀ n, (steps s n).1.length ≤ n
  | 0 => Nat.le_refl _
  | n + 1 => by
    have ih := steps_few s n
    by_cases h : (steps s n).2 < s.size
    · rw [steps_next s n h]; simp; omega
    · have e : steps s (n + 1) = steps s n := steps_stop s n 1 (by omega)
      rw [e]; omega
theorem steps_in (s : ByteArray) (n : Nat) (h : n < (pts s).length) : (steps s n).2 < s.size := by
  by_cases hp : (steps s n).2 < s.size
  · exact hp
  · have e := steps_pts s n (by omega)
    have := steps_few s n
    rw [e] at this
    omega
theorem steps_len (s : ByteArray) : ∀ n, n ≤ (pts s).length → (steps s n).1.length = n
  | 0, _ => rfl
  | n + 1, h => by
    rw [steps_next s n (steps_in s n (by omega)), List.length_append, steps_len s n (by omega)]
    rfl
theorem steps_pre (s : ByteArray) (n : Nat) : ∀ m, ∃ R, (steps s (n + m)).1 = (steps s n).1 ++ R
  | 0 => ⟨[], by simp⟩
  | m + 1 => by
    obtain ⟨R, hR⟩ := steps_pre s n m
    by_cases h : (steps s (n + m)).2 < s.size
    · rw [show n + (m + 1) = n + m + 1 by omega, steps_next s (n + m) h, hR]
      exact ⟨R ++ [(dP s (steps s (n + m)).2 : Int)], by simp⟩
    · have e : steps s (n + m + 1) = steps s (n + m) := steps_stop s (n + m) 1 (by omega)
      rw [show n + (m + 1) = n + m + 1 by omega, e]
      exact ⟨R, hR⟩
/-- The first n points. -/
theorem steps_take (s : ByteArray) (n : Nat) (h : n ≤ (pts s).length) : (steps s n).1 = (pts s).take n := by
  have hl := steps_len s n h
  have hle := (steps_le s s.size).2
  have hz := (steps_le s s.size).1
  have hns : n ≤ s.size := by
    unfold pts at h
    omega
  obtain ⟨R, hR⟩ := steps_pre s n (s.size - n)
  rw [show n + (s.size - n) = s.size by omega] at hR
  have e : pts s = (steps s n).1 ++ R := hR
  rw [e, List.take_left' hl]
theorem steps_pos (s : ByteArray) (n m : Nat) : (steps s n).2 ≤ (steps s (n + m)).2 := by
  induction m with
  | zero => exact Nat.le_refl _
  | succ m ih =>
    by_cases h : (steps s (n + m)).2 < s.size
    · rw [show n + (m + 1) = n + m + 1 by omega, steps_next s (n + m) h]
      show _ ≤ (steps s (n + m)).2 + _
      omega
    · have e : steps s (n + m + 1) = steps s (n + m) := steps_stop s (n + m) 1 (by omega)
      rw [show n + (m + 1) = n + m + 1 by omega, e]
      exact ih
theorem steps_zero (s : ByteArray) : steps s 0 = ([], 0) := rfl
set_option maxHeartbeats 1000000 in
/-- The points of a piece between point a and point b. -/
theorem steps_piece (s : ByteArray) (a b : Nat) (hb : b ≤ (pts s).length) : ∀ k, a + k ≤ b → steps (s.extract (steps s a).2 (steps s b).2) k = (((pts s).drop a).take k, (steps s (a + k)).2 - (steps s a).2)
  | 0, _ => by rw [steps_zero, List.take_zero, Nat.add_zero, Nat.sub_self]
  | k + 1, hk => by
    have ih := steps_piece s a b hb k (by omega)
    have hB := (steps_le s b).1
    have hA := steps_pos s a k
    have hp := steps_in s (a + k) (by omega)
    have hd := dN_bd s (steps s (a + k)).2 hp
    have hnx := steps_next s (a + k) hp
    have hup : (steps s (a + k + 1)).2 ≤ (steps s b).2 := by
      have := steps_pos s (a + k + 1) (b - (a + k + 1))
      rwa [show a + k + 1 + (b - (a + k + 1)) = b by omega] at this
    have hn2 : (steps s (a + k + 1)).2 = (steps s (a + k)).2 + dN s (steps s (a + k)).2 := by rw [hnx]
    have hsz : (s.extract (steps s a).2 (steps s b).2).size = (steps s b).2 - (steps s a).2 := by rw [ByteArray.size_extract]; omega
    have eA : (steps s a).2 + ((steps s (a + k)).2 - (steps s a).2) = (steps s (a + k)).2 := by omega
    obtain ⟨q1, q2⟩ := decode_cut s (steps s a).2 (steps s b).2 ((steps s (a + k)).2 - (steps s a).2) hB (by omega) (by rw [eA]; omega)
    rw [eA] at q1 q2
    have hlt : (steps (s.extract (steps s a).2 (steps s b).2) k).2 < (s.extract (steps s a).2 (steps s b).2).size := by
      rw [ih, hsz]
      show (steps s (a + k)).2 - (steps s a).2 < _
      omega
    rw [steps_next _ k hlt, ih]
    simp only
    rw [q1, q2]
    have e1 : ((pts s).drop a).take (k + 1) = ((pts s).drop a).take k ++ [(dP s (steps s (a + k)).2 : Int)] := by
      rw [List.take_add_one, List.getElem?_drop]
      congr 1
      have t1 := steps_take s (a + k + 1) (by omega)
      have t2 := steps_take s (a + k) (by omega)
      rw [hnx, t2] at t1
      simp only at t1
      rw [List.take_add_one] at t1
      have := List.append_cancel_left t1
      rw [← this]
    rw [e1]
    congr 1
    rw [show a + (k + 1) = a + k + 1 by omega, hn2]
    omega
theorem pts_piece (s : ByteArray) (a b : Nat) (hab : a ≤ b) (hb : b ≤ (pts s).length) : pts (s.extract (steps s a).2 (steps s b).2) = ((pts s).drop a).take (b - a) := by
  have h := steps_piece s a b hb (b - a) (by omega)
  rw [show a + (b - a) = b by omega] at h
  have hB := (steps_le s b).1
  have hsz : (s.extract (steps s a).2 (steps s b).2).size = (steps s b).2 - (steps s a).2 := by rw [ByteArray.size_extract]; omega
  have := steps_pts (s.extract (steps s a).2 (steps s b).2) (b - a) (by rw [h, hsz]; exact Nat.le_refl _)
  rw [← this, h]
end Go.Proofs.YtbaedapnikhdgaaGreatDoor
/- What FnChars asks of characters: each taken alone is one, and cuts rise. No walk. -/
namespace Go.Proofs.YtbaedapnikhdgaaGreatDoor
namespace Chr
open Go.RowKit
theorem getD_take (L : List Int) (n i : Nat) (h : i < n) : (L.take n).getD i 0 = L.getD i 0 := by
  simp [List.getD_eq_getElem?_getD, h]
theorem bnd_take (L : List Int) (n : Nat) : ∀ k, k < n → bnd (L.take n) k = bnd L k
  | 0, h => by
    show ((L.take n).getD 0 0 == 1584) = (L.getD 0 0 == 1584)
    rw [getD_take L n 0 h]
  | k + 1, h => by
    show (if (L.take n).getD (k + 1) 0 == 1585 then bnd (L.take n) k else (L.take n).getD (k + 1) 0 == 1584) = (if L.getD (k + 1) 0 == 1585 then bnd L k else L.getD (k + 1) 0 == 1584)
    rw [getD_take L n (k + 1) h, bnd_take L n k (by omega)]
theorem fls_take (L : List Int) (n : Nat) : ∀ k, k < n → fls (L.take n) k = fls L k
  | 0, h => by
    show (if flg ((L.take n).getD 0 0) then 1 else 0) = (if flg (L.getD 0 0) then 1 else 0)
    rw [getD_take L n 0 h]
  | k + 1, h => by
    show (if flg ((L.take n).getD (k + 1) 0) then fls (L.take n) k + 1 else 0) = (if flg (L.getD (k + 1) 0) then fls L k + 1 else 0)
    rw [getD_take L n (k + 1) h, fls_take L n k (by omega)]
theorem pik_take (L : List Int) (n : Nat) : ∀ k, k ≤ n → pik (L.take n) k = pik L k
  | 0, _ => rfl
  | k + 1, h => by
    show (if mrk ((L.take n).getD k 0) then pik (L.take n) k else pic ((L.take n).getD k 0)) = (if mrk (L.getD k 0) then pik L k else pic (L.getD k 0))
    rw [getD_take L n k (by omega), pik_take L n k (by omega)]
theorem char_take (L : List Int) (n i : Nat) (h : i < n) : charS (L.take n) i = charS L i := by
  unfold charS
  rw [getD_take L n i h, getD_take L n (i - 1) (by omega), bnd_take L n (i - 1) (by omega), pik_take L n (i - 1) (by omega), fls_take L n (i - 1) (by omega)]
/-- The numbers below k of the points with which a piece starts. -/
def ixk (B : List Bool) : Nat → List Nat
  | 0 => []
  | k + 1 => ixk B k ++ (if B.getD k false then [k] else [])
theorem ctk_ix (s : ByteArray) (B : List Bool) : ∀ k, ctk s B k = (ixk B k).map (fun m => ((steps s m).2 : Int))
  | 0 => rfl
  | k + 1 => by
    unfold ctk ixk
    rw [ctk_ix s B k, List.map_append]
    split <;> rfl
theorem ixk_ok (B : List Bool) (k : Nat) : (ixk B k).Pairwise (· < ·) ∧ ∀ m, m ∈ ixk B k ↔ m < k ∧ B.getD m false = true := by
  induction k with
  | zero => exact ⟨List.Pairwise.nil, fun m => ⟨fun h => by simp [ixk] at h, fun h => by omega⟩⟩
  | succ k ih =>
    unfold ixk
    cases e : B.getD k false
    · simp only [Bool.false_eq_true, if_false, List.append_nil]
      refine ⟨ih.1, fun m => ?_⟩
      rw [ih.2]
      constructor
      · rintro ⟨h1, h2⟩; exact ⟨by omega, h2⟩
      · rintro ⟨h1, h2⟩
        have : m ≠ k := fun h => by rw [h, e] at h2; cases h2
        exact ⟨by omega, h2⟩
    · simp only [if_true]
      refine ⟨?_, fun m => ?_⟩
      · rw [List.pairwise_append]
        refine ⟨ih.1, by simp, fun x hx y hy => ?_⟩
        simp at hy
        have := ((ih.2 x).1 hx).1
        omega
      · rw [List.mem_append, ih.2]
        constructor
        · rintro (⟨h1, h2⟩ | h1)
          · exact ⟨by omega, h2⟩
          · simp at h1; rw [h1]; exact ⟨by omega, e⟩
        · rintro ⟨h1, h2⟩
          by_cases h : m = k
          · right; simp [h]
          · exact .inl ⟨by omega, h2⟩
/-- All numbers of points at which a text is cut, and how many there are. -/
def ixs (L : List Int) : List Nat := ixk (bsS L) L.length ++ [L.length]
theorem ixs_up (L : List Int) : (ixs L).Pairwise (· < ·) := by
  unfold ixs
  obtain ⟨h1, h2⟩ := ixk_ok (bsS L) L.length
  rw [List.pairwise_append]
  refine ⟨h1, by simp, fun x hx y hy => ?_⟩
  simp at hy
  have := ((h2 x).1 hx).1
  omega
theorem ixs_le (L : List Int) : ∀ m ∈ ixs L, m ≤ L.length := fun m hm => by
  unfold ixs at hm
  rcases List.mem_append.1 hm with h | h
  · have := ((ixk_ok (bsS L) L.length).2 m).1 h
    omega
  · simp at h; omega
theorem steps_end (s : ByteArray) : (steps s (pts s).length).2 = s.size := by
  by_cases h : (steps s (pts s).length).2 < s.size
  · have := lt_pts (s := s) (n := (pts s).length) (L := (steps s (pts s).length).1) (pos := (steps s (pts s).length).2) rfl h
    rw [steps_len s _ (Nat.le_refl _)] at this
    omega
  · have := (steps_le s (pts s).length).1
    omega
theorem cuts_ix (s : ByteArray) (h : 0 < (pts s).length) : cutsL s (bsS (pts s)) = (ixs (pts s)).map (fun m => ((steps s m).2 : Int)) := by
  unfold cutsL ixs
  rw [bsS_len, if_neg (by omega), ctk_ix, List.map_append, List.map_cons, List.map_nil, steps_end]
/-- Behind one cut and ahead of the next one there is none. -/
theorem ixs_next (L : List Int) (k : Nat) (h : k + 1 < (ixs L).length) : (ixs L)[k] < (ixs L)[k + 1] ∧ (ixs L)[k + 1] ≤ L.length ∧ ((ixs L)[k] = 0 ∨ charS L (ixs L)[k] = true) ∧ ∀ m, (ixs L)[k] < m → m < (ixs L)[k + 1] → charS L m = false := by
  have hup := ixs_up L
  have hlt := List.pairwise_iff_getElem.1 hup k (k + 1) (by omega) h (by omega)
  have hle := ixs_le L _ (List.getElem_mem h)
  have hin : (ixs L)[k] ∈ ixk (bsS L) L.length := by
    have hm := List.getElem_mem (l := ixs L) (n := k) (by omega)
    rcases List.mem_append.1 (show (ixs L)[k] ∈ ixk (bsS L) L.length ++ [L.length] from hm) with h' | h'
    · exact h'
    · simp at h'
      omega
  obtain ⟨_, h2⟩ := ixk_ok (bsS L) L.length
  obtain ⟨q1, q2⟩ := (h2 _).1 hin
  refine ⟨hlt, hle, ?_, fun m hm1 hm2 => ?_⟩
  · rw [bsS_at L _ q1, Bool.or_eq_true] at q2
    rcases q2 with q2 | q2
    · exact .inl (eq_of_beq q2)
    · exact .inr q2
  · cases hc : charS L m
    · rfl
    · have hmem : m ∈ ixs L := by
        unfold ixs
        refine List.mem_append.2 (.inl ((h2 m).2 ⟨by omega, ?_⟩))
        rw [bsS_at L m (by omega), hc]; simp
      obtain ⟨i, hi, e⟩ := List.getElem_of_mem hmem
      by_cases c : i ≤ k
      · rcases Nat.lt_or_eq_of_le c with c | c
        · have := List.pairwise_iff_getElem.1 hup i k hi (by omega) c
          omega
        · subst c; omega
      · rcases Nat.lt_or_eq_of_le (show k + 1 ≤ i by omega) with c | c
        · have := List.pairwise_iff_getElem.1 hup (k + 1) i h hi c
          omega
        · subst c; omega
/-- A character taken alone has no cut within. -/
theorem one_char (s : ByteArray) (a b : Nat) (hab : a < b) (hb : b ≤ (pts s).length) (hc : a = 0 ∨ charS (pts s) a = true) (hm : ∀ m, a < m → m < b → charS (pts s) m = false) :
    cutsL (s.extract (steps s a).2 (steps s b).2) (bsS (pts (s.extract (steps s a).2 (steps s b).2))) = [0, ((s.extract (steps s a).2 (steps s b).2).size : Int)] := by
  have hp := pts_piece s a b (by omega) hb
  have hl : (pts (s.extract (steps s a).2 (steps s b).2)).length = b - a := by rw [hp]; simp; omega
  have hB : ∀ i, i < b - a → (bsS (pts (s.extract (steps s a).2 (steps s b).2))).getD i false = (i == 0) := fun i hi => by
    rw [bsS_at _ i (by omega)]
    by_cases e : i = 0
    · subst e; simp
    · have h1 : charS (pts (s.extract (steps s a).2 (steps s b).2)) i = false := by
        rw [hp, char_take _ _ i hi, char_drop hc i (by omega)]
        exact hm (a + i) (by omega) (by omega)
      rw [h1, Bool.or_false]
  have hI : ∀ k, 0 < k → k ≤ b - a → ixk (bsS (pts (s.extract (steps s a).2 (steps s b).2))) k = [0] := fun k => by
    induction k with
    | zero => intro h; omega
    | succ k ih =>
      intro _ hk
      unfold ixk
      rw [hB k (by omega)]
      by_cases e : k = 0
      · subst e; rfl
      · rw [ih (by omega) (by omega)]
        have : (k == 0) = false := by simpa using e
        rw [this]; rfl
  unfold cutsL
  rw [bsS_len, hl, if_neg (by omega), ctk_ix, hI (b - a) (by omega) (Nat.le_refl _)]
  rfl
end Chr
end Go.Proofs.YtbaedapnikhdgaaGreatDoor
/- The pieces of a text between its cuts, one behind the other, are the text. No walk. -/
namespace Go.Proofs.YtbaedapnikhdgaaGreatDoor
namespace Chr
open Go.RowKit
/-- The first k texts of a row, one behind the other. -/
def jnk (l : List ByteArray) : Nat → ByteArray
  | 0 => ByteArray.empty
  | k + 1 => jnk l k ++ nthS l k
theorem nthS_pieces (s : ByteArray) (C : List Int) (k : Nat) (h : k + 1 < C.length) : nthS (pieces s C) k = s.extract (nth C k).toNat (nth C (k + 1)).toNat := by
  simp [nthS, pieces, pcs, List.getD_eq_getElem?_getD, show k < C.length - 1 by omega]
theorem jnk_pieces {s : ByteArray} {C : List Int} (hC : Cuts s C) (h0 : nth C 0 = 0) : ∀ k, k < C.length → jnk (pieces s C) k = s.extract 0 (nth C k).toNat
  | 0, _ => by rw [h0]; show ByteArray.empty = s.extract 0 0; simp
  | k + 1, h => by
    show jnk (pieces s C) k ++ nthS (pieces s C) k = _
    obtain ⟨a, b, ha, hb, hab, _⟩ := hC k h
    rw [jnk_pieces hC h0 k (by omega), nthS_pieces s C k h, ha, hb, ByteArray.extract_append_extract]
    congr 1 <;> simp [hab]
theorem jnk_size {s : ByteArray} {C : List Int} (hC : Cuts s C) (h0 : nth C 0 = 0) (k : Nat) (h : k < C.length) : (jnk (pieces s C) k).size ≤ s.size := by
  rw [jnk_pieces hC h0 k h]
  simp
  omega
/-- All of them are the text, where the cuts begin at its beginning and end at its end. -/
theorem jnk_all {s : ByteArray} {C : List Int} (hC : Cuts s C) (h0 : nth C 0 = 0) (hl : 0 < C.length) (he : nth C (C.length - 1) = (s.size : Int)) : jnk (pieces s C) (pieces s C).length = s := by
  rw [pieces_len, jnk_pieces hC h0 _ (by omega), he]
  simp
end Chr
end Go.Proofs.YtbaedapnikhdgaaGreatDoor
/- What FnChars asks of a text's cuts and characters. No walk. -/
namespace Go.Proofs.YtbaedapnikhdgaaGreatDoor
namespace Chr
open Go.RowKit
theorem steps_lt (s : ByteArray) {a b : Nat} (hab : a < b) (hb : b ≤ (pts s).length) : (steps s a).2 < (steps s b).2 := by
  have hp := pts_piece s a b (by omega) hb
  have hl : (pts (s.extract (steps s a).2 (steps s b).2)).length = b - a := by rw [hp]; simp; omega
  have h := steps_in (s.extract (steps s a).2 (steps s b).2) 0 (by omega)
  rw [steps_zero, ByteArray.size_extract] at h
  have h2 : 0 < min (steps s b).2 s.size - (steps s a).2 := h
  omega
theorem cutsOut_ix (s : ByteArray) (hs : s.size ≤ 65536) (h0 : 0 < s.size) : cutsOut s = (ixs (pts s)).map (fun m => ((steps s m).2 : Int)) := by
  unfold cutsOut
  rw [if_neg (by omega), cuts_ix s (pts_pos h0)]
theorem cuts_lt (s : ByteArray) (hs : s.size ≤ 65536) (h0 : 0 < s.size) : (cutsOut s).Pairwise (· < ·) := by
  rw [cutsOut_ix s hs h0, List.pairwise_map]
  refine List.Pairwise.imp_of_mem ?_ (ixs_up (pts s))
  intro a b _ hb hab
  have := steps_lt s hab (ixs_le _ b hb)
  omega
theorem ixs_len (L : List Int) : 0 < (ixs L).length := by unfold ixs; simp
theorem ixs_zero (L : List Int) (h : 0 < L.length) : (ixs L)[0]'(ixs_len L) = 0 := by
  have hm : 0 ∈ ixs L := by
    unfold ixs
    refine List.mem_append.2 (.inl (((ixk_ok (bsS L) L.length).2 0).2 ⟨h, ?_⟩))
    rw [bsS_at L 0 h]; rfl
  obtain ⟨i, hi, e⟩ := List.getElem_of_mem hm
  by_cases c : i = 0
  · subst c; exact e
  · have := List.pairwise_iff_getElem.1 (ixs_up L) 0 i (ixs_len L) hi (by omega)
    omega
theorem ixs_last (L : List Int) : (ixs L)[(ixs L).length - 1]'(by have := ixs_len L; omega) = L.length := by
  unfold ixs
  simp
theorem nth_map (l : List Nat) (f : Nat → Int) (i : Nat) (h : i < l.length) : nth (l.map f) i = f l[i] := by
  simp [nth, List.getD_eq_getElem?_getD, h]
theorem cuts_first (s : ByteArray) (hs : s.size ≤ 65536) (h0 : 0 < s.size) : nth (cutsOut s) 0 = 0 := by
  rw [cutsOut_ix s hs h0, nth_map _ _ 0 (ixs_len _), ixs_zero _ (pts_pos h0)]
  rfl
theorem cuts_last (s : ByteArray) (hs : s.size ≤ 65536) (h0 : 0 < s.size) : 0 < (cutsOut s).length ∧ nth (cutsOut s) ((cutsOut s).length - 1) = (s.size : Int) := by
  have hl := ixs_len (pts s)
  rw [cutsOut_ix s hs h0, List.length_map]
  refine ⟨hl, ?_⟩
  rw [nth_map _ _ _ (by omega), ixs_last, steps_end]
/-- Each character by itself is one. -/
theorem char_one (s : ByteArray) (hs : s.size ≤ 65536) (h0 : 0 < s.size) (k : Nat) (hk : k < (charsOut s).length) : charsOut (nthS (charsOut s) k) = [nthS (charsOut s) k] ∧ (nthS (charsOut s) k).size ≤ 65536 := by
  have hk2 : k + 1 < (cutsOut s).length := by unfold charsOut at hk; rw [pieces_len] at hk; omega
  have hk3 : k + 1 < (ixs (pts s)).length := by rw [cutsOut_ix s hs h0, List.length_map] at hk2; exact hk2
  obtain ⟨q1, q2, q3, q4⟩ := ixs_next (pts s) k hk3
  have e : nthS (charsOut s) k = s.extract (steps s (ixs (pts s))[k]).2 (steps s (ixs (pts s))[k + 1]).2 := by
    unfold charsOut
    rw [nthS_pieces s _ k hk2, cutsOut_ix s hs h0, nth_map _ _ k (by omega), nth_map _ _ (k + 1) hk3]
    rfl
  have h1 := one_char s _ _ q1 q2 q3 q4
  rw [← e] at h1
  have hsz : (nthS (charsOut s) k).size ≤ 65536 := by rw [e, ByteArray.size_extract]; omega
  generalize nthS (charsOut s) k = u at *
  refine ⟨?_, hsz⟩
  have h2 : cutsOut u = [0, (u.size : Int)] := by unfold cutsOut; rw [if_neg (by omega), h1]
  unfold charsOut
  rw [h2]
  show [u.extract (0 : Int).toNat ((u.size : Int)).toNat] = [u]
  simp
theorem chars_join (s : ByteArray) (hs : s.size ≤ 65536) : jnk (charsOut s) (charsOut s).length = s ∧ ∀ k, k ≤ (charsOut s).length → (jnk (charsOut s) k).size ≤ 1048576 := by
  by_cases h0 : 0 < s.size
  · obtain ⟨l0, l1⟩ := cuts_last s hs h0
    have hf := cuts_first s hs h0
    refine ⟨jnk_all (cutsOut_ok s) hf l0 l1, fun k hk => ?_⟩
    have := jnk_size (cutsOut_ok s) hf k (by unfold charsOut at hk; rw [pieces_len] at hk; omega)
    unfold charsOut
    omega
  · have e : s = ByteArray.empty := by
      apply ByteArray.ext
      apply Array.eq_empty_of_size_eq_zero
      show s.size = 0
      omega
    have hl : (charsOut s).length = 0 := by subst e; decide +kernel
    rw [hl]
    refine ⟨e ▸ rfl, fun k hk => ?_⟩
    obtain rfl : k = 0 := by omega
    show ByteArray.empty.size ≤ _
    decide
end Chr
end Go.Proofs.YtbaedapnikhdgaaGreatDoor
/- How wide characters and texts are, in plain numbers. -/
namespace Go.Proofs.YtbaedapnikhdgaaGreatDoor
namespace Wid
open Go.RowKit Chr
set_option linter.unusedVariables false
def ide (p : Int) : Bool := decide (24576 ≤ p) && decide (p ≤ 26623)
theorem spc_ide : (spc.all fun r => decide (r.2.2.2 = 9 → r.1 = 24576 ∧ r.2.1 = 26623)) = true := by decide +kernel
theorem ide_in {p : Int} (h : scr p = 9) : 24576 ≤ p ∧ p ≤ 26623 := by
  unfold scr known at h
  split at h
  · split at h
    · simp at h
    · simp only at h; omega
  · split at h
    · split at h
      · simp at h
      · split at h <;> simp at h
    · rcases find_row spc p with e | ⟨r, hr, h1, h2, e⟩
      · rw [e] at h; simp [Z4] at h
      · rw [e] at h
        have := List.all_eq_true.1 spc_ide r hr
        have := of_decide_eq_true this h
        omega
theorem ide_unif : unif spc 24576 26623 = true := by decide +kernel
theorem ide_at : find spc 24576 = (24576, 26623, 7, 9) := by decide +kernel
theorem ide_of {p : Int} (h1 : 24576 ≤ p) (h2 : p ≤ 26623) : scr p = 9 := by
  unfold scr known
  rw [if_neg (by omega), if_neg (by omega), find_const spc 24576 26623 p h1 h2 ide_unif, ide_at]
theorem ide_iff (p : Int) : (scr p == 9) = ide p := by
  unfold ide
  rw [Bool.eq_iff_iff]
  simp only [beq_iff_eq, Bool.and_eq_true, decide_eq_true_eq]
  exact ⟨ide_in, fun h => ide_of h.1 h.2⟩
/-- How wide a character is that begins with this point. -/
def wd (p : Int) : Int := if sil p = true ∨ ide p = true ∨ pic p = true then 2 else if cat p = 1 ∨ cat p = 11 ∨ cat p = 3 then 0 else 1
def wc (x : ByteArray) : Int := wd (dP x 0 : Int)
def ws : List ByteArray → Int
  | [] => 0
  | x :: l => wc x + ws l
theorem wd_bd (p : Int) : 0 ≤ wd p ∧ wd p ≤ 2 := by
  unfold wd
  split
  · omega
  · split <;> omega
theorem wc_bd (x : ByteArray) : 0 ≤ wc x ∧ wc x ≤ 2 := wd_bd _
theorem ws_bd (l : List ByteArray) : 0 ≤ ws l ∧ ws l ≤ 2 * (l.length : Int) := by
  induction l with
  | nil => exact ⟨Int.le_refl _, Int.le_refl _⟩
  | cons x l ih =>
    have := wc_bd x
    simp only [ws, List.length_cons]
    omega
theorem ws_snoc (l : List ByteArray) (x : ByteArray) : ws (l ++ [x]) = ws l + wc x := by
  induction l with
  | nil => simp [ws]
  | cons y l ih => simp only [List.cons_append, ws, ih]; omega
theorem ws_take (l : List ByteArray) (k : Nat) (h : k < l.length) : ws (l.take (k + 1)) = ws (l.take k) + wc (nthS l k) := by
  have e : l.take (k + 1) = l.take k ++ [nthS l k] := by
    rw [List.take_add_one]
    congr 1
    simp [nthS, List.getD_eq_getElem?_getD, h]
  rw [e, ws_snoc]
/-- No character is empty. -/
theorem chars_pos (s : ByteArray) (hs : s.size ≤ 65536) (k : Nat) (hk : k < (charsOut s).length) : 0 < (nthS (charsOut s) k).size ∧ (nthS (charsOut s) k).size ≤ 65536 := by
  have hk2 : k + 1 < (cutsOut s).length := by unfold charsOut at hk; rw [pieces_len] at hk; omega
  have h0 : 0 < s.size := by
    apply Nat.pos_of_ne_zero
    intro h0
    have hp : pts s = [] := List.length_eq_zero_iff.1 (by have := pts_le s; omega)
    unfold cutsOut at hk2
    rw [if_neg (by omega), hp] at hk2
    simp [cutsL, bsS] at hk2
  have hlt := List.pairwise_iff_getElem.1 (cuts_lt s hs h0) k (k + 1) (by omega) hk2 (by omega)
  obtain ⟨a, b, ha, hb, hab, hbs⟩ := cutsOut_ok s k hk2
  have e1 : nth (cutsOut s) k = (cutsOut s)[k]'(by omega) := by simp [nth, List.getD_eq_getElem?_getD, show k < (cutsOut s).length by omega]
  have e2 : nth (cutsOut s) (k + 1) = (cutsOut s)[k + 1] := by simp [nth, List.getD_eq_getElem?_getD, hk2]
  have e : nthS (charsOut s) k = s.extract a b := by
    unfold charsOut
    rw [nthS_pieces s _ k hk2, ha, hb]
    rfl
  rw [e, ByteArray.size_extract]
  omega
end Wid
end Go.Proofs.YtbaedapnikhdgaaGreatDoor
