/- A line with blanks put in is as wide as asked for, and beside blanks it is the line; in plain numbers and texts. -/
import Derived.Test.YtbaedapnikhdgaaGreatDoorJU
namespace Go.Proofs.YtbaedapnikhdgaaGreatDoor
namespace Jud
open Go.RowKit Chr Wid Jus
set_option linter.unusedVariables false
set_option linter.unusedSimpArgs false
/-- Bytes behind the first one of a point are no plain ones. -/
theorem dec_cont (size pos b0 b1 b2 b3 : Nat) : (dec size pos b0 b1 b2 b3).2 ≤ 4 ∧ (1 < (dec size pos b0 b1 b2 b3).2 → 128 ≤ b1) ∧ (2 < (dec size pos b0 b1 b2 b3).2 → 128 ≤ b2) ∧ (3 < (dec size pos b0 b1 b2 b3).2 → 128 ≤ b3) := by
  unfold dec
  repeat' split
  all_goals (refine ⟨?_, ?_, ?_, ?_⟩ <;> dsimp only <;> omega)
theorem dec_in (s : ByteArray) (p j : Nat) (h1 : 1 ≤ j) (h2 : j < dN s p) : 128 ≤ bt s (p + j) := by
  unfold dN at h2
  rw [decode_dec] at h2
  obtain ⟨q0, q1, q2, q3⟩ := dec_cont s.size p (bt s p) (bt s (p + 1)) (bt s (p + 2)) (bt s (p + 3))
  have hj : j = 1 ∨ j = 2 ∨ j = 3 := by omega
  rcases hj with rfl | rfl | rfl
  · exact q1 h2
  · exact q2 h2
  · exact q3 h2
/-- A point begins at each plain byte. -/
theorem at_step (s : ByteArray) (m : Nat) (h : m < s.size → bt s m < 128) (hm : m ≤ s.size) : ∃ n, n ≤ (pts s).length ∧ (steps s n).2 = m := by
  by_cases e : m = s.size
  · exact ⟨_, Nat.le_refl _, e ▸ steps_end s⟩
  · have key : ∀ k, (∃ n, n ≤ (pts s).length ∧ (steps s n).2 = m) ∨ (steps s k).2 < m := by
      intro k
      induction k with
      | zero =>
        by_cases z : m = 0
        · exact .inl ⟨0, Nat.zero_le _, by rw [steps_zero, z]⟩
        · exact .inr (by rw [steps_zero]; show 0 < m; omega)
      | succ k ih =>
        rcases ih with ih | ih
        · exact .inl ih
        · have hk : (steps s k).2 < s.size := by omega
          have e2 : (steps s (k + 1)).2 = (steps s k).2 + dN s (steps s k).2 := by rw [steps_next s k hk]
          have hle : (steps s (k + 1)).2 ≤ m := by
            apply Nat.le_of_not_lt
            intro c
            have q := dec_in s (steps s k).2 (m - (steps s k).2) (by omega) (by omega)
            rw [show (steps s k).2 + (m - (steps s k).2) = m by omega] at q
            have := h (by omega)
            omega
          rcases Nat.lt_or_eq_of_le hle with c | c
          · exact .inr c
          · refine .inl ⟨k + 1, Nat.lt_of_not_le fun c2 => ?_, c⟩
            have q := steps_pos s (pts s).length (k - (pts s).length)
            rw [steps_end, show (pts s).length + (k - (pts s).length) = k by omega] at q
            omega
    rcases key (pts s).length with k | k
    · exact k
    · rw [steps_end] at k
      omega
theorem pts_split (s : ByteArray) (m : Nat) (h : m < s.size → bt s m < 128) (hm : m ≤ s.size) : pts s = pts (s.extract 0 m) ++ pts (s.extract m s.size) := by
  obtain ⟨n, hn, rfl⟩ := at_step s m h hm
  have a := pts_piece s 0 n (Nat.zero_le _) hn
  have b := pts_piece s n (pts s).length hn (Nat.le_refl _)
  rw [steps_zero] at a
  rw [steps_end] at b
  simp only at a
  rw [a, b, List.drop_zero, Nat.sub_zero, List.take_of_length_le (l := (pts s).drop n) (by simp), List.take_append_drop]
theorem ba_left (A D : ByteArray) : (A ++ D).extract 0 A.size = A := by
  apply ByteArray.ext
  simp [ByteArray.data_append]
theorem ba_right (A D : ByteArray) : (A ++ D).extract A.size (A ++ D).size = D := by
  apply ByteArray.ext
  simp [ByteArray.data_append, ← ByteArray.size_data]
theorem ext_join (x : ByteArray) (a b c : Nat) (h1 : a ≤ b) (h2 : b ≤ c) : x.extract a b ++ x.extract b c = x.extract a c := by
  rw [ByteArray.extract_append_extract]
  congr 1 <;> omega
theorem bt_r (A D : ByteArray) (j : Nat) (h : j < D.size) : bt (A ++ D) (A.size + j) = bt D j := by
  have hs : (A ++ D).size = A.size + D.size := ByteArray.size_append
  have q := bt_extract (A ++ D) A.size (A ++ D).size j (Nat.le_refl _) (by omega)
  rw [ba_right] at q
  exact q.symm
theorem bt_l (A D : ByteArray) (j : Nat) (h : j < A.size) : bt (A ++ D) j = bt A j := by
  have hs : (A ++ D).size = A.size + D.size := ByteArray.size_append
  have q := bt_extract (A ++ D) 0 A.size j (by omega) (by omega)
  rw [ba_left, Nat.zero_add] at q
  exact q.symm
theorem pts_app (A D : ByteArray) (h : 0 < D.size → bt D 0 < 128) : pts (A ++ D) = pts A ++ pts D := by
  have hs : (A ++ D).size = A.size + D.size := ByteArray.size_append
  have q := pts_split (A ++ D) A.size (fun c => by
    have := bt_r A D 0 (by omega)
    rw [Nat.add_zero] at this
    rw [this]
    exact h (by omega)) (by omega)
  rw [ba_left, ba_right] at q
  exact q
theorem bt_bla (k i : Nat) (h : i < k) : bt (bla k) i = 32 := by
  rw [← bt_get _ i (by rw [bla_size]; exact h)]
  unfold bla
  simp [ByteArray.getElem_eq_getElem_data]
theorem pts_blank (C : ByteArray) : pts (bla 1 ++ C) = 32 :: pts C := by
  have hs : (bla 1 ++ C).size = 1 + C.size := by rw [ByteArray.size_append, bla_size]
  have h0 : bt (bla 1 ++ C) 0 = 32 := by rw [bt_l _ _ 0 (by rw [bla_size]; omega), bt_bla 1 0 (by omega)]
  have hp := pts_pos (s := bla 1 ++ C) (by omega)
  have hd : Utf8.decode (bla 1 ++ C) 0 = (32, 1) := by rw [decode_dec, h0]; exact dec_one (by omega)
  have e1 : steps (bla 1 ++ C) 1 = ([32], 1) := by
    rw [steps_next _ 0 (by rw [steps_zero]; show 0 < _; omega), steps_zero]
    simp only
    unfold dP dN
    rw [hd]
    rfl
  have t := steps_take (bla 1 ++ C) 1 hp
  have b := pts_piece (bla 1 ++ C) 1 (pts (bla 1 ++ C)).length hp (Nat.le_refl _)
  rw [steps_end, e1] at b
  rw [e1] at t
  have r := ba_right (bla 1) C
  rw [bla_size] at r
  simp only at b t
  rw [r] at b
  rw [List.take_of_length_le (by simp)] at b
  rw [b, ← List.take_append_drop 1 (pts (bla 1 ++ C)), ← t]
  simp
theorem pts_blanks (C : ByteArray) : ∀ k, pts (bla k ++ C) = List.replicate k 32 ++ pts C
  | 0 => by
    have e : bla 0 ++ C = C := by
      apply ByteArray.ext
      rw [ByteArray.data_append]
      unfold bla
      simp
    rw [e]; rfl
  | k + 1 => by
    rw [show k + 1 = 1 + k by omega, ← bla_add, ByteArray.append_assoc, pts_blank, pts_blanks C k, show 1 + k = k + 1 by omega]
    rfl
/-- How wide the first n points are. -/
def wk (L : List Int) : Nat → Int
  | 0 => 0
  | n + 1 => wk L n + (if n = 0 ∨ Chr.charS L n = true then wd (L.getD n 0) else 0)
def WK (L : List Int) : Int := wk L L.length
theorem getD_left (A D : List Int) (n : Nat) (h : n < A.length) : (A ++ D).getD n 0 = A.getD n 0 := by
  rw [List.getD_eq_getElem?_getD, List.getElem?_append_left h, ← List.getD_eq_getElem?_getD]
theorem getD_right (A D : List Int) (n : Nat) : (A ++ D).getD (A.length + n) 0 = D.getD n 0 := by
  rw [List.getD_eq_getElem?_getD, List.getElem?_append_right (by omega), ← List.getD_eq_getElem?_getD, show A.length + n - A.length = n by omega]
theorem wk_take (A D : List Int) : ∀ n, n ≤ A.length → wk (A ++ D) n = wk A n
  | 0, _ => rfl
  | n + 1, h => by
    have c := char_take (A ++ D) A.length n h
    rw [List.take_left' rfl] at c
    rw [wk, wk, wk_take A D n (by omega), c, getD_left A D n h]
theorem wk_drop (L : List Int) (a : Nat) (h : a = 0 ∨ Chr.charS L a = true) : ∀ j, wk L (a + j) = wk L a + wk (L.drop a) j
  | 0 => by simp [wk]
  | j + 1 => by
    rw [← Nat.add_assoc, wk, wk, wk_drop L a h j, getD_drop]
    by_cases e : j = 0
    · subst e
      rw [Nat.add_zero, if_pos h, if_pos (.inl rfl)]
      omega
    · rw [char_drop h j (by omega)]
      by_cases c : Chr.charS L (a + j) = true
      · rw [if_pos (.inr c), if_pos (.inr c)]; omega
      · rw [if_neg (by rintro (q | q); omega; exact c q), if_neg (by rintro (q | q); omega; exact c q)]; omega
theorem blank_is : ((List.range 1).all fun _ => prt 32 == 0 && (mrk 32 == false && (pic 32 == false && (flg 32 == false && wd 32 == 1)))) = true := by decide +kernel
theorem blank_at : prt 32 = 0 ∧ mrk 32 = false ∧ pic 32 = false ∧ flg 32 = false ∧ wd 32 = 1 := by
  have h := blank_is
  simp at h
  exact ⟨h.1, h.2.1, h.2.2.1, h.2.2.2.1, h.2.2.2.2⟩
theorem sylP_zero (x : Int) : sylP x 0 = false := by
  unfold sylP
  repeat' split
  all_goals first | rfl | decide
/-- A cut stands ahead of every blank. -/
theorem cut_blank {L : List Int} {i : Nat} (h : L.getD i 0 = 32) : Chr.charS L i = true := by
  obtain ⟨b1, b2, b3, b4, b5⟩ := blank_at
  unfold Chr.charS
  rw [h]
  have s : sylS (L.getD (i - 1) 0) 32 = false := by unfold sylS; rw [b1]; exact sylP_zero _
  rw [s, b2, b3, b4]
  simp
theorem WK_app (A D : List Int) (h : D = [] ∨ D.getD 0 0 = 32) : WK (A ++ D) = WK A + WK D := by
  rcases h with rfl | h
  · simp [WK, wk]
  · unfold WK
    have c : Chr.charS (A ++ D) A.length = true := cut_blank (by have := getD_right A D 0; rw [Nat.add_zero] at this; rw [this, h])
    have q := wk_drop (A ++ D) A.length (.inr c) D.length
    rw [List.length_append, q, wk_take A D A.length (Nat.le_refl _), List.drop_left' rfl]
theorem WK_blanks (C : List Int) : ∀ k, WK (List.replicate k 32 ++ 32 :: C) = (k : Int) + WK (32 :: C)
  | 0 => by simp
  | k + 1 => by
    have e : List.replicate (k + 1) (32 : Int) ++ 32 :: C = [32] ++ (List.replicate k 32 ++ 32 :: C) := rfl
    rw [e, WK_app _ _ (.inr (by cases k <;> rfl)), WK_blanks C k]
    have : WK [32] = 1 := by
      show (0 : Int) + (if 0 = 0 ∨ _ then wd 32 else 0) = 1
      rw [if_pos (.inl rfl), blank_at.2.2.2.2]
      rfl
    omega
/-- Blanks put in behind a blank. -/
theorem wide_put (A C : ByteArray) (k : Nat) : WK (pts ((A ++ bla 1) ++ bla k ++ C)) = WK (pts ((A ++ bla 1) ++ C)) + k := by
  have e : (A ++ bla 1) ++ bla k ++ C = A ++ (bla k ++ (bla 1 ++ C)) := by
    rw [show A ++ bla 1 ++ bla k = A ++ (bla 1 ++ bla k) from ByteArray.append_assoc, bla_add, Nat.add_comm 1 k, ← bla_add, show A ++ (bla k ++ bla 1) ++ C = A ++ (bla k ++ bla 1 ++ C) from ByteArray.append_assoc, show bla k ++ bla 1 ++ C = bla k ++ (bla 1 ++ C) from ByteArray.append_assoc]
  have h1 : bt (bla 1 ++ C) 0 = 32 := by rw [bt_l _ _ 0 (by rw [bla_size]; omega), bt_bla 1 0 (by omega)]
  have h2 : bt (bla k ++ (bla 1 ++ C)) 0 = 32 := by
    by_cases z : k = 0
    · subst z
      have e : bla 0 ++ (bla 1 ++ C) = bla 1 ++ C := by
        apply ByteArray.ext
        rw [ByteArray.data_append]
        unfold bla
        simp
      rw [e, h1]
    · rw [bt_l _ _ 0 (by rw [bla_size]; omega), bt_bla k 0 (by omega)]
  have q1 := WK_app (pts A) (List.replicate k 32 ++ 32 :: pts C) (.inr (by cases k <;> rfl))
  have q2 := WK_app (pts A) (32 :: pts C) (.inr rfl)
  have q3 := WK_blanks (pts C) k
  rw [e, show A ++ bla 1 ++ C = A ++ (bla 1 ++ C) from ByteArray.append_assoc, pts_app A _ (fun _ => by omega), pts_app A _ (fun _ => by omega), pts_blanks, pts_blank, q1, q2, q3]
  omega
/-- Bytes that are no blanks. -/
def nb (x : ByteArray) : Nat → List Int
  | 0 => []
  | i + 1 => if bt x i = 32 then nb x i else nb x i ++ [(bt x i : Int)]
def NB (x : ByteArray) : List Int := nb x x.size
theorem nb_left (A D : ByteArray) : ∀ i, i ≤ A.size → nb (A ++ D) i = nb A i
  | 0, _ => rfl
  | i + 1, h => by rw [nb, nb, nb_left A D i (by omega), bt_l A D i h]
theorem nb_right (A D : ByteArray) : ∀ j, j ≤ D.size → nb (A ++ D) (A.size + j) = NB A ++ nb D j
  | 0, _ => by rw [Nat.add_zero, nb_left A D _ (Nat.le_refl _)]; simp [nb, NB]
  | j + 1, h => by
    rw [← Nat.add_assoc, nb, nb, nb_right A D j (by omega), bt_r A D j h]
    split
    · rfl
    · rw [List.append_assoc]
theorem NB_app (A D : ByteArray) : NB (A ++ D) = NB A ++ NB D := by
  have q := nb_right A D D.size (Nat.le_refl _)
  unfold NB at q ⊢
  rw [ByteArray.size_append]
  exact q
theorem nb_bla (k : Nat) : ∀ i, i ≤ k → nb (bla k) i = []
  | 0, _ => rfl
  | i + 1, h => by rw [nb, bt_bla k i h, if_pos rfl, nb_bla k i (by omega)]
theorem NB_put (A C : ByteArray) (k : Nat) : NB (A ++ bla k ++ C) = NB (A ++ C) := by
  rw [NB_app, NB_app, NB_app]
  unfold NB
  rw [bla_size, nb_bla k k (Nat.le_refl _), List.append_nil]
theorem nb_len (x : ByteArray) : ∀ i, (nb x i).length ≤ i
  | 0 => Nat.le_refl _
  | i + 1 => by
    have := nb_len x i
    rw [nb]
    split
    · omega
    · rw [List.length_append]; simp; omega
/-- Each place for blanks stands behind a blank, farther than the one before. -/
theorem gps_at (x : ByteArray) : ∀ i m, m < (gps x i).length → ∃ g : Nat, nth (gps x i) m = (g : Int) ∧ fr (gps x i) m < g ∧ g < i ∧ bt x (g - 1) = 32
  | 0, m, h => absurd h (by simp [gps])
  | i + 1, m, h => by
    have ih := gps_at x i
    by_cases c : gap x i = true
    · rw [gps_yes c] at h ⊢
      rw [List.length_append] at h
      by_cases e : m = (gps x i).length
      · subst e
        refine ⟨i, nth_app2 _ _, ?_, by omega, ?_⟩
        · unfold fr
          split
          · exact gap_pos c
          · rename_i h0
            rw [nth_app1 _ _ _ (by omega)]
            obtain ⟨g, h1, h2, h3, h4⟩ := ih ((gps x i).length - 1) (by omega)
            rw [h1]
            show g < i
            exact h3
        · unfold gap at c
          simp only [Bool.and_eq_true, decide_eq_true_eq] at c
          exact c.2.1
      · have hm : m < (gps x i).length := by simp at h; omega
        obtain ⟨g, h1, h2, h3, h4⟩ := ih m hm
        refine ⟨g, by rw [nth_app1 _ _ _ hm]; exact h1, ?_, by omega, h4⟩
        unfold fr at h2 ⊢
        split
        · rename_i h0
          rw [if_pos h0] at h2
          exact h2
        · rename_i h0
          rw [nth_app1 _ _ _ (by omega)]
          rw [if_neg h0] at h2
          exact h2
    · have c' : gap x i = false := by simpa using c
      rw [gps_no c'] at h ⊢
      obtain ⟨g, h1, h2, h3, h4⟩ := ih m h
      exact ⟨g, h1, h2, by omega, h4⟩
theorem one_blank (x : ByteArray) (g : Nat) (h0 : 0 < g) (h1 : g ≤ x.size) (h : bt x (g - 1) = 32) : x.extract (g - 1) g = bla 1 := by
  have hs : (x.extract (g - 1) g).size = 1 := by rw [ByteArray.size_extract]; omega
  refine ByteArray.ext_getElem (by rw [hs, bla_size]) (fun i hi hi2 => ?_)
  have i0 : i = 0 := by omega
  subst i0
  apply UInt8.toNat_inj.1
  have q := bt_extract x (g - 1) g 0 h1 (by omega)
  rw [bt_get _ 0 (by omega), bt_get _ 0 (by rw [bla_size]; omega), q, Nat.add_zero, h, bt_bla 1 0 (by omega)]
/-- The line with blanks put in at the first m places. -/
def tl (x : ByteArray) (e r m : Nat) : ByteArray := jo x (gps x x.size) e r m ++ x.extract (fr (gps x x.size) m) x.size
def sm (e r m : Nat) : Nat := m * e + min m r
theorem tl_step (x : ByteArray) (e r m : Nat) (h : m < (gps x x.size).length) : ∃ A C k, tl x e r m = (A ++ bla 1) ++ C ∧ tl x e r (m + 1) = (A ++ bla 1) ++ bla k ++ C ∧ sm e r (m + 1) = sm e r m + k := by
  obtain ⟨g, h1, h2, h3, h4⟩ := gps_at x x.size m h
  refine ⟨jo x (gps x x.size) e r m ++ x.extract (fr (gps x x.size) m) (g - 1), x.extract g x.size, if m < r then e + 1 else e, ?_, ?_, ?_⟩
  · unfold tl
    rw [← one_blank x g (by omega) (by omega) h4, show jo x (gps x x.size) e r m ++ x.extract (fr (gps x x.size) m) (g - 1) ++ x.extract (g - 1) g = jo x (gps x x.size) e r m ++ (x.extract (fr (gps x x.size) m) (g - 1) ++ x.extract (g - 1) g) from ByteArray.append_assoc, ext_join _ _ _ _ (by omega) (by omega), ByteArray.append_assoc, ext_join _ _ _ _ (by omega) (by omega)]
  · unfold tl
    rw [jo_next, fr_next, h1, ← one_blank x g (by omega) (by omega) h4, show jo x (gps x x.size) e r m ++ x.extract (fr (gps x x.size) m) (g - 1) ++ x.extract (g - 1) g = jo x (gps x x.size) e r m ++ (x.extract (fr (gps x x.size) m) (g - 1) ++ x.extract (g - 1) g) from ByteArray.append_assoc, ext_join _ _ _ _ (by omega) (by omega)]
    rfl
  · unfold sm
    rw [Nat.succ_mul]
    split <;> omega
theorem tl_zero (x : ByteArray) (e r : Nat) : tl x e r 0 = x := by
  apply ByteArray.ext
  simp [tl, jo, fr]
theorem tl_all (x : ByteArray) (e r : Nat) : ∀ m, m ≤ (gps x x.size).length → WK (pts (tl x e r m)) = WK (pts x) + (sm e r m : Int) ∧ (tl x e r m).size = x.size + sm e r m ∧ NB (tl x e r m) = NB x
  | 0, _ => by
    rw [tl_zero]
    have : sm e r 0 = 0 := by unfold sm; omega
    rw [this]
    exact ⟨by omega, by omega, rfl⟩
  | m + 1, h => by
    obtain ⟨i1, i2, i3⟩ := tl_all x e r m (by omega)
    obtain ⟨A, C, k, e1, e2, e3⟩ := tl_step x e r m (by omega)
    rw [e1] at i1 i2 i3
    rw [e2, e3]
    refine ⟨by rw [wide_put, i1]; omega, ?_, by rw [NB_put]; exact i3⟩
    simp only [ByteArray.size_append, bla_size] at i2 ⊢
    omega
end Jud
end Go.Proofs.YtbaedapnikhdgaaGreatDoor
