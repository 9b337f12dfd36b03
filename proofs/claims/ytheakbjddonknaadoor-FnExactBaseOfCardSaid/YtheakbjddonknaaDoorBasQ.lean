/- The base of a row of classes: a depth, and a stack with pairs, tell alike. No Go in sight. -/
import Derived.Test.YtheakbjddonknaaDoorBasB
namespace Go.Proofs.YtheakbjddonknaaDoor.Bs
open Go.RowKit Chr
/-- The stack of open isolates (the last one first) and the pairs, behind k classes of the specification's numbering. -/
def stk (C : List Int) : Nat → List Nat × List Int
  | 0 => ([], [])
  | k + 1 =>
    if 16 ≤ nth C k ∧ nth C k ≤ 18 then (k :: (stk C k).1, (stk C k).2 ++ [-1])
    else if nth C k = 6 then ([], (stk C k).2 ++ [-1])
    else if nth C k = 19 then match (stk C k).1 with
      | [] => ([], (stk C k).2 ++ [-1])
      | i :: r => (r, (((stk C k).2 ++ [-1]).set k (i : Int)).set i (k : Int))
    else ((stk C k).1, (stk C k).2 ++ [-1])
theorem stk_iso {C : List Int} {k : Nat} (h : 16 ≤ nth C k ∧ nth C k ≤ 18) : stk C (k + 1) = (k :: (stk C k).1, (stk C k).2 ++ [-1]) := by rw [stk, if_pos h]
theorem stk_b {C : List Int} {k : Nat} (h : nth C k = 6) : stk C (k + 1) = ([], (stk C k).2 ++ [-1]) := by rw [stk, if_neg (by omega), if_pos h]
theorem stk_none {C : List Int} {k : Nat} (h : nth C k = 19) (e : (stk C k).1 = []) : stk C (k + 1) = ([], (stk C k).2 ++ [-1]) := by rw [stk, if_neg (by omega), if_neg (by omega), if_pos h, e]
theorem stk_pop {C : List Int} {k i : Nat} {r : List Nat} (h : nth C k = 19) (e : (stk C k).1 = i :: r) : stk C (k + 1) = (r, (((stk C k).2 ++ [-1]).set k (i : Int)).set i (k : Int)) := by rw [stk, if_neg (by omega), if_neg (by omega), if_pos h, e]
theorem stk_oth {C : List Int} {k : Nat} (h1 : ¬ (16 ≤ nth C k ∧ nth C k ≤ 18)) (h2 : nth C k ≠ 6) (h3 : nth C k ≠ 19) : stk C (k + 1) = ((stk C k).1, (stk C k).2 ++ [-1]) := by rw [stk, if_neg h1, if_neg h2, if_neg h3]
theorem nth_setN (l : List Int) (i k : Nat) (x : Int) (hi : i < l.length) : nth (l.set i x) k = if k = i then x else nth l k := by
  unfold nth List.getD
  by_cases e : k = i
  · subst e; simp [hi]
  · rw [if_neg e, List.getElem?_set_ne (by omega)]
theorem nth_snoc (l : List Int) (x : Int) (k : Nat) (hk : k < l.length) : nth (l ++ [x]) k = nth l k := by simp [nth, List.getD, List.getElem?_append_left, hk]
theorem nth_last (l : List Int) (x : Int) (k : Nat) (hk : k = l.length) : nth (l ++ [x]) k = x := by subst hk; simp [nth, List.getD]
/-- The five ways of a step. -/
theorem stk_way (C : List Int) (k : Nat) : (16 ≤ nth C k ∧ nth C k ≤ 18) ∨ nth C k = 6 ∨ (nth C k = 19 ∧ (stk C k).1 = []) ∨ (nth C k = 19 ∧ ∃ i r, (stk C k).1 = i :: r) ∨ (¬ (16 ≤ nth C k ∧ nth C k ≤ 18) ∧ nth C k ≠ 6 ∧ nth C k ≠ 19) := by
  by_cases h1 : 16 ≤ nth C k ∧ nth C k ≤ 18
  · exact .inl h1
  by_cases h2 : nth C k = 6
  · exact .inr (.inl h2)
  by_cases h3 : nth C k = 19
  · cases e : (stk C k).1 with
    | nil => exact .inr (.inr (.inl ⟨h3, rfl⟩))
    | cons i r => exact .inr (.inr (.inr (.inl ⟨h3, i, r, rfl⟩)))
  · exact .inr (.inr (.inr (.inr ⟨h1, h2, h3⟩)))
theorem stk_len (C : List Int) (k : Nat) : (stk C k).2.length = k := by
  induction k with
  | zero => rfl
  | succ k ih =>
    rcases stk_way C k with h | h | ⟨h, e⟩ | ⟨h, i, r, e⟩ | ⟨h1, h2, h3⟩
    · rw [stk_iso h]; simp [ih]
    · rw [stk_b h]; simp [ih]
    · rw [stk_none h e]; simp [ih]
    · rw [stk_pop h e]; simp [ih]
    · rw [stk_oth h1 h2 h3]; simp [ih]
theorem stk_lt (C : List Int) (k : Nat) : ∀ i ∈ (stk C k).1, i < k := by
  induction k with
  | zero => intro i h; simp [stk] at h
  | succ k ih =>
    intro j hj
    rcases stk_way C k with h | h | ⟨h, e⟩ | ⟨h, i, r, e⟩ | ⟨h1, h2, h3⟩
    · rw [stk_iso h] at hj
      rcases List.mem_cons.1 hj with rfl | hj
      · omega
      · have := ih j hj; omega
    · rw [stk_b h] at hj; simp at hj
    · rw [stk_none h e] at hj; simp at hj
    · rw [stk_pop h e] at hj
      have := ih j (by rw [e]; exact List.mem_cons_of_mem _ hj)
      omega
    · rw [stk_oth h1 h2 h3] at hj
      have := ih j hj; omega
/-- The isolate i, which was opened with nothing open, is open behind k classes. -/
structure WOpen (C : List Int) (i k : Nat) (r : List Nat) : Prop where
  h1 : (stk C k).1 = r ++ [i]
  h2 : i ∉ r
  h3 : nth (stk C k).2 i = -1
  h4 : ∀ q, i < q → q ≤ k → (stk C q).1 ≠ []
  h5 : ∀ q, i < q → q < k → nth C q ≠ 6
/-- It was shut at j. -/
structure WShut (C : List Int) (i k j : Nat) : Prop where
  h1 : i < j
  h2 : j < k
  h3 : nth (stk C k).2 i = (j : Int)
  h4 : (stk C (j + 1)).1 = []
  h5 : ∀ q, i < q → q ≤ j → (stk C q).1 ≠ [] ∧ nth C q ≠ 6
  h6 : i ∉ (stk C k).1
/-- It was taken out at b. -/
structure WCut (C : List Int) (i k b : Nat) : Prop where
  h1 : i < b
  h2 : b < k
  h3 : nth C b = 6
  h4 : nth (stk C k).2 i = -1
  h5 : ∀ q, i < q → q ≤ b → (stk C q).1 ≠ []
  h6 : ∀ q, i < q → q < b → nth C q ≠ 6
  h7 : i ∉ (stk C k).1
/-- What is told of a place stays, where it is not on the stack. -/
theorem stk_keep {C : List Int} {i k : Nat} (hk : i < k) (hn : i ∉ (stk C k).1) : nth (stk C (k + 1)).2 i = nth (stk C k).2 i ∧ i ∉ (stk C (k + 1)).1 := by
  have hl := stk_len C k
  rcases stk_way C k with h | h | ⟨h, e⟩ | ⟨h, x, r, e⟩ | ⟨h1, h2, h3⟩
  · rw [stk_iso h]
    refine ⟨nth_snoc _ _ _ (by omega), ?_⟩
    intro hm
    rcases List.mem_cons.1 hm with rfl | hm
    · omega
    · exact hn hm
  · rw [stk_b h]; exact ⟨nth_snoc _ _ _ (by omega), by simp⟩
  · rw [stk_none h e]; exact ⟨nth_snoc _ _ _ (by omega), by simp⟩
  · have hx : x < k := stk_lt C k x (by rw [e]; exact List.mem_cons_self)
    have hxi : i ≠ x := by intro h; exact hn (by rw [e, h]; exact List.mem_cons_self)
    rw [stk_pop h e]
    refine ⟨?_, fun hm => hn (by rw [e]; exact List.mem_cons_of_mem _ hm)⟩
    simp only
    rw [nth_setN _ _ _ _ (by simp; omega), if_neg hxi, nth_setN _ _ _ _ (by simp; omega), if_neg (by omega)]
    exact nth_snoc _ _ _ (by omega)
  · rw [stk_oth h1 h2 h3]; exact ⟨nth_snoc _ _ _ (by omega), hn⟩
theorem way_step {C : List Int} {i k : Nat} (hk : i < k) (h : (∃ r, WOpen C i k r) ∨ (∃ j, WShut C i k j) ∨ (∃ b, WCut C i k b)) : (∃ r, WOpen C i (k + 1) r) ∨ (∃ j, WShut C i (k + 1) j) ∨ (∃ b, WCut C i (k + 1) b) := by
  have hl := stk_len C k
  rcases h with ⟨r, o⟩ | ⟨j, s⟩ | ⟨b, c⟩
  · have ext4 : ∀ (t : List Nat), (stk C (k + 1)).1 = t → t ≠ [] → ∀ q, i < q → q ≤ k + 1 → (stk C q).1 ≠ [] := by
      intro t ht hne q h1 h2
      by_cases e : q = k + 1
      · rw [e, ht]; exact hne
      · exact o.h4 q h1 (by omega)
    have ext5 : nth C k ≠ 6 → ∀ q, i < q → q < k + 1 → nth C q ≠ 6 := by
      intro hne q h1 h2
      by_cases e : q = k
      · rw [e]; exact hne
      · exact o.h5 q h1 (by omega)
    rcases stk_way C k with h | h | ⟨h, e⟩ | ⟨h, x, r', e⟩ | ⟨h1, h2, h3⟩
    · refine .inl ⟨k :: r, ?_, ?_, ?_, ext4 (k :: (stk C k).1) (by rw [stk_iso h]) (by simp), ext5 (by omega)⟩
      · rw [stk_iso h, o.h1]; rfl
      · intro hm
        rcases List.mem_cons.1 hm with rfl | hm
        · omega
        · exact o.h2 hm
      · rw [stk_iso h]; exact (nth_snoc _ _ _ (by omega)).trans o.h3
    · refine .inr (.inr ⟨k, hk, by omega, h, ?_, fun q h1 h2 => o.h4 q h1 h2, fun q h1 h2 => o.h5 q h1 h2, ?_⟩)
      · rw [stk_b h]; exact (nth_snoc _ _ _ (by omega)).trans o.h3
      · rw [stk_b h]; simp
    · have := o.h1; rw [e] at this; simp at this
    · have e2 := o.h1
      rw [e] at e2
      have hx : x < k := stk_lt C k x (by rw [e]; exact List.mem_cons_self)
      cases r with
      | nil =>
        simp at e2
        obtain ⟨rfl, rfl⟩ := e2
        refine .inr (.inl ⟨k, hk, by omega, ?_, ?_, fun q h1 h2 => ⟨o.h4 q h1 h2, ?_⟩, ?_⟩)
        · rw [stk_pop h e]
          simp only
          rw [nth_setN _ _ _ _ (by simp; omega), if_pos rfl]
        · rw [stk_pop h e]
        · by_cases e : q = k
          · rw [e]; omega
          · exact o.h5 q h1 (by omega)
        · rw [stk_pop h e]; simp
      | cons y r2 =>
        simp at e2
        obtain ⟨rfl, rfl⟩ := e2
        have hxi : i ≠ x := by intro h; exact o.h2 (by rw [h]; exact List.mem_cons_self)
        refine .inl ⟨r2, ?_, fun hm => o.h2 (List.mem_cons_of_mem _ hm), ?_, ext4 (r2 ++ [i]) (by rw [stk_pop h e]) (by simp), ext5 (by omega)⟩
        · rw [stk_pop h e]
        · rw [stk_pop h e]
          simp only
          rw [nth_setN _ _ _ _ (by simp; omega), if_neg hxi, nth_setN _ _ _ _ (by simp; omega), if_neg (by omega)]
          exact (nth_snoc _ _ _ (by omega)).trans o.h3
    · refine .inl ⟨r, ?_, o.h2, ?_, ext4 (stk C k).1 (by rw [stk_oth h1 h2 h3]) (o.h4 k hk (Nat.le_refl _)), ext5 h2⟩
      · rw [stk_oth h1 h2 h3]; exact o.h1
      · rw [stk_oth h1 h2 h3]; exact (nth_snoc _ _ _ (by omega)).trans o.h3
  · have kp := stk_keep hk s.h6
    exact .inr (.inl ⟨j, s.h1, by have := s.h2; omega, kp.1.trans s.h3, s.h4, s.h5, kp.2⟩)
  · have kp := stk_keep hk c.h7
    exact .inr (.inr ⟨b, c.h1, by have := c.h2; omega, c.h3, kp.1.trans c.h4, c.h5, c.h6, kp.2⟩)
theorem way_all {C : List Int} {i : Nat} (h0 : (stk C i).1 = []) (hi : 16 ≤ nth C i ∧ nth C i ≤ 18) (n : Nat) (hn : i < n) : (∃ r, WOpen C i n r) ∨ (∃ j, WShut C i n j) ∨ (∃ b, WCut C i n b) := by
  induction n with
  | zero => omega
  | succ n ih =>
    by_cases e : n = i
    · subst e
      have hl := stk_len C n
      refine .inl ⟨[], ?_, by simp, ?_, ?_, fun q h1 h2 => by omega⟩
      · rw [stk_iso hi, h0]; rfl
      · rw [stk_iso hi]; exact nth_last _ _ _ hl.symm
      · intro q h1 h2
        rw [show q = n + 1 by omega, stk_iso hi]
        simp
    · exact way_step (by omega) (ih (by omega))
/-- The program's numbering keeps the tests. -/
theorem mp_b (c : Int) : mp c = 7 ↔ c = 6 := by unfold mp; repeat' split <;> omega
theorem mp_l (c : Int) : mp c = 1 ↔ c = 0 := by unfold mp; repeat' split <;> omega
theorem mp_r (c : Int) : mp c = 2 ↔ c = 1 := by unfold mp; repeat' split <;> omega
theorem mp_p (c : Int) : mp c = 18 ↔ c = 19 := by unfold mp; repeat' split <;> omega
theorem mp_i (c : Int) : (15 ≤ mp c ∧ mp c ≤ 17) ↔ (16 ≤ c ∧ c ≤ 18) := by unfold mp; repeat' split <;> omega
/-- What the program tells from the place k on. -/
def bsK (C : List Int) (k : Nat) : Int := bsL (stk C k).1.length ((C.map mp).drop k)
theorem bsK_open (C : List Int) (k : Nat) (hk : k < C.length) : bsK C k = if nth C k = 6 then 0 else if (stk C k).1 = [] ∧ nth C k = 0 then 0 else if (stk C k).1 = [] ∧ nth C k = 1 then 1 else bsK C (k + 1) := by
  have e0 : nth (C.map mp) k = mp (nth C k) := by simp [nth, List.getD, hk]
  have l0 : (stk C k).1.length = 0 ↔ (stk C k).1 = [] := List.length_eq_zero_iff
  have t1 := mp_b (nth C k)
  have t2 := mp_l (nth C k)
  have t3 := mp_r (nth C k)
  have t4 := mp_p (nth C k)
  have t5 := mp_i (nth C k)
  have e1 : bsK C k = bsL (stk C k).1.length (mp (nth C k) :: (C.map mp).drop (k + 1)) := by
    unfold bsK
    rw [drop_nth _ k (by simpa using hk), e0]
  have nL : nth C k ≠ 0 → ¬ ((stk C k).1 = [] ∧ nth C k = 0) := fun h h' => h h'.2
  have nR : nth C k ≠ 1 → ¬ ((stk C k).1 = [] ∧ nth C k = 1) := fun h h' => h h'.2
  rw [e1, bsL]
  rcases stk_way C k with h | h | ⟨h, e⟩ | ⟨h, x, r, e⟩ | ⟨h1, h2, h3⟩
  · rw [if_neg (show ¬ nth C k = 6 by omega), if_neg (nL (by omega)), if_neg (nR (by omega)), if_neg (by omega), if_pos (t5.2 h)]
    unfold bsK; rw [stk_iso h]; rfl
  · rw [if_pos h, if_pos (t1.2 h)]
  · rw [if_neg (show ¬ nth C k = 6 by omega), if_neg (nL (by omega)), if_neg (nR (by omega)), if_neg (by omega), if_neg (by omega), if_neg (by rw [e]; simp), if_neg (by omega), if_neg (by omega)]
    unfold bsK; rw [stk_none h e, e]
  · rw [if_neg (show ¬ nth C k = 6 by omega), if_neg (nL (by omega)), if_neg (nR (by omega)), if_neg (by omega), if_neg (by omega), if_pos ⟨t4.2 h, by rw [e]; simp⟩]
    unfold bsK; rw [stk_pop h e, e]; rfl
  · rw [if_neg h2, if_neg (show ¬ mp (nth C k) = 7 by omega), if_neg (show ¬ (15 ≤ mp (nth C k) ∧ mp (nth C k) ≤ 17) by omega), if_neg (show ¬ (mp (nth C k) = 18 ∧ 0 < (stk C k).1.length) by omega)]
    have eb : bsK C (k + 1) = bsL (stk C k).1.length ((C.map mp).drop (k + 1)) := by unfold bsK; rw [stk_oth h1 h2 h3]
    rw [eb]
    by_cases q0 : (stk C k).1 = []
    · by_cases ql : nth C k = 0
      · rw [if_pos (show (stk C k).1.length = 0 ∧ mp (nth C k) = 1 from ⟨l0.2 q0, t2.2 ql⟩), if_pos ⟨q0, ql⟩]
      · rw [if_neg (nL ql), if_neg (show ¬ ((stk C k).1.length = 0 ∧ mp (nth C k) = 1) by omega)]
        by_cases qr : nth C k = 1
        · rw [if_pos (show (stk C k).1.length = 0 ∧ mp (nth C k) = 2 from ⟨l0.2 q0, t3.2 qr⟩), if_pos ⟨q0, qr⟩]
        · rw [if_neg (nR qr), if_neg (show ¬ ((stk C k).1.length = 0 ∧ mp (nth C k) = 2) by omega)]
    · have l1 : ¬ (stk C k).1.length = 0 := fun h => q0 (l0.1 h)
      rw [if_neg (show ¬ ((stk C k).1.length = 0 ∧ mp (nth C k) = 1) by omega), if_neg (show ¬ ((stk C k).1.length = 0 ∧ mp (nth C k) = 2) by omega), if_neg (show ¬ ((stk C k).1 = [] ∧ nth C k = 0) from fun h => q0 h.1), if_neg (show ¬ ((stk C k).1 = [] ∧ nth C k = 1) from fun h => q0 h.1)]
theorem bsK_end (C : List Int) : bsK C C.length = 0 := by
  unfold bsK
  rw [List.drop_eq_nil_iff.2 (by simp)]
  rfl
/-- Where isolates are open nothing is told. -/
theorem bsK_skip (C : List Int) (i : Nat) : ∀ k, i ≤ k → k ≤ C.length → (∀ q, i ≤ q → q < k → (stk C q).1 ≠ [] ∧ nth C q ≠ 6) → bsK C i = bsK C k := by
  intro k
  induction k with
  | zero => intro h1 _ _; rw [show i = 0 by omega]
  | succ k ih =>
    intro h1 h2 h3
    by_cases e : i = k + 1
    · rw [e]
    · rw [ih (by omega) (by omega) (fun q a b => h3 q a (by omega)), bsK_open C k (by omega)]
      obtain ⟨a, b⟩ := h3 k (by omega) (by omega)
      rw [if_neg b, if_neg (by intro h; exact a h.1), if_neg (by intro h; exact a h.1)]
/-- An isolate with nothing open: told is what is told behind its end, or nothing. -/
theorem bsK_iso {C : List Int} {i : Nat} (hi : i < C.length) (h0 : (stk C i).1 = []) (h : 16 ≤ nth C i ∧ nth C i ≤ 18) :
    (nth (stk C C.length).2 i < 0 ∧ bsK C i = 0) ∨ (∃ j : Nat, nth (stk C C.length).2 i = (j : Int) ∧ i < j ∧ j < C.length ∧ (stk C (j + 1)).1 = [] ∧ bsK C i = bsK C (j + 1)) := by
  have e0 : bsK C i = bsK C (i + 1) := by rw [bsK_open C i hi, if_neg (by omega), if_neg (by omega), if_neg (by omega)]
  rcases way_all h0 h C.length hi with ⟨r, o⟩ | ⟨j, s⟩ | ⟨b, c⟩
  · refine .inl ⟨by rw [o.h3]; omega, ?_⟩
    rw [e0, bsK_skip C (i + 1) C.length (by omega) (Nat.le_refl _) (fun q a b => ⟨o.h4 q (by omega) (by omega), o.h5 q (by omega) b⟩), bsK_end]
  · refine .inr ⟨j, s.h3, s.h1, s.h2, s.h4, ?_⟩
    have := s.h1
    have := s.h2
    rw [e0, bsK_skip C (i + 1) (j + 1) (by omega) (by omega) (fun q a b => s.h5 q (by omega) (by omega))]
  · refine .inl ⟨by rw [c.h4]; omega, ?_⟩
    have := c.h1
    have := c.h2
    rw [e0, bsK_skip C (i + 1) b (by omega) (by omega) (fun q a d => ⟨c.h5 q (by omega) (by omega), c.h6 q (by omega) d⟩), bsK_open C b (by omega), if_pos c.h3]
/-- Every other class with nothing open. -/
theorem stk_empty {C : List Int} {i : Nat} (h0 : (stk C i).1 = []) (h : ¬ (16 ≤ nth C i ∧ nth C i ≤ 18)) : (stk C (i + 1)).1 = [] := by
  rcases stk_way C i with h1 | h1 | ⟨h1, e⟩ | ⟨h1, x, r, e⟩ | ⟨h1, h2, h3⟩
  · exact absurd h1 h
  · rw [stk_b h1]
  · rw [stk_none h1 e]
  · rw [h0] at e; cases e
  · rw [stk_oth h1 h2 h3]; exact h0
end Go.Proofs.YtheakbjddonknaaDoor.Bs
