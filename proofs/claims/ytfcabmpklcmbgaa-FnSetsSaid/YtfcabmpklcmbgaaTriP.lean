/- Blocks of 64 and their places: no Go in sight. -/
import Derived.WalkKit
namespace Go.Proofs.Ytfcabmpklcmbgaa
/-- An index in which each place comes first behind all ahead of it; so many come. -/
def turns : Int → List Int → Option Int
  | n, [] => some n
  | n, p :: t => if p < 0 ∨ n < p then none else turns (if p = n then n + 1 else n) t
/-- The i-th block. -/
def blk (l : List Int) (i : Nat) : List Int := (l.drop (i * 64)).take 64
theorem blk_len (l : List Int) (i c : Nat) (h : l.length = c * 64) (hi : i < c) : (blk l i).length = 64 := by
  unfold blk
  rw [List.length_take, List.length_drop, h]
  omega
theorem blk_at (l : List Int) (i j : Nat) (hj : j < 64) : (blk l i)[j]? = l[i * 64 + j]? := by
  unfold blk
  rw [List.getElem?_take_of_lt hj, List.getElem?_drop]
theorem blk_nth (l : List Int) (i j : Nat) (hj : j < 64) : (blk l i).getD j 0 = l.getD (i * 64 + j) 0 := by
  unfold List.getD
  rw [blk_at l i j hj]
/-- No two of the first c blocks are alike. -/
def Unlike (l : List Int) (c : Nat) : Prop := ∀ i j, i < j → j < c → blk l i ≠ blk l j
def TrieOk (ix dt : List Int) : Prop := ix.length = 512 ∧ dt.length % 64 = 0 ∧ dt.length / 64 ≤ 512 ∧ Unlike dt (dt.length / 64) ∧ turns 0 ix = some ((dt.length / 64 : Nat) : Int)
/-- The same, reckoned. -/
def unlikeB (l : List Int) (c : Nat) : Bool := (List.range c).all fun j => (List.range j).all fun i => decide (blk l i ≠ blk l j)
theorem unlikeB_yes {l : List Int} {c : Nat} (h : Unlike l c) : unlikeB l c = true := by
  unfold unlikeB
  rw [List.all_eq_true]
  intro j hj
  rw [List.all_eq_true]
  intro i hi
  exact decide_eq_true (h i j (List.mem_range.1 hi) (List.mem_range.1 hj))
theorem unlike_of {l : List Int} {c : Nat} (h : unlikeB l c = true) : Unlike l c := fun i j hi hj => by
  unfold unlikeB at h
  rw [List.all_eq_true] at h
  have h1 := h j (List.mem_range.2 hj)
  rw [List.all_eq_true] at h1
  exact of_decide_eq_true (h1 i (List.mem_range.2 hi))
theorem unlikeB_no {l : List Int} {c : Nat} (h : ¬ Unlike l c) : unlikeB l c = false := by
  cases e : unlikeB l c with
  | false => rfl
  | true => exact (h (unlike_of e)).elim
def trieFault (ix dt : List Int) : Int := if ix.length = 512 ∧ dt.length % 64 = 0 ∧ dt.length / 64 ≤ 512 ∧ unlikeB dt (dt.length / 64) = true ∧ turns 0 ix = some ((dt.length / 64 : Nat) : Int) then 0 else 1
theorem trieFault_ok {ix dt : List Int} (h : TrieOk ix dt) : trieFault ix dt = 0 := if_pos ⟨h.1, h.2.1, h.2.2.1, unlikeB_yes h.2.2.2.1, h.2.2.2.2⟩
theorem trieFault_no {ix dt : List Int} (h : ¬ TrieOk ix dt) : trieFault ix dt = 1 := if_neg fun g => h ⟨g.1, g.2.1, g.2.2.1, unlike_of g.2.2.2.1, g.2.2.2.2⟩
/-- The place of a block in a row of blocks, or how many there are. -/
def idxF (b : List Int) : List (List Int) → Nat
  | [] => 0
  | c :: t => if c = b then 0 else idxF b t + 1
def tb (T : List (List Int)) (i : Nat) : List Int := T.getD i []
theorem tb_cons (c : List Int) (t : List (List Int)) (i : Nat) : tb (c :: t) (i + 1) = tb t i := by simp [tb]
theorem tb_mem {T : List (List Int)} {i : Nat} (h : i < T.length) : tb T i ∈ T := by
  unfold tb
  rw [List.getD_eq_getElem?_getD, List.getElem?_eq_getElem h]
  exact List.getElem_mem h
theorem tb_of_mem {T : List (List Int)} {b : List Int} (h : b ∈ T) : ∃ i, i < T.length ∧ tb T i = b := by
  obtain ⟨i, hi, rfl⟩ := List.getElem_of_mem h
  exact ⟨i, hi, by simp [tb, List.getD, hi]⟩
theorem idxF_le (b : List Int) : ∀ T, idxF b T ≤ T.length
  | [] => Nat.le_refl _
  | c :: t => by
    have := idxF_le b t
    simp only [idxF, List.length_cons]
    split <;> omega
theorem idxF_first (b : List Int) : ∀ (T : List (List Int)) (i : Nat), i < T.length → tb T i = b → (∀ j, j < i → tb T j ≠ b) → idxF b T = i
  | [], i, h, _, _ => by simp at h
  | c :: t, 0, _, h, _ => by
    have : c = b := by simpa [tb] using h
    simp [idxF, this]
  | c :: t, i + 1, hi, h, hn => by
    have h0 : c ≠ b := by simpa [tb] using hn 0 (by omega)
    have := idxF_first b t i (by simpa using hi) (by rw [← tb_cons c]; exact h) (fun j hj => by rw [← tb_cons c]; exact hn (j + 1) (by omega))
    simp [idxF, h0, this]
theorem idxF_none (b : List Int) : ∀ (T : List (List Int)), (∀ i, i < T.length → tb T i ≠ b) → idxF b T = T.length
  | [], _ => rfl
  | c :: t, hn => by
    have h0 : c ≠ b := by simpa [tb] using hn 0 (by simp)
    have := idxF_none b t (fun j hj => by rw [← tb_cons c]; exact hn (j + 1) (by simpa using hj))
    simp [idxF, h0, this]
theorem idxF_mem {b : List Int} : ∀ {T : List (List Int)}, b ∈ T → idxF b T < T.length ∧ tb T (idxF b T) = b
  | [], h => by simp at h
  | c :: t, h => by
    by_cases e : c = b
    · subst e
      simp [idxF, tb]
    · have := idxF_mem (T := t) (by simpa [Ne.symm e] using h)
      simp only [idxF, if_neg e, List.length_cons, tb_cons]
      exact ⟨by omega, this.2⟩
theorem idxF_not {b : List Int} {T : List (List Int)} (h : b ∉ T) : idxF b T = T.length :=
  idxF_none b T (fun _ hi e => h (e ▸ tb_mem hi))
theorem not_mem_tb {b : List Int} {T : List (List Int)} (h : ∀ i, i < T.length → tb T i ≠ b) : b ∉ T := by
  intro hm
  obtain ⟨i, hi, e⟩ := tb_of_mem hm
  exact h i hi e
theorem tb_inj {T : List (List Int)} (hn : T.Nodup) {i j : Nat} (hi : i < T.length) (hj : j < T.length) (h : tb T i = tb T j) : i = j := by
  have e1 : tb T i = T[i] := by simp [tb, List.getD, hi]
  have e2 : tb T j = T[j] := by simp [tb, List.getD, hj]
  rw [e1, e2] at h
  have hp := List.pairwise_iff_getElem.1 hn
  by_cases a : i < j
  · exact absurd h (hp i j hi hj a)
  · by_cases b : j < i
    · exact absurd h.symm (hp j i hj hi b)
    · omega
def addB (T : List (List Int)) (b : List Int) : List (List Int) := if b ∈ T then T else T ++ [b]
theorem addB_mem {T : List (List Int)} {b : List Int} (h : b ∈ T) : addB T b = T := if_pos h
theorem addB_not {T : List (List Int)} {b : List Int} (h : b ∉ T) : addB T b = T ++ [b] := if_neg h
theorem addB_nodup {T : List (List Int)} {b : List Int} (h : T.Nodup) : (addB T b).Nodup := by
  by_cases hm : b ∈ T
  · rw [addB_mem hm]; exact h
  · rw [addB_not hm, List.nodup_append]
    exact ⟨h, by simp, fun a ha c hc e => hm (by simp at hc; rw [← hc, ← e]; exact ha)⟩
theorem tb_app_left {T : List (List Int)} {b : List Int} {i : Nat} (h : i < T.length) : tb (T ++ [b]) i = tb T i := by
  unfold tb
  rw [List.getD_eq_getElem?_getD, List.getD_eq_getElem?_getD, List.getElem?_append_left h]
theorem tb_app_last (T : List (List Int)) (b : List Int) : tb (T ++ [b]) T.length = b := by simp [tb]
/-- The blocks of l, and their places, up to the k-th one. -/
def bld (l : List Int) : Nat → List (List Int) × List Int
  | 0 => ([], [])
  | k + 1 => (addB (bld l k).1 (blk l k), (bld l k).2 ++ [((idxF (blk l k) (bld l k).1 : Nat) : Int)])
theorem bld_succ (l : List Int) (k : Nat) : bld l (k + 1) = (addB (bld l k).1 (blk l k), (bld l k).2 ++ [((idxF (blk l k) (bld l k).1 : Nat) : Int)]) := rfl
theorem bld_ix_len (l : List Int) : ∀ k, (bld l k).2.length = k
  | 0 => rfl
  | k + 1 => by rw [bld_succ]; simp [bld_ix_len l k]
theorem bld_nodup (l : List Int) : ∀ k, (bld l k).1.Nodup
  | 0 => List.nodup_nil
  | k + 1 => by rw [bld_succ]; exact addB_nodup (bld_nodup l k)
theorem bld_len (l : List Int) : ∀ k, (bld l k).1.length ≤ k
  | 0 => Nat.le_refl _
  | k + 1 => by
    have := bld_len l k
    rw [bld_succ]
    by_cases h : blk l k ∈ (bld l k).1
    · simp only [addB_mem h]; omega
    · simp only [addB_not h, List.length_append, List.length_singleton]; omega
theorem bld_all (l : List Int) (c : Nat) (hl : l.length = c * 64) : ∀ k, k ≤ c → ∀ b ∈ (bld l k).1, b.length = 64
  | 0, _, b, h => by simp [bld] at h
  | k + 1, hk, b, h => by
    rw [bld_succ] at h
    by_cases hm : blk l k ∈ (bld l k).1
    · simp only [addB_mem hm] at h
      exact bld_all l c hl k (by omega) b h
    · simp only [addB_not hm, List.mem_append, List.mem_singleton] at h
      rcases h with h | rfl
      · exact bld_all l c hl k (by omega) b h
      · exact blk_len l k c hl (by omega)
/-- All unlike: each block is at its own place. -/
theorem bld_unlike {l : List Int} : ∀ k, Unlike l k → (bld l k).1 = (List.range k).map (blk l)
  | 0, _ => rfl
  | k + 1, h => by
    have ih := bld_unlike k (fun i j a b => h i j a (by omega))
    rw [bld_succ]
    have hm : blk l k ∉ (bld l k).1 := by
      rw [ih]
      intro hm
      obtain ⟨i, hi, e⟩ := List.mem_map.1 hm
      rw [List.mem_range] at hi
      exact h i k hi (by omega) e
    show addB (bld l k).1 (blk l k) = _
    rw [addB_not hm, ih, List.range_succ, List.map_append]
    rfl
theorem bld_new {l : List Int} {k : Nat} (h : Unlike l k) (hm : blk l k ∉ (bld l k).1) : Unlike l (k + 1) := by
  intro i j a b
  by_cases e : j = k
  · subst e
    intro e
    apply hm
    rw [bld_unlike _ h]
    exact List.mem_map.2 ⟨i, List.mem_range.2 a, e⟩
  · exact h i j a (by omega)
theorem bld_old {l : List Int} {k : Nat} (h : Unlike l k) (hm : blk l k ∈ (bld l k).1) : ¬ Unlike l (k + 1) := by
  intro h2
  rw [bld_unlike _ h] at hm
  obtain ⟨i, hi, e⟩ := List.mem_map.1 hm
  rw [List.mem_range] at hi
  exact h2 i k hi (by omega) e
theorem unlike_mono {l : List Int} {k c : Nat} (h : Unlike l c) (hk : k ≤ c) : Unlike l k := fun i j a b => h i j a (by omega)
theorem bld_idx {l : List Int} {k : Nat} (h : Unlike l k) : (idxF (blk l k) (bld l k).1 = k ↔ blk l k ∉ (bld l k).1) := by
  have hl : (bld l k).1.length = k := by rw [bld_unlike _ h]; simp
  constructor
  · intro e hm
    have := (idxF_mem hm).1
    omega
  · intro hm
    rw [idxF_not hm, hl]
theorem turns_snoc : ∀ (l : List Int) (n p : Int), turns n (l ++ [p]) = (turns n l).bind fun m => if p < 0 ∨ m < p then none else some (if p = m then m + 1 else m)
  | [], n, p => by simp [turns]
  | q :: t, n, p => by
    simp only [List.cons_append, turns]
    split
    · rfl
    · exact turns_snoc t _ p
theorem bld_turns (l : List Int) : ∀ k, turns 0 (bld l k).2 = some (((bld l k).1.length : Nat) : Int)
  | 0 => rfl
  | k + 1 => by
    rw [bld_succ]
    simp only [turns_snoc, bld_turns l k, Option.bind_some]
    have hle := idxF_le (blk l k) (bld l k).1
    rw [if_neg (by omega)]
    by_cases hm : blk l k ∈ (bld l k).1
    · have := (idxF_mem hm).1
      rw [if_neg (by omega), addB_mem hm]
    · rw [idxF_not hm, if_pos rfl, addB_not hm]
      simp
/-- Where a place is told it stays. -/
theorem bld_stay (l : List Int) (c : Nat) : ∀ k, c ≤ k → ∀ i, i < (bld l c).1.length → i < (bld l k).1.length ∧ tb (bld l k).1 i = tb (bld l c).1 i := by
  intro k
  induction k with
  | zero => intro h i hi; obtain rfl : c = 0 := by omega
            exact ⟨hi, rfl⟩
  | succ k ih =>
    intro h i hi
    by_cases e : c = k + 1
    · subst e; exact ⟨hi, rfl⟩
    · obtain ⟨h1, h2⟩ := ih (by omega) i hi
      rw [bld_succ]
      by_cases hm : blk l k ∈ (bld l k).1
      · simp only [addB_mem hm]; exact ⟨h1, h2⟩
      · simp only [addB_not hm]
        refine ⟨by simp; omega, ?_⟩
        rw [tb_app_left h1, h2]
theorem bld_at (l : List Int) : ∀ (k i : Nat), i < k → ∃ m : Nat, (bld l k).2.getD i 0 = (m : Int) ∧ m < (bld l k).1.length ∧ tb (bld l k).1 m = blk l i := by
  intro k
  induction k with
  | zero => intro i h; omega
  | succ k ih =>
    intro i hi
    by_cases e : i = k
    · subst e
      refine ⟨idxF (blk l i) (bld l i).1, ?_, ?_, ?_⟩
      · rw [bld_succ]
        simp [List.getD, bld_ix_len]
      · rw [bld_succ]
        by_cases hm : blk l i ∈ (bld l i).1
        · simp only [addB_mem hm]; exact (idxF_mem hm).1
        · simp only [addB_not hm]; rw [idxF_not hm]; simp
      · rw [bld_succ]
        by_cases hm : blk l i ∈ (bld l i).1
        · simp only [addB_mem hm]; exact (idxF_mem hm).2
        · simp only [addB_not hm]; rw [idxF_not hm]; exact tb_app_last _ _
    · obtain ⟨m, h1, h2, h3⟩ := ih i (by omega)
      obtain ⟨g1, g2⟩ := bld_stay l k (k + 1) (by omega) m h2
      refine ⟨m, ?_, g1, by rw [g2, h3]⟩
      rw [bld_succ]
      simp only [List.getD_eq_getElem?_getD]
      rw [List.getElem?_append_left (by rw [bld_ix_len]; omega), ← List.getD_eq_getElem?_getD, h1]
/-- Blocks one behind the other. -/
theorem flat_len : ∀ (T : List (List Int)), (∀ b ∈ T, b.length = 64) → T.flatten.length = T.length * 64
  | [], _ => rfl
  | c :: t, h => by
    have := flat_len t (fun b hb => h b (by simp [hb]))
    have hc := h c (by simp)
    simp only [List.flatten_cons, List.length_append, List.length_cons]
    omega
theorem flat_blk : ∀ (T : List (List Int)), (∀ b ∈ T, b.length = 64) → ∀ i, i < T.length → blk T.flatten i = tb T i
  | [], _, i, hi => by simp at hi
  | c :: t, h, 0, _ => by
    have hc := h c (by simp)
    simp [blk, tb, hc]
  | c :: t, h, i + 1, hi => by
    have hc := h c (by simp)
    have ih := flat_blk t (fun b hb => h b (by simp [hb])) i (by simpa using hi)
    rw [tb_cons, ← ih]
    unfold blk
    rw [List.flatten_cons, List.drop_append, hc, List.drop_eq_nil_of_le (by omega), List.nil_append, show (i + 1) * 64 - 64 = i * 64 by omega]
theorem flat_snoc (T : List (List Int)) (b : List Int) : (T ++ [b]).flatten = T.flatten ++ b := by simp
/-- The trie that is built is right. -/
theorem bld_ok (l : List Int) (hl : l.length = 512 * 64) : TrieOk (bld l 512).2 (bld l 512).1.flatten := by
  have h64 := bld_all l 512 hl 512 (Nat.le_refl _)
  have hlen := flat_len _ h64
  have hle := bld_len l 512
  have hd : (bld l 512).1.flatten.length / 64 = (bld l 512).1.length := by rw [hlen]; omega
  refine ⟨bld_ix_len l 512, by rw [hlen]; omega, by omega, ?_, by rw [hd]; exact bld_turns l 512⟩
  rw [hd]
  intro i j hij hj
  rw [flat_blk _ h64 i (by omega), flat_blk _ h64 j hj]
  intro e
  have := tb_inj (bld_nodup l 512) (by omega) hj e
  omega
/-- What it tells of a point. -/
def atP (ix dt : List Int) (p : Nat) : Int := dt.getD ((ix.getD (p / 64) 0).toNat * 64 + p % 64) 0
theorem bld_tells (l : List Int) (hl : l.length = 512 * 64) (p : Nat) (hp : p < 32768) : atP (bld l 512).2 (bld l 512).1.flatten p = l.getD p 0 := by
  have h64 := bld_all l 512 hl 512 (Nat.le_refl _)
  obtain ⟨m, h1, h2, h3⟩ := bld_at l 512 (p / 64) (by omega)
  unfold atP
  rw [h1]
  have e : ((m : Int)).toNat = m := by omega
  have e2 : p / 64 * 64 + p % 64 = p := by omega
  rw [e, ← blk_nth _ m (p % 64) (by omega), flat_blk _ h64 m h2, h3, blk_nth l (p / 64) (p % 64) (by omega), e2]
theorem turns_bd : ∀ (l : List Int) (n c : Int), turns n l = some c → n ≤ c ∧ ∀ i, i < l.length → 0 ≤ l.getD i 0 ∧ l.getD i 0 < c
  | [], n, c, h => by
    have : n = c := by simpa [turns] using h
    exact ⟨by omega, fun i hi => by simp at hi⟩
  | p :: t, n, c, h => by
    simp only [turns] at h
    split at h
    · cases h
    · rename_i hp
      obtain ⟨a, b⟩ := turns_bd t _ c h
      have hn : n ≤ (if p = n then n + 1 else n) ∧ (p = n → (if p = n then n + 1 else n) = n + 1) := by
        constructor
        · split <;> omega
        · intro e; rw [if_pos e]
      refine ⟨by omega, fun i hi => ?_⟩
      match i with
      | 0 =>
        simp only [List.getD_cons_zero]
        by_cases e : p = n
        · have := hn.2 e; omega
        · omega
      | i + 1 =>
        have := b i (by simpa using hi)
        simpa using this
end Go.Proofs.Ytfcabmpklcmbgaa
