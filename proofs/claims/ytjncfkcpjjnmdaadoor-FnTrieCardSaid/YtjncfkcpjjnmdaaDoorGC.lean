/- Several texts in one. -/
import Derived.WalkKit
import Derived.Test.YtjncfkcpjjnmdaaDoorGA
import Derived.Test.YtjncfkcpjjnmdaaDoorBase
import Derived.ArgAppend
import Derived.Deep.RegionLaw
import Derived.Deep.QuietTactic
import Derived.BigQuiet
import Derived.Handy
import Derived.Deep.Cut
/- Blocks of 64 and their places: no Go in sight. -/
namespace Go.Proofs.YtjncfkcpjjnmdaaDoor
/-- An index in which each place comes first behind all ahead of it; so many come. -/
def turns : Int → List Int → Option Int
  | n, [] => some n
  | n, p :: t => if p < 0 ∨ n < p then none else turns (if p = n then n + 1 else n) t
/-- The i-th block. -/
def blk (l : List Int) (i : Nat) : List Int := (l.drop (i * 64)).take 64
theorem blk_len (l : List Int) (i c : Nat) (h : l.length = c * 64) (hi : i < c) : (blk l i).length = 64 := by
  unfold blk
  rw [List.length_take, List.length_drop, h]
  omega
theorem blk_at (l : List Int) (i j : Nat) (hj : j < 64) : (blk l i)[j]? = l[i * 64 + j]? := by
  unfold blk
  rw [List.getElem?_take_of_lt hj, List.getElem?_drop]
theorem blk_nth (l : List Int) (i j : Nat) (hj : j < 64) : (blk l i).getD j 0 = l.getD (i * 64 + j) 0 := by
  unfold List.getD
  rw [blk_at l i j hj]
/-- No two of the first c blocks are alike. -/
def Unlike (l : List Int) (c : Nat) : Prop := ∀ i j, i < j → j < c → blk l i ≠ blk l j
def TrieOk (ix dt : List Int) : Prop := ix.length = 512 ∧ dt.length % 64 = 0 ∧ dt.length / 64 ≤ 512 ∧ Unlike dt (dt.length / 64) ∧ turns 0 ix = some ((dt.length / 64 : Nat) : Int)
/-- The same, reckoned. -/
def unlikeB (l : List Int) (c : Nat) : Bool := (List.range c).all fun j => (List.range j).all fun i => decide (blk l i ≠ blk l j)
theorem unlikeB_yes {l : List Int} {c : Nat} (h : Unlike l c) : unlikeB l c = true := by
  unfold unlikeB
  rw [List.all_eq_true]
  intro j hj
  rw [List.all_eq_true]
  intro i hi
  exact decide_eq_true (h i j (List.mem_range.1 hi) (List.mem_range.1 hj))
theorem unlike_of {l : List Int} {c : Nat} (h : unlikeB l c = true) : Unlike l c := fun i j hi hj => by
  unfold unlikeB at h
  rw [List.all_eq_true] at h
  have h1 := h j (List.mem_range.2 hj)
  rw [List.all_eq_true] at h1
  exact of_decide_eq_true (h1 i (List.mem_range.2 hi))
theorem unlikeB_no {l : List Int} {c : Nat} (h : ¬ Unlike l c) : unlikeB l c = false := by
  cases e : unlikeB l c with
  | false => rfl
  | true => exact (h (unlike_of e)).elim
def trieFault (ix dt : List Int) : Int := if ix.length = 512 ∧ dt.length % 64 = 0 ∧ dt.length / 64 ≤ 512 ∧ unlikeB dt (dt.length / 64) = true ∧ turns 0 ix = some ((dt.length / 64 : Nat) : Int) then 0 else 1
theorem trieFault_ok {ix dt : List Int} (h : TrieOk ix dt) : trieFault ix dt = 0 := if_pos ⟨h.1, h.2.1, h.2.2.1, unlikeB_yes h.2.2.2.1, h.2.2.2.2⟩
theorem trieFault_no {ix dt : List Int} (h : ¬ TrieOk ix dt) : trieFault ix dt = 1 := if_neg fun g => h ⟨g.1, g.2.1, g.2.2.1, unlike_of g.2.2.2.1, g.2.2.2.2⟩
/-- The place of a block in a row of blocks, or how many there are. -/
def idxF (b : List Int) : List (List Int) → Nat
  | [] => 0
  | c :: t => if c = b then 0 else idxF b t + 1
def tb (T : List (List Int)) (i : Nat) : List Int := T.getD i []
theorem tb_cons (c : List Int) (t : List (List Int)) (i : Nat) : tb (c :: t) (i + 1) = tb t i := by simp [tb]
theorem tb_mem {T : List (List Int)} {i : Nat} (h : i < T.length) : tb T i ∈ T := by
  unfold tb
  rw [List.getD_eq_getElem?_getD, List.getElem?_eq_getElem h]
  exact List.getElem_mem h
theorem tb_of_mem {T : List (List Int)} {b : List Int} (h : b ∈ T) : ∃ i, i < T.length ∧ tb T i = b := by
  obtain ⟨i, hi, rfl⟩ := List.getElem_of_mem h
  exact ⟨i, hi, by simp [tb, List.getD, hi]⟩
theorem idxF_le (b : List Int) : ∀ T, idxF b T ≤ T.length
  | [] => Nat.le_refl _
  | c :: t => by
    have := idxF_le b t
    simp only [idxF, List.length_cons]
    split <;> omega
theorem idxF_first (b : List Int) : ∀ (T : List (List Int)) (i : Nat), i < T.length → tb T i = b → (∀ j, j < i → tb T j ≠ b) → idxF b T = i
  | [], i, h, _, _ => by simp at h
  | c :: t, 0, _, h, _ => by
    have : c = b := by simpa [tb] using h
    simp [idxF, this]
  | c :: t, i + 1, hi, h, hn => by
    have h0 : c ≠ b := by simpa [tb] using hn 0 (by omega)
    have := idxF_first b t i (by simpa using hi) (by rw [← tb_cons c]; exact h) (fun j hj => by rw [← tb_cons c]; exact hn (j + 1) (by omega))
    simp [idxF, h0, this]
theorem idxF_none (b : List Int) : ∀ (T : List (List Int)), (∀ i, i < T.length → tb T i ≠ b) → idxF b T = T.length
  | [], _ => rfl
  | c :: t, hn => by
    have h0 : c ≠ b := by simpa [tb] using hn 0 (by simp)
    have := idxF_none b t (fun j hj => by rw [← tb_cons c]; exact hn (j + 1) (by simpa using hj))
    simp [idxF, h0, this]
theorem idxF_mem {b : List Int} : ∀ {T : List (List Int)}, b ∈ T → idxF b T < T.length ∧ tb T (idxF b T) = b
  | [], h => by simp at h
  | c :: t, h => by
    by_cases e : c = b
    · subst e
      simp [idxF, tb]
    · have := idxF_mem (T := t) (by simpa [Ne.symm e] using h)
      simp only [idxF, if_neg e, List.length_cons, tb_cons]
      exact ⟨by omega, this.2⟩
theorem idxF_not {b : List Int} {T : List (List Int)} (h : b ∉ T) : idxF b T = T.length :=
  idxF_none b T (fun _ hi e => h (e ▸ tb_mem hi))
theorem not_mem_tb {b : List Int} {T : List (List Int)} (h : ∀ i, i < T.length → tb T i ≠ b) : b ∉ T := by
  intro hm
  obtain ⟨i, hi, e⟩ := tb_of_mem hm
  exact h i hi e
theorem tb_inj {T : List (List Int)} (hn : T.Nodup) {i j : Nat} (hi : i < T.length) (hj : j < T.length) (h : tb T i = tb T j) : i = j := by
  have e1 : tb T i = T[i] := by simp [tb, List.getD, hi]
  have e2 : tb T j = T[j] := by simp [tb, List.getD, hj]
  rw [e1, e2] at h
  have hp := List.pairwise_iff_getElem.1 hn
  by_cases a : i < j
  · exact absurd h (hp i j hi hj a)
  · by_cases b : j < i
    · exact absurd h.symm (hp j i hj hi b)
    · omega
def addB (T : List (List Int)) (b : List Int) : List (List Int) := if b ∈ T then T else T ++ [b]
theorem addB_mem {T : List (List Int)} {b : List Int} (h : b ∈ T) : addB T b = T := if_pos h
theorem addB_not {T : List (List Int)} {b : List Int} (h : b ∉ T) : addB T b = T ++ [b] := if_neg h
theorem addB_nodup {T : List (List Int)} {b : List Int} (h : T.Nodup) : (addB T b).Nodup := by
  by_cases hm : b ∈ T
  · rw [addB_mem hm]; exact h
  · rw [addB_not hm, List.nodup_append]
    exact ⟨h, by simp, fun a ha c hc e => hm (by simp at hc; rw [← hc, ← e]; exact ha)⟩
theorem tb_app_left {T : List (List Int)} {b : List Int} {i : Nat} (h : i < T.length) : tb (T ++ [b]) i = tb T i := by
  unfold tb
  rw [List.getD_eq_getElem?_getD, List.getD_eq_getElem?_getD, List.getElem?_append_left h]
theorem tb_app_last (T : List (List Int)) (b : List Int) : tb (T ++ [b]) T.length = b := by simp [tb]
/-- The blocks of l, and their places, up to the k-th one. -/
def bld (l : List Int) : Nat → List (List Int) × List Int
  | 0 => ([], [])
  | k + 1 => (addB (bld l k).1 (blk l k), (bld l k).2 ++ [((idxF (blk l k) (bld l k).1 : Nat) : Int)])
theorem bld_succ (l : List Int) (k : Nat) : bld l (k + 1) = (addB (bld l k).1 (blk l k), (bld l k).2 ++ [((idxF (blk l k) (bld l k).1 : Nat) : Int)]) := rfl
theorem bld_ix_len (l : List Int) : ∀ k, (bld l k).2.length = k
  | 0 => rfl
  | k + 1 => by rw [bld_succ]; simp [bld_ix_len l k]
theorem bld_nodup (l : List Int) : ∀ k, (bld l k).1.Nodup
  | 0 => List.nodup_nil
  | k + 1 => by rw [bld_succ]; exact addB_nodup (bld_nodup l k)
theorem bld_len (l : List Int) : ∀ k, (bld l k).1.length ≤ k
  | 0 => Nat.le_refl _
  | k + 1 => by
    have := bld_len l k
    rw [bld_succ]
    by_cases h : blk l k ∈ (bld l k).1
    · simp only [addB_mem h]; omega
    · simp only [addB_not h, List.length_append, List.length_singleton]; omega
theorem bld_all (l : List Int) (c : Nat) (hl : l.length = c * 64) : ∀ k, k ≤ c → ∀ b ∈ (bld l k).1, b.length = 64
  | 0, _, b, h => by simp [bld] at h
  | k + 1, hk, b, h => by
    rw [bld_succ] at h
    by_cases hm : blk l k ∈ (bld l k).1
    · simp only [addB_mem hm] at h
      exact bld_all l c hl k (by omega) b h
    · simp only [addB_not hm, List.mem_append, List.mem_singleton] at h
      rcases h with h | rfl
      · exact bld_all l c hl k (by omega) b h
      · exact blk_len l k c hl (by omega)
/-- All unlike: each block is at its own place. -/
theorem bld_unlike {l : List Int} : ∀ k, Unlike l k → (bld l k).1 = (List.range k).map (blk l)
  | 0, _ => rfl
  | k + 1, h => by
    have ih := bld_unlike k (fun i j a b => h i j a (by omega))
    rw [bld_succ]
    have hm : blk l k ∉ (bld l k).1 := by
      rw [ih]
      intro hm
      obtain ⟨i, hi, e⟩ := List.mem_map.1 hm
      rw [List.mem_range] at hi
      exact h i k hi (by omega) e
    show addB (bld l k).1 (blk l k) = _
    rw [addB_not hm, ih, List.range_succ, List.map_append]
    rfl
theorem bld_new {l : List Int} {k : Nat} (h : Unlike l k) (hm : blk l k ∉ (bld l k).1) : Unlike l (k + 1) := by
  intro i j a b
  by_cases e : j = k
  · subst e
    intro e
    apply hm
    rw [bld_unlike _ h]
    exact List.mem_map.2 ⟨i, List.mem_range.2 a, e⟩
  · exact h i j a (by omega)
theorem bld_old {l : List Int} {k : Nat} (h : Unlike l k) (hm : blk l k ∈ (bld l k).1) : ¬ Unlike l (k + 1) := by
  intro h2
  rw [bld_unlike _ h] at hm
  obtain ⟨i, hi, e⟩ := List.mem_map.1 hm
  rw [List.mem_range] at hi
  exact h2 i k hi (by omega) e
theorem unlike_mono {l : List Int} {k c : Nat} (h : Unlike l c) (hk : k ≤ c) : Unlike l k := fun i j a b => h i j a (by omega)
theorem bld_idx {l : List Int} {k : Nat} (h : Unlike l k) : (idxF (blk l k) (bld l k).1 = k ↔ blk l k ∉ (bld l k).1) := by
  have hl : (bld l k).1.length = k := by rw [bld_unlike _ h]; simp
  constructor
  · intro e hm
    have := (idxF_mem hm).1
    omega
  · intro hm
    rw [idxF_not hm, hl]
theorem turns_snoc : ∀ (l : List Int) (n p : Int), turns n (l ++ [p]) = (turns n l).bind fun m => if p < 0 ∨ m < p then none else some (if p = m then m + 1 else m)
  | [], n, p => by simp [turns]
  | q :: t, n, p => by
    simp only [List.cons_append, turns]
    split
    · rfl
    · exact turns_snoc t _ p
theorem bld_turns (l : List Int) : ∀ k, turns 0 (bld l k).2 = some (((bld l k).1.length : Nat) : Int)
  | 0 => rfl
  | k + 1 => by
    rw [bld_succ]
    simp only [turns_snoc, bld_turns l k, Option.bind_some]
    have hle := idxF_le (blk l k) (bld l k).1
    rw [if_neg (by omega)]
    by_cases hm : blk l k ∈ (bld l k).1
    · have := (idxF_mem hm).1
      rw [if_neg (by omega), addB_mem hm]
    · rw [idxF_not hm, if_pos rfl, addB_not hm]
      simp
/-- Where a place is told it stays. -/
theorem bld_stay (l : List Int) (c : Nat) : ∀ k, c ≤ k → ∀ i, i < (bld l c).1.length → i < (bld l k).1.length ∧ tb (bld l k).1 i = tb (bld l c).1 i := by
  intro k
  induction k with
  | zero => intro h i hi; obtain rfl : c = 0 := by omega
            exact ⟨hi, rfl⟩
  | succ k ih =>
    intro h i hi
    by_cases e : c = k + 1
    · subst e; exact ⟨hi, rfl⟩
    · obtain ⟨h1, h2⟩ := ih (by omega) i hi
      rw [bld_succ]
      by_cases hm : blk l k ∈ (bld l k).1
      · simp only [addB_mem hm]; exact ⟨h1, h2⟩
      · simp only [addB_not hm]
        refine ⟨by simp; omega, ?_⟩
        rw [tb_app_left h1, h2]
theorem bld_at (l : List Int) : ∀ (k i : Nat), i < k → ∃ m : Nat, (bld l k).2.getD i 0 = (m : Int) ∧ m < (bld l k).1.length ∧ tb (bld l k).1 m = blk l i := by
  intro k
  induction k with
  | zero => intro i h; omega
  | succ k ih =>
    intro i hi
    by_cases e : i = k
    · subst e
      refine ⟨idxF (blk l i) (bld l i).1, ?_, ?_, ?_⟩
      · rw [bld_succ]
        simp [List.getD, bld_ix_len]
      · rw [bld_succ]
        by_cases hm : blk l i ∈ (bld l i).1
        · simp only [addB_mem hm]; exact (idxF_mem hm).1
        · simp only [addB_not hm]; rw [idxF_not hm]; simp
      · rw [bld_succ]
        by_cases hm : blk l i ∈ (bld l i).1
        · simp only [addB_mem hm]; exact (idxF_mem hm).2
        · simp only [addB_not hm]; rw [idxF_not hm]; exact tb_app_last _ _
    · obtain ⟨m, h1, h2, h3⟩ := ih i (by omega)
      obtain ⟨g1, g2⟩ := bld_stay l k (k + 1) (by omega) m h2
      refine ⟨m, ?_, g1, by rw [g2, h3]⟩
      rw [bld_succ]
      simp only [List.getD_eq_getElem?_getD]
      rw [List.getElem?_append_left (by rw [bld_ix_len]; omega), ← List.getD_eq_getElem?_getD, h1]
/-- Blocks one behind the other. -/
theorem flat_len : ∀ (T : List (List Int)), (∀ b ∈ T, b.length = 64) → T.flatten.length = T.length * 64
  | [], _ => rfl
  | c :: t, h => by
    have := flat_len t (fun b hb => h b (by simp [hb]))
    have hc := h c (by simp)
    simp only [List.flatten_cons, List.length_append, List.length_cons]
    omega
theorem flat_blk : ∀ (T : List (List Int)), (∀ b ∈ T, b.length = 64) → ∀ i, i < T.length → blk T.flatten i = tb T i
  | [], _, i, hi => by simp at hi
  | c :: t, h, 0, _ => by
    have hc := h c (by simp)
    simp [blk, tb, hc]
  | c :: t, h, i + 1, hi => by
    have hc := h c (by simp)
    have ih := flat_blk t (fun b hb => h b (by simp [hb])) i (by simpa using hi)
    rw [tb_cons, ← ih]
    unfold blk
    rw [List.flatten_cons, List.drop_append, hc, List.drop_eq_nil_of_le (by omega), List.nil_append, show (i + 1) * 64 - 64 = i * 64 by omega]
theorem flat_snoc (T : List (List Int)) (b : List Int) : (T ++ [b]).flatten = T.flatten ++ b := by simp
/-- The trie that is built is right. -/
theorem bld_ok (l : List Int) (hl : l.length = 512 * 64) : TrieOk (bld l 512).2 (bld l 512).1.flatten := by
  have h64 := bld_all l 512 hl 512 (Nat.le_refl _)
  have hlen := flat_len _ h64
  have hle := bld_len l 512
  have hd : (bld l 512).1.flatten.length / 64 = (bld l 512).1.length := by rw [hlen]; omega
  refine ⟨bld_ix_len l 512, by rw [hlen]; omega, by omega, ?_, by rw [hd]; exact bld_turns l 512⟩
  rw [hd]
  intro i j hij hj
  rw [flat_blk _ h64 i (by omega), flat_blk _ h64 j hj]
  intro e
  have := tb_inj (bld_nodup l 512) (by omega) hj e
  omega
/-- What it tells of a point. -/
def atP (ix dt : List Int) (p : Nat) : Int := dt.getD ((ix.getD (p / 64) 0).toNat * 64 + p % 64) 0
theorem bld_tells (l : List Int) (hl : l.length = 512 * 64) (p : Nat) (hp : p < 32768) : atP (bld l 512).2 (bld l 512).1.flatten p = l.getD p 0 := by
  have h64 := bld_all l 512 hl 512 (Nat.le_refl _)
  obtain ⟨m, h1, h2, h3⟩ := bld_at l 512 (p / 64) (by omega)
  unfold atP
  rw [h1]
  have e : ((m : Int)).toNat = m := by omega
  have e2 : p / 64 * 64 + p % 64 = p := by omega
  rw [e, ← blk_nth _ m (p % 64) (by omega), flat_blk _ h64 m h2, h3, blk_nth l (p / 64) (p % 64) (by omega), e2]
theorem turns_bd : ∀ (l : List Int) (n c : Int), turns n l = some c → n ≤ c ∧ ∀ i, i < l.length → 0 ≤ l.getD i 0 ∧ l.getD i 0 < c
  | [], n, c, h => by
    have : n = c := by simpa [turns] using h
    exact ⟨by omega, fun i hi => by simp at hi⟩
  | p :: t, n, c, h => by
    simp only [turns] at h
    split at h
    · cases h
    · rename_i hp
      obtain ⟨a, b⟩ := turns_bd t _ c h
      have hn : n ≤ (if p = n then n + 1 else n) ∧ (p = n → (if p = n then n + 1 else n) = n + 1) := by
        constructor
        · split <;> omega
        · intro e; rw [if_pos e]
      refine ⟨by omega, fun i hi => ?_⟩
      match i with
      | 0 =>
        simp only [List.getD_cons_zero]
        by_cases e : p = n
        · have := hn.2 e; omega
        · omega
      | i + 1 =>
        have := b i (by simpa using hi)
        simpa using this
end Go.Proofs.YtjncfkcpjjnmdaaDoor
/- Slices of int64: are two alike? The slot of a block; an index in turn. -/
namespace Go.Proofs.YtjncfkcpjjnmdaaDoor
open Go.RowKit
theorem drewN_add (w : World) (n m : Nat) : (w.drewN n).drewN m = w.drewN (n + m) := World.drewN_drewN w n m
theorem IntsAt.drewN {w : World} {v : Value} {l : List Int} (h : IntsAt w v l) (n : Nat) : IntsAt (w.drewN n) v l := h
theorem ext_nth {l1 l2 : List Int} (hl : l1.length = l2.length) (h : ∀ j, j < l1.length → nth l1 j = nth l2 j) : l1 = l2 := by
  apply List.ext_getElem hl
  intro i h1 h2
  have := h i h1
  simpa [nth, List.getD, h1, h2] using this
theorem ret_bool {a b : Bool} (h : a = b) : Ending.returned (.bool a) = .returned (.bool b) := by rw [h]
def sameB (l1 l2 : List Int) : Bool := decide (l1 = l2)
theorem sameB_iff (l1 l2 : List Int) : sameB l1 l2 = true ↔ l1 = l2 := by simp [sameB]
theorem sameB_not (l1 l2 : List Int) : sameB l1 l2 = false ↔ l1 ≠ l2 := by simp [sameB]
def turnB (l : List Int) (c : Int) : Bool := decide (turns 0 l = some c)
theorem turnB_iff (l : List Int) (c : Int) : turnB l c = true ↔ turns 0 l = some c := by simp [turnB]
theorem ne_nth {l1 l2 : List Int} {k : Nat} (h : nth l1 k ≠ nth l2 k) : l1 ≠ l2 := fun e => h (by rw [e])
set_option maxHeartbeats 1000000 in
theorem same_any (v1 v2 : Value) (l1 l2 : List Int) (w : World) (h1 : IntsAt w v1 l1) (h2 : IntsAt w v2 l2) (hl1 : l1.length ≤ 1048576) (_ : l2.length ≤ 1048576) :
    Calls Tryd.prog 35 #[v1, v2] w fun e w' => e = .returned (.bool (sameB l1 l2)) ∧ ∃ n, w' = w.drewN n := by
  obtain ⟨a1, c1, rfl, h1⟩ := h1
  obtain ⟨a2, c2, rfl, h2⟩ := h2
  have H1 := hide h1
  have H2 := hide h2
  clear h1 h2
  by_cases hne : l1.length = l2.length
  · have hne' : ((l1.length : Int) != (l2.length : Int)) = false := by simp; omega
    have HE := hide hne
    have hle : (l1.length : Int) = (l2.length : Int) := by omega
    clear hne
    go_enter Tryd.func35, Tryd.ntmps35
    go_wp2
    go_loopw [5] (fun i wr => ∃ k n : Nat, k ≤ l1.length ∧ i = .int .i64 k ∧ wr = w.drewN n ∧ Hid (∀ j, j < k → nth l1 j = nth l2 j)) (fun i _ => l1.length - (intOf i).toNat)
    case atStart => exact ⟨0, 0, Nat.zero_le _, rfl, rfl, hide (fun j hj => by omega)⟩
    case round =>
      obtain ⟨k, n, hk, rfl, rfl, HC⟩ := hrel
      by_cases hlt : k < l1.length
      · have hlt2 : k < l2.length := by have := unhide HE; omega
        rcases unhide H1 with e | ⟨b1, o1, rfl, hb1, hc1⟩
        · rw [e] at hlt; simp at hlt
        rcases unhide H2 with e | ⟨b2, o2, rfl, hb2, hc2⟩
        · rw [e] at hlt2; simp at hlt2
        have d1 := hc1 k hlt
        have d2 := hc2 k hlt2
        have i1 : (k : Int) < (l1.length : Int) := by omega
        have i2 : (k : Int) < (l2.length : Int) := by omega
        clear hc1 hc2
        by_cases he : nth l1 k = nth l2 k
        · have HC' : Hid (∀ j, j < k + 1 → nth l1 j = nth l2 j) := hide (fun j hj => by
            by_cases e : j = k
            · rw [e]; exact he
            · exact unhide HC j (by omega))
          have he' : (nth l1 k != nth l2 k) = false := by simp [he]
          clear he
          generalize nth l1 k = x at *
          generalize nth l2 k = y at *
          go_wp2_with fail
          go_quiet (fail)
          go_wp2
          go_roundw
          case rel => exact ⟨k + 1, _, by omega, by go_num, rfl, HC'⟩
          case measure => simp [intOf]; omega
        · have HN : Hid (sameB l1 l2 = false) := hide (decide_eq_false (ne_nth he))
          have he' : (nth l1 k != nth l2 k) = true := by simp [he]
          clear he
          generalize nth l1 k = x at *
          generalize nth l2 k = y at *
          go_wp2_with fail
          go_quiet (fail)
          go_wp2
          go_ret
          exact ⟨ret_bool (unhide HN).symm, _, drewN_add _ _ _⟩
      · have HN : Hid (sameB l1 l2 = true) := hide (decide_eq_true (ext_nth (unhide HE) (fun j hj => unhide HC j (by omega))))
        go_wp2
        go_ret
        exact ⟨ret_bool (unhide HN).symm, n, rfl⟩
  · have hne' : ((l1.length : Int) != (l2.length : Int)) = true := by simp; omega
    have HN : Hid (sameB l1 l2 = false) := hide (decide_eq_false (fun e => hne (by rw [e])))
    clear hne
    go_enter Tryd.func35, Tryd.ntmps35
    go_wp2
    go_ret
    exact ⟨ret_bool (unhide HN).symm, 0, rfl⟩
set_option maxHeartbeats 1000000 in
theorem equal_any (v1 v2 : Value) (l1 l2 : List Int) (w : World) (h1 : IntsAt w v1 l1) (h2 : IntsAt w v2 l2) (hl1 : l1.length ≤ 1048576) (_ : l2.length ≤ 1048576) :
    Calls Tryd.prog 42 #[v1, v2] w fun e w' => e = .returned (.bool (sameB l1 l2)) ∧ ∃ n, w' = w.drewN n := by
  obtain ⟨a1, c1, rfl, h1⟩ := h1
  obtain ⟨a2, c2, rfl, h2⟩ := h2
  have H1 := hide h1
  have H2 := hide h2
  clear h1 h2
  by_cases hne : l1.length = l2.length
  · have hne' : ((l1.length : Int) != (l2.length : Int)) = false := by simp; omega
    have HE := hide hne
    have hle : (l1.length : Int) = (l2.length : Int) := by omega
    clear hne
    go_enter Tryd.func42, Tryd.ntmps42
    go_wp2
    go_loopw [13] (fun i wr => ∃ k n : Nat, k ≤ l1.length ∧ i = .int .i64 k ∧ wr = w.drewN n ∧ Hid (∀ j, j < k → nth l1 j = nth l2 j)) (fun i _ => l1.length - (intOf i).toNat)
    case atStart => exact ⟨0, 0, Nat.zero_le _, rfl, rfl, hide (fun j hj => by omega)⟩
    case round =>
      obtain ⟨k, n, hk, rfl, rfl, HC⟩ := hrel
      by_cases hlt : k < l1.length
      · have hlt2 : k < l2.length := by have := unhide HE; omega
        rcases unhide H1 with e | ⟨b1, o1, rfl, hb1, hc1⟩
        · rw [e] at hlt; simp at hlt
        rcases unhide H2 with e | ⟨b2, o2, rfl, hb2, hc2⟩
        · rw [e] at hlt2; simp at hlt2
        have d1 := hc1 k hlt
        have d2 := hc2 k hlt2
        have i1 : (k : Int) < (l1.length : Int) := by omega
        have i2 : (k : Int) < (l2.length : Int) := by omega
        clear hc1 hc2
        by_cases he : nth l1 k = nth l2 k
        · have HC' : Hid (∀ j, j < k + 1 → nth l1 j = nth l2 j) := hide (fun j hj => by
            by_cases e : j = k
            · rw [e]; exact he
            · exact unhide HC j (by omega))
          have he' : (nth l1 k != nth l2 k) = false := by simp [he]
          clear he
          generalize nth l1 k = x at *
          generalize nth l2 k = y at *
          go_wp2_with fail
          go_quiet (fail)
          go_wp2
          go_roundw
          case rel => exact ⟨k + 1, _, by omega, by go_num, rfl, HC'⟩
          case measure => simp [intOf]; omega
        · have HN : Hid (sameB l1 l2 = false) := hide (decide_eq_false (ne_nth he))
          have he' : (nth l1 k != nth l2 k) = true := by simp [he]
          clear he
          generalize nth l1 k = x at *
          generalize nth l2 k = y at *
          go_wp2_with fail
          go_quiet (fail)
          go_wp2
          go_ret
          exact ⟨ret_bool (unhide HN).symm, _, drewN_add _ _ _⟩
      · have HN : Hid (sameB l1 l2 = true) := hide (decide_eq_true (ext_nth (unhide HE) (fun j hj => unhide HC j (by omega))))
        go_wp2
        go_ret
        exact ⟨ret_bool (unhide HN).symm, n, rfl⟩
  · have hne' : ((l1.length : Int) != (l2.length : Int)) = true := by simp; omega
    have HN : Hid (sameB l1 l2 = false) := hide (decide_eq_false (fun e => hne (by rw [e])))
    clear hne
    go_enter Tryd.func42, Tryd.ntmps42
    go_wp2
    go_ret
    exact ⟨ret_bool (unhide HN).symm, 0, rfl⟩
/-- The index from the k-th item on. -/
def turnAt (l : List Int) (k : Nat) (n : Int) : Option Int := turns n (l.drop k)
theorem turnAt_step (l : List Int) (k : Nat) (n : Int) (h : k < l.length) : turnAt l k n = if nth l k < 0 ∨ n < nth l k then none else turnAt l (k + 1) (if nth l k = n then n + 1 else n) := by
  unfold turnAt
  rw [List.drop_eq_getElem_cons h]
  have e : nth l k = l[k] := by simp [nth, List.getD, h]
  rw [e]
  rfl
theorem turnAt_end (l : List Int) (k : Nat) (n : Int) (h : ¬ k < l.length) : turnAt l k n = some n := by
  unfold turnAt
  rw [List.drop_eq_nil_of_le (by omega)]
  rfl
theorem turnAt_zero (l : List Int) : turnAt l 0 0 = turns 0 l := rfl
set_option maxHeartbeats 1000000 in
theorem inTurn_any (v : Value) (l : List Int) (c : Int) (w : World) (h : IntsAt w v l) (hl : l.length ≤ 1048576) :
    Calls Tryd.prog 30 #[v, .int .i64 c] w fun e w' => e = .returned (.bool (turnB l c)) ∧ w' = w := by
  obtain ⟨a, cp, rfl, h⟩ := h
  have H := hide h
  clear h
  go_enter Tryd.func30, Tryd.ntmps30
  go_wp2
  go_loop [5, 10] (fun n i => ∃ (k : Nat) (m : Int), k ≤ l.length ∧ 0 ≤ m ∧ m ≤ k ∧ i = .int .i64 k ∧ n = .int .i64 m ∧ Hid (turns 0 l = turnAt l k m)) (fun _ i => l.length - (intOf i).toNat)
  case atStart => exact ⟨0, 0, Nat.zero_le _, by omega, by omega, rfl, rfl, hide rfl⟩
  case round =>
    obtain ⟨k, m, hk, hm0, hmk, rfl, rfl, HC⟩ := hrel
    by_cases hlt : k < l.length
    · rcases unhide H with e | ⟨b1, o1, rfl, hb1, hc1⟩
      · rw [e] at hlt; simp at hlt
      have d1 := hc1 k hlt
      have i1 : (k : Int) < (l.length : Int) := by omega
      have HS := hide (turnAt_step l k m hlt)
      clear hc1
      generalize nth l k = x at *
      by_cases q1 : x < 0
      · have HN : Hid (turnB l c = false) := hide (by unfold turnB; rw [unhide HC, unhide HS, if_pos (.inl q1)]; rfl)
        go_wp2
        go_ret
        exact ⟨ret_bool (unhide HN).symm, rfl⟩
      · by_cases q2 : m < x
        · have HN : Hid (turnB l c = false) := hide (by unfold turnB; rw [unhide HC, unhide HS, if_pos (.inr q2)]; rfl)
          go_wp2
          go_ret
          exact ⟨ret_bool (unhide HN).symm, rfl⟩
        · by_cases q3 : x = m
          · have HN : Hid (turns 0 l = turnAt l (k + 1) (m + 1)) := hide (by rw [unhide HC, unhide HS, if_neg (by omega), if_pos q3])
            subst q3
            have q3' : (x == x) = true := by simp
            go_wp2
            go_round
            case rel => exact ⟨k + 1, x + 1, by omega, by omega, by omega, by go_num, by go_num, HN⟩
            case measure => simp [intOf]; omega
          · have HN : Hid (turns 0 l = turnAt l (k + 1) m) := hide (by rw [unhide HC, unhide HS, if_neg (by omega), if_neg q3])
            have q3' : (x == m) = false := by simpa using q3
            clear q3
            go_wp2
            go_round
            case rel => exact ⟨k + 1, m, by omega, by omega, by omega, by go_num, by go_num, HN⟩
            case measure => simp [intOf]; omega
    · have HN : Hid (turns 0 l = some m) := hide (by rw [unhide HC, turnAt_end l k m hlt])
      have HB : Hid ((m == c) = turnB l c) := hide (by
        unfold turnB
        rw [unhide HN]
        by_cases e : m = c
        · simp [e]
        · simp [e])
      go_wp2
      go_ret
      exact ⟨ret_bool (unhide HB), rfl⟩
end Go.Proofs.YtjncfkcpjjnmdaaDoor
/- The slot of a block. -/
namespace Go.Proofs.YtjncfkcpjjnmdaaDoor
open Go.RowKit
def stepS (s x : Int) : Int := IntKind.u64.wrap (bits BinOp.xor IntKind.u64 s (IntKind.u64.wrap x) * 11400714819323198485)
def sumS (l : List Int) (k : Nat) : Int := (l.take k).foldl stepS 0
theorem sumS_succ (l : List Int) (k : Nat) (h : k < l.length) : sumS l (k + 1) = stepS (sumS l k) (nth l k) := by
  unfold sumS
  rw [List.take_succ_eq_append_getElem h, List.foldl_append]
  have e : nth l k = l[k] := by simp [nth, List.getD, h]
  rw [e]
  rfl
theorem stepS_bd (s x : Int) : 0 ≤ stepS s x ∧ stepS s x < 18446744073709551616 := by
  unfold stepS
  generalize bits BinOp.xor IntKind.u64 s (IntKind.u64.wrap x) * 11400714819323198485 = y
  simp [IntKind.wrap, IntKind.signed, IntKind.bits]; omega
theorem sumS_bd (l : List Int) (k : Nat) (h : k ≤ l.length) : 0 ≤ sumS l k ∧ sumS l k < 18446744073709551616 := by
  match k, h with
  | 0, _ => simp [sumS]
  | k + 1, h => rw [sumS_succ l k (by omega)]; exact stepS_bd _ _
def slotN (l : List Int) : Nat := (sumS l l.length / 36028797018963968).toNat
theorem slotN_lt (l : List Int) : slotN l < 512 := by
  unfold slotN
  have := sumS_bd l l.length (Nat.le_refl _)
  omega
theorem slotN_eq (l : List Int) : ((slotN l : Nat) : Int) = sumS l l.length / 36028797018963968 := by
  unfold slotN
  have := sumS_bd l l.length (Nat.le_refl _)
  omega
set_option maxHeartbeats 1000000 in
theorem slot_any (v : Value) (l : List Int) (w : World) (h : IntsAt w v l) (hl : l.length ≤ 1048576) :
    Calls Tryd.prog 41 #[v] w fun e w' => e = .returned (.int .u64 (slotN l : Nat)) ∧ w' = w := by
  obtain ⟨a, cp, rfl, h⟩ := h
  have H := hide h
  clear h
  go_enter Tryd.func41, Tryd.ntmps41
  go_wp2
  go_loop [3, 8] (fun s i => ∃ k : Nat, k ≤ l.length ∧ i = .int .i64 k ∧ s = .int .u64 (sumS l k)) (fun _ i => l.length - (intOf i).toNat)
  case atStart => exact ⟨0, Nat.zero_le _, rfl, rfl⟩
  case round =>
    obtain ⟨k, hk, rfl, rfl⟩ := hrel
    by_cases hlt : k < l.length
    · rcases unhide H with e | ⟨b1, o1, rfl, hb1, hc1⟩
      · rw [e] at hlt; simp at hlt
      have d1 := hc1 k hlt
      have i1 : (k : Int) < (l.length : Int) := by omega
      have HS := hide (sumS_succ l k hlt)
      clear hc1
      generalize nth l k = x at *
      generalize sumS l k = s at *
      go_wp2
      go_round
      case rel =>
        refine ⟨k + 1, by omega, by go_num, ?_⟩
        rw [unhide HS]
        rfl
      case measure => simp [intOf]; omega
    · obtain rfl : k = l.length := by omega
      have HQ := hide (slotN_eq l)
      go_wp2
      go_ret
      exact ⟨ret_int (unhide HQ).symm, rfl⟩
/-- The places of the blocks of one slot. -/
def places (T : List (List Int)) (s : Nat) : List Nat := (List.range T.length).filter fun i => slotN (tb T i) == s
theorem mem_places {T : List (List Int)} {s i : Nat} : i ∈ places T s ↔ i < T.length ∧ slotN (tb T i) = s := by simp [places]
theorem places_len (T : List (List Int)) (s : Nat) : (places T s).length ≤ T.length := by
  have := List.length_filter_le (fun i => slotN (tb T i) == s) (List.range T.length)
  simpa [places] using this
theorem places_snoc (T : List (List Int)) (b : List Int) (s : Nat) : places (T ++ [b]) s = if slotN b = s then places T s ++ [T.length] else places T s := by
  unfold places
  have h1 : (List.range T.length).filter (fun i => slotN (tb (T ++ [b]) i) == s) = (List.range T.length).filter (fun i => slotN (tb T i) == s) := by
    apply List.filter_congr
    intro i hi
    rw [tb_app_left (List.mem_range.1 hi)]
  rw [List.length_append, List.length_singleton, List.range_succ, List.filter_append, h1]
  by_cases e : slotN b = s
  · rw [if_pos e]
    simp [tb_app_last, e]
  · rw [if_neg e]
    simp [tb_app_last, e]
def pl (T : List (List Int)) (s k : Nat) : Nat := (places T s).getD k 0
theorem pl_mem {T : List (List Int)} {s k : Nat} (h : k < (places T s).length) : pl T s k < T.length ∧ slotN (tb T (pl T s k)) = s := by
  have : pl T s k ∈ places T s := by
    unfold pl
    rw [List.getD_eq_getElem?_getD, List.getElem?_eq_getElem h]
    exact List.getElem_mem h
  exact mem_places.1 this
theorem pl_all {T : List (List Int)} {b : List Int} (h : ∀ k, k < (places T (slotN b)).length → tb T (pl T (slotN b) k) ≠ b) : b ∉ T := by
  apply not_mem_tb
  intro i hi e
  have hm : i ∈ places T (slotN b) := mem_places.2 ⟨hi, by rw [e]⟩
  obtain ⟨k, hk, e2⟩ := List.getElem_of_mem hm
  refine h k hk ?_
  have : pl T (slotN b) k = i := by
    unfold pl
    rw [List.getD_eq_getElem?_getD, List.getElem?_eq_getElem hk, e2]
    rfl
  rw [this, e]
theorem pl_found {T : List (List Int)} (hn : T.Nodup) {b : List Int} {i : Nat} (hi : i < T.length) (h : tb T i = b) : idxF b T = i :=
  idxF_first b T i hi h (fun j hj e => by have := tb_inj hn (i := j) (j := i) (by omega) hi (by rw [e, h]); omega)
def natCells (l : List Nat) : List Value := l.map fun n : Nat => Value.int .i64 (n : Int)
theorem natCells_at (l : List Nat) (k : Nat) (h : k < l.length) : (natCells l)[k]? = some (.int .i64 ((l.getD k 0 : Nat) : Int)) := by
  simp [natCells, List.getD, h]
end Go.Proofs.YtjncfkcpjjnmdaaDoor
/- The table of unlike blocks: what it holds, and how a block is put into it. -/
namespace Go.Proofs.YtjncfkcpjjnmdaaDoor
open Go.RowKit
/-- A block of 64 numbers below B. -/
def BlkAt (w : World) (B : Nat) (v : Value) (b : List Int) : Prop := b.length = 64 ∧ ∃ g off cap, v = .slice (some ⟨g, off, none⟩) 64 cap ∧ g < B ∧ ∀ j, j < 64 → w.cell? ⟨g, off + j, none⟩ = some (.int .i64 (nth b j))
theorem BlkAt.ints {w : World} {B : Nat} {v : Value} {b : List Int} (h : BlkAt w B v b) (hB : B ≤ w.heap.size) : IntsAt w v b := by
  obtain ⟨hl, g, off, cap, rfl, hg, hc⟩ := h
  exact ⟨_, cap, by rw [hl], .inr ⟨g, off, rfl, by omega, fun i hi => hc i (by omega)⟩⟩
theorem BlkAt.same {w w' : World} {B : Nat} {v : Value} {b : List Int} (h : BlkAt w B v b) (hs : ∀ k, k < B → w'.heap[k]? = w.heap[k]?) : BlkAt w' B v b := by
  obtain ⟨hl, g, off, cap, rfl, hg, hc⟩ := h
  exact ⟨hl, g, off, cap, rfl, hg, fun j hj => (World.cell?_of_block (a := ⟨g, off + j, none⟩) (hs g hg)).trans (hc j hj)⟩
structure TabI (w : World) (B g : Nat) (T PT : List (List Int)) (V : Value) (bs : List Value) (S : Nat → Value) : Prop where
  hB : B ≤ w.heap.size
  hg : B ≤ g
  own : w.ownsRow B 26 1 V T.length bs
  blk : ∀ i, i < T.length → ∃ v, bs[i]? = some v ∧ BlkAt w B v (tb T i)
  nodup : T.Nodup
  c0 : w.cell? ⟨g, 0, none⟩ = some V
  cs : ∀ s, s < 512 → w.cell? ⟨g, 1 + s, none⟩ = some (S s)
  fr : ∀ j, w.frozen? ⟨g, j, none⟩ = false
  tag : ∃ cur, w.heap[g]? = some (.cells cur 52 (0, 0))
  rows : ∀ s, s < 512 → w.ownsRow B 2 1 (S s) (places PT s).length (natCells (places PT s))
  apart : ∀ s s', s < 512 → s' < 512 → s ≠ s' → (S s).ownBlock = none ∨ (S s).ownBlock ≠ (S s').ownBlock
theorem own_ne_tag {w : World} {B : Nat} {e t : TypeId} {s : Nat} {v : Value} {n : Nat} {xs : List Value} {g : Nat} {cur : Array Value} {f : Nat × Nat} (h : w.ownsRow B e s v n xs) (hh : w.heap[g]? = some (.cells cur t f)) (hne : e ≠ t) : some g ≠ v.ownBlock := by
  intro e1
  rcases h.2 with ⟨rfl, _⟩ | ⟨g', cap, cur', rfl, _, hh', _⟩
  · cases e1
  · simp only [Value.ownBlock, Option.some.injEq] at e1
    rw [← e1, hh] at hh'
    injection hh' with hh'
    injection hh' with _ h2 _
    exact hne h2.symm
theorem rows_apart {w : World} {B B' : Nat} {e e' : TypeId} {s s' : Nat} {v v' : Value} {n n' : Nat} {xs xs' : List Value} (h : w.ownsRow B e s v n xs) (h' : w.ownsRow B' e' s' v' n' xs') (hne : e ≠ e') : v.ownBlock = none ∨ v.ownBlock ≠ v'.ownBlock := by
  rcases h.2 with ⟨rfl, _⟩ | ⟨g, cap, cur, rfl, _, hh, _⟩
  · exact .inl rfl
  · refine .inr fun e => ?_
    rcases h'.2 with ⟨rfl, _⟩ | ⟨g', cap', cur', rfl, _, hh', _⟩
    · cases e
    · simp only [Value.ownBlock, Option.some.injEq] at e
      rw [← e, hh] at hh'
      injection hh' with hh'
      injection hh' with _ h2 _
      exact hne h2
theorem set_grown {w : World} {R j : Nat} {u : Value} : w.grownBy (w.setCell ⟨R, j, none⟩ u) (some R) :=
  ⟨rfl, rfl, rfl, by simp, fun k _ hk => heap_setCell_other w ⟨R, j, none⟩ k u (fun e => hk (by simp [e]))⟩
theorem own_ge {w : World} {B : Nat} {e : TypeId} {s : Nat} {v : Value} {n : Nat} {xs : List Value} (h : w.ownsRow B e s v n xs) {k : Nat} (hk : k < B) : some k ≠ v.ownBlock := by
  intro e1
  have := (h.lt k e1.symm).1
  omega
theorem alloc_block (w : World) (o : Obj) {k : Nat} (h : k < w.heap.size) : (w.alloc o).heap[k]? = w.heap[k]? := Below.heap_alloc w o k h
theorem info29 : (Tryd.prog.info? 26).map (fun i => (i.zero, i.size, i.bytes)) = some (some (.slice none 0 0), 1, 24) := by kernel_rfl
theorem TabI.glt {w : World} {B g : Nat} {T PT : List (List Int)} {V : Value} {bs : List Value} {S : Nat → Value} (h : TabI w B g T PT V bs S) : g < w.heap.size := by
  obtain ⟨cur, hc⟩ := h.tag
  exact (Array.getElem?_eq_some_iff.1 hc).1
/-- Behind the first append: what the store needs, and what it leaves. -/
theorem TabI.grow1 {w w2 : World} {B g : Nat} {T PT : List (List Int)} {V : Value} {bs : List Value} {S : Nat → Value} {o : Obj} (h : TabI w B g T PT V bs S) (hg : (w.alloc o).grownBy w2 V.ownBlock) :
    w2.cell? ⟨g, 0, none⟩ = some V ∧ w2.frozen? ⟨g, 0, none⟩ = false ∧ (∀ k, k < B → w2.heap[k]? = w.heap[k]?) ∧ w2.heap[g]? = w.heap[g]? ∧ (∀ s, s < 512 → w2.ownsRow B 2 1 (S s) (places PT s).length (natCells (places PT s))) ∧ w.heap.size ≤ w2.heap.size ∧ Below B w w2 := by
  obtain ⟨cur, hc⟩ := h.tag
  have hgl := h.glt
  have e : w2.heap[g]? = w.heap[g]? := (hg.block g (by simp; omega) (own_ne_tag h.own hc (by decide))).trans (alloc_block w o hgl)
  have hs : w.heap.size ≤ w2.heap.size := by have := hg.size; simp at this; omega
  refine ⟨(World.cell?_of_block (a := ⟨g, 0, none⟩) e).trans h.c0, (World.frozen?_of_block (a := ⟨g, 0, none⟩) e).trans (h.fr 0), fun k hk => ?_, e, fun s hs => ?_, hs, ?_⟩
  · have := h.hB
    exact (hg.block k (by simp; omega) (own_ge h.own hk)).trans (alloc_block w o (by omega))
  · exact World.ownsRow.kept (World.ownsRow.alloc (h.rows s hs) o) hg (rows_apart (h.rows s hs) h.own (by decide))
  · exact ((Below.refl B w).alloc h.hB o).grown hg (by have := h.hB; simp; omega) (fun k hk => (h.own.lt k hk).1)
theorem TabI.put1 {w w2 : World} {B g : Nat} {T PT : List (List Int)} {V V' : Value} {bs : List Value} {S : Nat → Value} {o : Obj} {vb : Value} {b : List Int} (h : TabI w B g T PT V bs S) (hb : BlkAt w B vb b) (hn : b ∉ T)
    (ho : w2.ownsRow B 26 1 V' (T.length + 1) (bs ++ [vb])) (hg : (w.alloc o).grownBy w2 V.ownBlock) :
    TabI (w2.setCell ⟨g, 0, none⟩ V') B g (T ++ [b]) PT V' (bs ++ [vb]) S ∧ Below B w (w2.setCell ⟨g, 0, none⟩ V') := by
  obtain ⟨q0, q1, q2, q3, q4, q5, q6⟩ := h.grow1 hg
  obtain ⟨cur, hc⟩ := h.tag
  have hc2 : w2.heap[g]? = some (.cells cur 52 (0, 0)) := q3.trans hc
  have hbl : bs.length = T.length := by have := h.own.1; omega
  have hlow : ∀ k, k < B → (w2.setCell ⟨g, 0, none⟩ V').heap[k]? = w.heap[k]? := fun k hk => (heap_setCell_other w2 ⟨g, 0, none⟩ k V' (by have := h.hg; show k ≠ g; omega)).trans (q2 k hk)
  have hlen : (T ++ [b]).length = T.length + 1 := by simp
  refine ⟨⟨?_, h.hg, ?_, ?_, ?_, ?_, ?_, ?_, ?_, ?_, h.apart⟩, q6.setCell (p := ⟨g, 0, none⟩) h.hg _⟩
  · have := h.hB; simp; omega
  · rw [hlen]
    exact World.ownsRow.kept ho (set_grown (R := g)) (.inr (fun e => own_ne_tag ho hc2 (by decide) e.symm))
  · intro i hi
    rw [hlen] at hi
    by_cases e : i = T.length
    · subst e
      refine ⟨vb, ?_, ?_⟩
      · rw [List.getElem?_append_right (by omega), hbl, Nat.sub_self]; rfl
      · rw [tb_app_last]; exact hb.same hlow
    · obtain ⟨v, hv, hk⟩ := h.blk i (by omega)
      refine ⟨v, ?_, ?_⟩
      · rw [List.getElem?_append_left (by omega)]; exact hv
      · rw [tb_app_left (by omega)]; exact hk.same hlow
  · have := addB_nodup (b := b) h.nodup
    rwa [addB_not hn] at this
  · exact World.cell?_setCell_same _ _ _ q0
  · intro s hs
    rw [World.cell?_setCell_other _ _ _ _ (by simp)]
    exact (World.cell?_of_block (a := ⟨g, 1 + s, none⟩) q3).trans (h.cs s hs)
  · intro j
    rw [World.frozen?_setCell]
    exact (World.frozen?_of_block (a := ⟨g, j, none⟩) q3).trans (h.fr j)
  · exact ⟨_, heap_setCell_same w2 g 0 cur 52 V' hc2⟩
  · intro s hs
    exact World.ownsRow.kept (q4 s hs) (set_grown (R := g)) (.inr (fun e => own_ne_tag (q4 s hs) hc2 (by decide) e.symm))
/-- Behind the second append. -/
theorem TabI.grow2 {w w2 : World} {B g : Nat} {T PT : List (List Int)} {V : Value} {bs : List Value} {S : Nat → Value} {o : Obj} {r : Nat} (h : TabI w B g T PT V bs S) (hr : r < 512) (hg : (w.alloc o).grownBy w2 (S r).ownBlock) :
    w2.cell? ⟨g, 1 + r, none⟩ = some (S r) ∧ w2.frozen? ⟨g, 1 + r, none⟩ = false ∧ (∀ k, k < B → w2.heap[k]? = w.heap[k]?) ∧ w2.heap[g]? = w.heap[g]? ∧ (∀ s, s < 512 → s ≠ r → w2.ownsRow B 2 1 (S s) (places PT s).length (natCells (places PT s))) ∧ w.heap.size ≤ w2.heap.size ∧ Below B w w2 ∧ w2.ownsRow B 26 1 V T.length bs := by
  obtain ⟨cur, hc⟩ := h.tag
  have hgl := h.glt
  have e : w2.heap[g]? = w.heap[g]? := (hg.block g (by simp; omega) (own_ne_tag (h.rows r hr) hc (by decide))).trans (alloc_block w o hgl)
  have hs : w.heap.size ≤ w2.heap.size := by have := hg.size; simp at this; omega
  refine ⟨(World.cell?_of_block (a := ⟨g, 1 + r, none⟩) e).trans (h.cs r hr), (World.frozen?_of_block (a := ⟨g, 1 + r, none⟩) e).trans (h.fr _), fun k hk => ?_, e, fun s hs hne => ?_, hs, ?_, ?_⟩
  · have := h.hB
    exact (hg.block k (by simp; omega) (own_ge (h.rows r hr) hk)).trans (alloc_block w o (by omega))
  · exact World.ownsRow.kept (World.ownsRow.alloc (h.rows s hs) o) hg (h.apart s r hs hr hne)
  · exact ((Below.refl B w).alloc h.hB o).grown hg (by have := h.hB; simp; omega) (fun k hk => ((h.rows r hr).lt k hk).1)
  · exact World.ownsRow.kept (World.ownsRow.alloc h.own o) hg (rows_apart h.own (h.rows r hr) (by decide))
/-- The new row is where the old one was, or new. -/
def NewAt (w : World) (v v' : Value) : Prop := ∀ k, v'.ownBlock = some k → v.ownBlock = some k ∨ w.heap.size ≤ k
theorem TabI.put2 {w w2 : World} {B g : Nat} {T : List (List Int)} {V S' : Value} {bs : List Value} {S : Nat → Value} {o : Obj} {b : List Int} (h : TabI w B g (T ++ [b]) T V bs S)
    (ho : w2.ownsRow B 2 1 S' ((places T (slotN b)).length + 1) (natCells (places T (slotN b)) ++ [.int .i64 (T.length : Int)])) (hg : (w.alloc o).grownBy w2 (S (slotN b)).ownBlock) (hnew : NewAt w (S (slotN b)) S') :
    TabI (w2.setCell ⟨g, 1 + slotN b, none⟩ S') B g (T ++ [b]) (T ++ [b]) V bs (fun s => if s = slotN b then S' else S s) ∧ Below B w (w2.setCell ⟨g, 1 + slotN b, none⟩ S') := by
  have hr := slotN_lt b
  obtain ⟨q0, q1, q2, q3, q4, q5, q6, q7⟩ := h.grow2 hr hg
  obtain ⟨cur, hc⟩ := h.tag
  have hc2 : w2.heap[g]? = some (.cells cur 52 (0, 0)) := q3.trans hc
  have hlow : ∀ k, k < B → (w2.setCell ⟨g, 1 + slotN b, none⟩ S').heap[k]? = w.heap[k]? := fun k hk => (heap_setCell_other w2 ⟨g, 1 + slotN b, none⟩ k S' (by have := h.hg; show k ≠ g; omega)).trans (q2 k hk)
  have keep : ∀ {e : TypeId} {s : Nat} {v : Value} {n : Nat} {xs : List Value}, w2.ownsRow B e s v n xs → e ≠ 52 → (w2.setCell ⟨g, 1 + slotN b, none⟩ S').ownsRow B e s v n xs := fun hh hne =>
    World.ownsRow.kept hh (set_grown (R := g)) (.inr (fun e => own_ne_tag hh hc2 hne e.symm))
  refine ⟨⟨?_, h.hg, keep q7 (by decide), ?_, h.nodup, ?_, ?_, ?_, ?_, ?_, ?_⟩, q6.setCell (p := ⟨g, 1 + slotN b, none⟩) h.hg _⟩
  · have := h.hB; simp; omega
  · intro i hi
    obtain ⟨v, hv, hk⟩ := h.blk i hi
    exact ⟨v, hv, hk.same hlow⟩
  · rw [World.cell?_setCell_other _ _ _ _ (by simp)]
    exact (World.cell?_of_block (a := ⟨g, 0, none⟩) q3).trans h.c0
  · intro s hs
    by_cases e : s = slotN b
    · subst e
      rw [if_pos rfl]
      exact World.cell?_setCell_same _ _ _ q0
    · rw [if_neg e, World.cell?_setCell_other _ _ _ _ (by simp)]
      exact (World.cell?_of_block (a := ⟨g, 1 + s, none⟩) q3).trans (h.cs s hs)
  · intro j
    rw [World.frozen?_setCell]
    exact (World.frozen?_of_block (a := ⟨g, j, none⟩) q3).trans (h.fr j)
  · exact ⟨_, heap_setCell_same w2 g _ cur 52 S' hc2⟩
  · intro s hs
    rw [places_snoc]
    by_cases e : s = slotN b
    · subst e
      rw [if_pos rfl, if_pos rfl]
      have := keep ho (by decide)
      rw [List.length_append]
      unfold natCells at this ⊢
      rw [List.map_append]
      exact this
    · rw [if_neg e, if_neg (Ne.symm e)]
      exact keep (q4 s hs e) (by decide)
  · intro s s' hs hs' hne
    have old : ∀ s, s < 512 → ∀ k, (S s).ownBlock = some k → k < w.heap.size := fun s hs k hk => ((h.rows s hs).lt k hk).2
    by_cases e : s = slotN b
    · by_cases e' : s' = slotN b
      · omega
      · rw [if_pos e, if_neg e']
        cases hk : S'.ownBlock with
        | none => exact .inl rfl
        | some k =>
          refine .inr fun hh => ?_
          rcases hnew k hk with h1 | h1
          · rcases h.apart (slotN b) s' hr hs' (by omega) with h2 | h2
            · rw [h2] at h1; cases h1
            · exact h2 (h1.trans hh)
          · have := old s' hs' k hh.symm
            omega
    · by_cases e' : s' = slotN b
      · rw [if_neg e, if_pos e']
        cases hk : (S s).ownBlock with
        | none => exact .inl rfl
        | some k =>
          refine .inr fun hh => ?_
          rcases hnew k hh.symm with h1 | h1
          · rcases h.apart (slotN b) s hr hs (by omega) with h2 | h2
            · rw [h2] at h1; cases h1
            · exact h2 (h1.trans hk.symm)
          · have := old s hs k hk
            omega
      · rw [if_neg e, if_neg e']
        exact h.apart s s' hs hs' hne
end Go.Proofs.YtjncfkcpjjnmdaaDoor
/- append of one number to a row of the call's own. -/
namespace Go.Proofs.YtjncfkcpjjnmdaaDoor
open Go.RowKit
/-- append of one number to a row of the call's own: the new row is where the old one was, or new. -/
theorem app_block {P : Program} (w : World) (t ty : TypeId) (i : TypeInfo) (ht : P.underlying t = some (.slice 2)) (hi : P.info? 2 = some i) (hz : i.zero = some (.int .i64 0)) (hsize : i.size = 1) (hby : i.bytes = 8)
    (base : Nat) (v : Value) (n : Nat) (xs : List Value) (hown : w.ownsRow base 2 1 v n xs) (a : Addr) (x : Value) (hx : w.cell? a = some x) (h1 : x.oneCell' = true)
    (h63 : n + 1 ≤ maxLen) (hbytes : (n + 1) * 8 ≤ 140737488355328) (hbase : base ≤ w.heap.size) :
    ∃ v' w', (Builtin.append_ #[t, t] ty #[v, .slice (some a) 1 1]).run P w = .ok v' w' ∧ w'.ownsRow base 2 1 v' (n + 1) (xs ++ [x]) ∧ w.grownBy w' v.ownBlock ∧ (∀ k, v'.ownBlock = some k → v.ownBlock = some k ∨ w.heap.size ≤ k) := by
  have hn : ∀ j u, [x][j]? = some u → w.cell? (a.add j) = some u := by
    intro j u hj
    match j, hj with
    | 0, hj => simp at hj; subst hj; simpa [Addr.add] using hx
    | (j + 1), hj => simp at hj
  have h1' : ∀ u ∈ [x], u.oneCell' = true := by intro u hu; simp at hu; subst hu; exact h1
  obtain ⟨v', w', hr, ho, hg, _⟩ := run_append_own (P := P) w base t ty 2 i (.int .i64 0) 1 8 ht hi hz hsize hby rfl (by decide) v n xs hown a 1 1 [x] rfl hn h1' h63 hbytes hbase
  refine ⟨v', w', hr, ho, hg, ?_⟩
  rcases hown.2 with ⟨rfl, rfl⟩ | ⟨g, cap, cur, rfl, hbg, hgg, hnc, hcm, hcs, htake⟩
  · obtain ⟨v2, w2, hr2, ho2, _, _⟩ := run_append_own (P := P) w w.heap.size t ty 2 i (.int .i64 0) 1 8 ht hi hz hsize hby rfl (by decide) (.slice none 0 0) 0 [] (World.ownsRow_nil w _ 2 1) a 1 1 [x] rfl hn h1' h63 hbytes (Nat.le_refl _)
    have e : v' = v2 := by have := hr.symm.trans hr2; injection this
    intro k hk
    exact .inr (ho2.lt k (e ▸ hk)).1
  · by_cases hroom : n + 1 ≤ cap
    · have hsz : cur.size = cap := by simpa using hcs
      have hr2 := run_append_room (P := P) w t ty 2 i ht hi g n cap cur hgg a 1 1 [x] (by rw [hsize]; rfl) hn h1' hroom (by rw [hsize]; simp; omega)
      have e : v' = .slice (some ⟨g, 0, none⟩) (n + 1) cap := by have := hr.symm.trans hr2; injection this
      intro k hk
      rw [e] at hk
      exact .inl hk
    · have holds : ∀ j u, xs[j]? = some u → w.cell? ((⟨g, 0, none⟩ : Addr).add j) = some u := hown.cells (g := g) rfl
      obtain ⟨v2, w2, hr2, ho2, _⟩ := run_append_arg_grows (P := P) w t ty 2 i (.int .i64 0) 1 8 ht hi hz hsize hby rfl (by decide) ⟨g, 0, none⟩ n cap xs hown.1 holds a 1 1 [x] rfl hn (by omega) h63 hbytes
      have e : v' = v2 := by have := hr.symm.trans hr2; injection this
      intro k hk
      exact .inr (ho2.lt k (e ▸ hk)).1
theorem wp_app2 {P : Program} {w : World} {o : Oper} {a : Act} {K : Act → World → Prop} {Q : Exit → Act → World → Prop} (s x : Operand) (t : TypeId)
    (ho : o.op = .call { callee := .builtin .append, args := #[s, x], argTypes := #[t, t] })
    (i : TypeInfo) (ht : P.underlying t = some (.slice 2)) (hi : P.info? 2 = some i) (hz : i.zero = some (.int .i64 0)) (hsize : i.size = 1) (hby : i.bytes = 8)
    (base : Nat) (v : Value) (n : Nat) (xs : List Value) (hs : a.eval s = v) (hown : w.ownsRow base 2 1 v n xs) (ad : Addr) (y : Value) (hx : a.eval x = .slice (some ad) 1 1) (hy : w.cell? ad = some y) (h1 : y.oneCell' = true)
    (h63 : n + 1 ≤ maxLen) (hbytes : (n + 1) * 8 ≤ 140737488355328) (hbase : base ≤ w.heap.size)
    (h : ∀ v' w', w'.ownsRow base 2 1 v' (n + 1) (xs ++ [y]) → w.grownBy w' v.ownBlock → (∀ k, v'.ownBlock = some k → v.ownBlock = some k ∨ w.heap.size ≤ k) → K (a.put o.dst v') w') : o.wp P a w K Q := by
  obtain ⟨v', w', hr, h2, h3, h4⟩ := app_block (P := P) w t o.type i ht hi hz hsize hby base v n xs hown ad y hy h1 h63 hbytes hbase
  unfold Oper.wp execOp
  simp only [ho, resolve, invoke, builtin, Sem.run_bind, Sem.run_pure, Result.andThen_ok, List.map_toArray, List.map_cons, List.map_nil, hs, hx, hr]
  exact h v' w' h2 h3 h4
theorem wpList_app2 {P : Program} {w : World} {ops : Array Oper} {rest : List Oper} {o : Oper} {a : Act} {Q : Exit → Act → World → Prop} (hgd : o.guard = none) (s x : Operand) (t : TypeId)
    (ho : o.op = .call { callee := .builtin .append, args := #[s, x], argTypes := #[t, t] })
    (i : TypeInfo) (ht : P.underlying t = some (.slice 2)) (hi : P.info? 2 = some i) (hz : i.zero = some (.int .i64 0)) (hsize : i.size = 1) (hby : i.bytes = 8)
    (base : Nat) (v : Value) (n : Nat) (xs : List Value) (hs : a.eval s = v) (hown : w.ownsRow base 2 1 v n xs) (ad : Addr) (y : Value) (hx : a.eval x = .slice (some ad) 1 1) (hy : w.cell? ad = some y) (h1 : y.oneCell' = true)
    (h63 : n + 1 ≤ maxLen) (hbytes : (n + 1) * 8 ≤ 140737488355328) (hbase : base ≤ w.heap.size)
    (h : ∀ v' w', w'.ownsRow base 2 1 v' (n + 1) (xs ++ [y]) → w.grownBy w' v.ownBlock → (∀ k, v'.ownBlock = some k → v.ownBlock = some k ∨ w.heap.size ≤ k) → wpList P ops Q rest (a.put o.dst v') w') : wpList P ops Q (o :: rest) a w :=
  wpList_plain hgd fun _ hK => wp_app2 s x t ho i ht hi hz hsize hby base v n xs hs hown ad y hx hy h1 h63 hbytes hbase fun v' w' h2 h3 h4 => hK _ _ (h v' w' h2 h3 h4)
theorem step_app2 {P : Program} {w : World} {ops : Array Oper} {o : Oper} {a : Act} {K : Act → World → Prop} {Q : Exit → Act → World → Prop} {E : Prop} (hgd : o.guard = none) (s x : Operand) (t : TypeId)
    (ho : o.op = .call { callee := .builtin .append, args := #[s, x], argTypes := #[t, t] })
    (i : TypeInfo) (ht : P.underlying t = some (.slice 2)) (hi : P.info? 2 = some i) (hz : i.zero = some (.int .i64 0)) (hsize : i.size = 1) (hby : i.bytes = 8)
    (base : Nat) (v : Value) (n : Nat) (xs : List Value) (hs : a.eval s = v) (hown : w.ownsRow base 2 1 v n xs) (ad : Addr) (y : Value) (hx : a.eval x = .slice (some ad) 1 1) (hy : w.cell? ad = some y) (h1 : y.oneCell' = true)
    (h63 : n + 1 ≤ maxLen) (hbytes : (n + 1) * 8 ≤ 140737488355328) (hbase : base ≤ w.heap.size)
    (h : ∀ v' w', w'.ownsRow base 2 1 v' (n + 1) (xs ++ [y]) → w.grownBy w' v.ownBlock → (∀ k, v'.ownBlock = some k → v.ownBlock = some k ∨ w.heap.size ≤ k) → K (a.put o.dst v') w') :
    if Region.wanted o (yielded ops a.tmps) = true then Oper.wp P o a w K Q else E := by
  have hw : Region.wanted o (yielded ops a.tmps) = true := by simp [Region.wanted, hgd]
  rw [if_pos hw]
  exact wp_app2 s x t ho i ht hi hz hsize hby base v n xs hs hown ad y hx hy h1 h63 hbytes hbase h
theorem own_da {w : World} {B : Nat} {v : Value} {n : Nat} {xs : List Value} (h : w.ownsRow B 2 1 v n xs) (o : Obj) : (w.drew.alloc o).ownsRow B 2 1 v n xs := World.ownsRow.alloc (w := w.drew) h o
theorem own_ad {w : World} {B : Nat} {v : Value} {n : Nat} {xs : List Value} (h : w.ownsRow B 2 1 v n xs) (o : Obj) : (w.alloc o).drew.ownsRow B 2 1 v n xs := World.ownsRow.alloc h o
theorem own_form {w : World} {B : Nat} {e : TypeId} {s : Nat} {v : Value} {n : Nat} {xs : List Value} (h : w.ownsRow B e s v n xs) : ∃ a c, v = .slice a n c := by
  rcases h.2 with ⟨hv, hn⟩ | ⟨g, cap, cur, hv, _⟩
  · exact ⟨none, 0, by rw [hv, hn]⟩
  · exact ⟨_, _, hv⟩
end Go.Proofs.YtjncfkcpjjnmdaaDoor
/- A block put into the table, or found there. -/
namespace Go.Proofs.YtjncfkcpjjnmdaaDoor
open Go.RowKit
theorem row_read {w : World} {B g c : Nat} {l : List Nat} (h : w.ownsRow B 2 1 (.slice (some ⟨g, 0, none⟩) l.length c) l.length (natCells l)) (k : Nat) (hk : k < l.length) : w.cell? ⟨g, k, none⟩ = some (.int .i64 ((l.getD k 0 : Nat) : Int)) :=
  (h.cellAt k (by omega)).trans (natCells_at l k hk)
theorem own_at {w : World} {B : Nat} {e : TypeId} {v : Value} {n : Nat} {xs : List Value} (h : w.ownsRow B e 1 v n xs) (hn : 0 < n) : ∃ g c, v = .slice (some ⟨g, 0, none⟩) n c := by
  rcases h.2 with ⟨_, h0⟩ | ⟨g, cap, cur, hv, _⟩
  · omega
  · exact ⟨g, cap, hv⟩
theorem one_new (w : World) (x : Value) (t : TypeId) : ∀ j u, [x][j]? = some u → (w.alloc (.cells #[x] t)).cell? ((⟨w.heap.size, 0, none⟩ : Addr).add j) = some u := by
  intro j u hj
  match j, hj with
  | 0, hj => simp at hj; subst hj; simp [Addr.add]
  | (j + 1), hj => simp at hj
theorem TabI.drewN {w : World} {B g : Nat} {T PT : List (List Int)} {V : Value} {bs : List Value} {S : Nat → Value} (h : TabI w B g T PT V bs S) (n : Nat) : TabI (w.drewN n) B g T PT V bs S :=
  ⟨h.hB, h.hg, h.own, h.blk, h.nodup, h.c0, h.cs, h.fr, h.tag, h.rows, h.apart⟩
set_option maxHeartbeats 8000000 in
set_option maxRecDepth 100000 in
theorem place_any (w : World) (B g : Nat) (T : List (List Int)) (V : Value) (bs : List Value) (S : Nat → Value) (vb : Value) (b : List Int) (h : TabI w B g T T V bs S) (hb : BlkAt w B vb b) (hT : T.length ≤ 1048576) :
    Calls Tryd.prog 23 #[.pointer (some ⟨g, 0, none⟩), vb] w fun e w' => e = .returned (.int .i64 ((idxF b T : Nat) : Int)) ∧ (∃ V' bs' S', TabI w' B g (addB T b) (addB T b) V' bs' S') ∧ Below B w w' := by
  obtain ⟨i0, hi, hz0, hz1, hz2⟩ := info_parts info29
  obtain ⟨j0, hj, hy0, hy1, hy2⟩ := info_parts info2
  have H := hide h
  have HBk := hide hb
  obtain ⟨_, bg, bo, bc, rfl, _, _⟩ := hb
  have hr := slotN_lt b
  have hc1 := h.cs (slotN b) hr
  have hB := h.hB
  obtain ⟨ra, rc, hS⟩ := own_form (h.rows (slotN b) hr)
  obtain ⟨va, vc, hV⟩ := own_form h.own
  have c0 := h.c0
  have hpl := places_len T (slotN b)
  clear h
  rw [hS] at hc1
  rw [hV] at c0
  have hri : ((slotN b : Nat) : Int) < 512 := by omega
  obtain ⟨s, hs⟩ : ∃ s, slotN b = s := ⟨_, rfl⟩
  rw [hs] at hr hc1 hri hpl hS
  generalize hnp : (places T s).length = np at *
  go_enter Tryd.func23, Tryd.ntmps23
  go_wp2_with fail
  refine (slot_any _ b _ ((unhide HBk).ints hB) (by have := (unhide HBk).1; omega)).mono ?_
  rintro e w' ⟨rfl, rfl⟩
  rw [hs]
  go_wp2
  go_loopw [18] (fun i wr => ∃ k n : Nat, k ≤ np ∧ i = .int .i64 k ∧ wr = w'.drewN n ∧ Hid (∀ j, j < k → tb T (pl T s j) ≠ b)) (fun i _ => np - (intOf i).toNat)
  case atStart => exact ⟨0, 0, Nat.zero_le _, rfl, rfl, hide (fun j hj => by omega)⟩
  case round =>
    obtain ⟨k, n, hk, rfl, rfl, HC⟩ := hrel
    by_cases hlt : k < np
    · have hlt' : (k : Int) < (np : Int) := by omega
      have hrow := (unhide H).rows s hr
      rw [hS, hnp] at hrow
      obtain ⟨gs, cs, hv⟩ := own_at hrow (by omega)
      simp only [Value.slice.injEq] at hv
      obtain ⟨rfl, _, rfl⟩ := hv
      have hrd := (hrow.cellAt k (by omega)).trans (natCells_at _ k (by omega))
      clear hrow
      obtain ⟨hp1, hp2⟩ := pl_mem (T := T) (s := s) (k := k) (by omega)
      have hpl' : (places T s).getD k 0 = pl T s k := rfl
      rw [hpl'] at hrd
      clear hpl'
      have HX : Hid (∀ x, x = pl T s k → (tb T (pl T s k) = tb T x)) := hide (fun x hx => by rw [hx])
      generalize hpk : pl T s k = p at *
      have hpi : ((p : Nat) : Int) < (T.length : Int) := by omega
      have hown := (unhide H).own
      obtain ⟨gb, cb, hv⟩ := own_at hown (by omega)
      rw [hV] at hv
      simp only [Value.slice.injEq] at hv
      obtain ⟨rfl, _, rfl⟩ := hv
      obtain ⟨vp, hvp, hbp⟩ := (unhide H).blk p hp1
      have hrb : w'.cell? ⟨gb, p, none⟩ = some vp := by
        rw [hV] at hown
        exact (hown.cellAt p (by omega)).trans hvp
      clear hown
      have HP := hide hbp
      obtain ⟨pl64, pg, po, pc, rfl, _, _⟩ := hbp
      have ip := (unhide HP).ints hB
      have ib := (unhide HBk).ints hB
      have IP := hide ip
      have IB := hide ib
      have hl1 := (unhide HP).1
      have hl2 := (unhide HBk).1
      clear ip ib
      go_wp2_with fail
      refine (equal_any _ _ (tb T p) b (w'.drewN n) ((unhide IP).drewN n) ((unhide IB).drewN n) (by omega) (by omega)).mono ?_
      rintro e w2 ⟨rfl, m, rfl⟩
      cases hq : sameB (tb T p) b
      · have HC' : Hid (∀ j, j < k + 1 → tb T (pl T s j) ≠ b) := hide (fun j hj => by
          by_cases e : j = k
          · rw [e, hpk]; exact (sameB_not _ _).1 hq
          · exact unhide HC j (by omega))
        go_wp2
        go_roundw
        case rel => exact ⟨k + 1, n + m, by omega, by go_num, rfl, HC'⟩
        case measure => simp [intOf]; omega
      · have hpb := (sameB_iff _ _).1 hq
        have hix := pl_found (unhide H).nodup hp1 hpb
        have hm : addB T b = T := addB_mem (hpb ▸ tb_mem hp1)
        have HI := hide hix
        have HM := hide hm
        clear hix hm hpb
        go_wp2
        go_ret
        refine ⟨ret_int (by rw [unhide HI]), ?_, bdrew (Below.refl _ _) _⟩
        rw [unhide HM]
        exact ⟨V, bs, S, (unhide H).drewN _⟩
    · obtain rfl : k = np := by omega
      have hnot : b ∉ T := pl_all (by rw [hs, hnp]; exact unhide HC)
      have HN := hide hnot
      have HI := hide (idxF_not hnot)
      have HM := hide (addB_not hnot)
      clear hnot HC
      have HD : Hid (TabI (w'.drewN n) B g T T V bs S) := hide ((unhide H).drewN n)
      have HBd : Hid (BlkAt (w'.drewN n) B (.slice (some ⟨bg, bo, none⟩) 64 bc) b) := hide (unhide HBk)
      have HW0 : Hid (Below B w' (w'.drewN n)) := hide (bdrew (Below.refl _ _) _)
      have d0 : (w'.drewN n).cell? ⟨g, 0, none⟩ = some (.slice va T.length vc) := c0
      clear hc1 c0 H HBk
      generalize w'.drewN n = wd at *
      have hBd := (unhide HD).hB
      have hown := (unhide HD).own
      rw [hV] at hown
      have HO := hide hown
      clear hown
      have d0a := cell_alloc d0
      go_wp2_with (at_builtin; refine wpList_append_own _ rfl _ _ 49 rfl B 26 i0 (.slice none 0 0) 1 24 Tryd.underlying49 hi hz0 hz1 hz2 rfl (by decide) _ _ _ rfl (World.ownsRow.alloc (unhide HO) _) ⟨wd.heap.size, 0, none⟩ 1 1 [.slice (some ⟨bg, bo, none⟩) 64 bc] rfl rfl ?c1 ?c2 ?c3 ?c4 ?c5 ?_)
      case c1 => exact one_new _ _ _
      case c2 => intro u hu; simp at hu; subst hu; rfl
      case c3 => unfold maxLen; omega
      case c4 => omega
      case c5 => simp; omega
      intro V' w2 hown' hgrow _
      rw [← hV] at hgrow
      obtain ⟨q0, q1, _⟩ := (unhide HD).grow1 hgrow
      have HP := hide (TabI.put1 (unhide HD) (unhide HBd) (unhide HN) hown' hgrow)
      rw [hV] at q0
      obtain ⟨va', vc', hv'⟩ := own_form hown'
      subst hv'
      clear hown' hgrow
      go_upto_region 10 with fail
      generalize w2.setCell ⟨g, 0, none⟩ (.slice va' (T.length + 1) vc') = w3 at *
      clear q0 q1
      have hB3 := (unhide HP).1.hB
      have e1 := (unhide HP).1.cs s hr
      have hrow := (unhide HP).1.rows s hr
      rw [hS] at e1 hrow
      rw [hnp] at hrow
      have HR := hide hrow
      clear hrow
      have e1a := cell_alloc e1
      have hkl : k ≤ 1048576 := by omega
      have HF := hide (fun (v' : Value) (w5 : World) (o : Obj) (ho : w5.ownsRow B 2 1 v' (k + 1) (natCells (places T s) ++ [.int .i64 (T.length : Int)])) (hg : (w3.alloc o).grownBy w5 (Value.slice ra k rc).ownBlock) (hn : ∀ j, v'.ownBlock = some j → (Value.slice ra k rc).ownBlock = some j ∨ w3.heap.size ≤ j) => TabI.put2 (w2 := w5) (S' := v') (o := o) (b := b) (unhide HP).1 (by rw [hs, hnp]; exact ho) (by rw [hs, hS]; exact hg) (by rw [hs, hS]; exact hn))
      have HG := hide (fun (w5 : World) (o : Obj) (hg : (w3.alloc o).grownBy w5 (Value.slice ra k rc).ownBlock) => TabI.grow2 (w2 := w5) (o := o) (r := s) (unhide HP).1 hr (by rw [hS]; exact hg))
      rw [hs] at HF
      rw [hS] at HG
      go_region_law (refine step_app2 rfl (.tmp 55) (.tmp 57) 26 rfl j0 Tryd.underlying26 hj hy0 hy1 hy2 B (.slice ra k rc) k (natCells (places T s)) (by simp [Act.eval]) (by first | exact World.ownsRow.alloc (unhide HR) _ | exact own_da (unhide HR) _ | exact own_ad (unhide HR) _) ⟨w3.heap.size, 0, none⟩ (.int .i64 (T.length : Int)) (by simp [Act.eval]) (by simp) rfl (by unfold maxLen; omega) (by omega) (by simp; omega) ?_; intro v' w5 ho5 hg hblk; have hg' : (w3.alloc (.cells #[.int .i64 (T.length : Int)] 2)).grownBy w5 (Value.slice ra k rc).ownBlock := ⟨hg.os, hg.tape, hg.output, hg.size, hg.block⟩; obtain ⟨g0, g1, _⟩ := (unhide HG) w5 _ hg'; have RR := hide ((unhide HF) v' w5 _ ho5 hg' (fun j hj => (hblk j hj).imp_right (fun h => by simp at h; omega))); obtain ⟨va5, vc5, hv5⟩ := own_form ho5; subst hv5; clear ho5 hg hg' hblk)
      all_goals
        go_wp2
        go_ret
        refine ⟨ret_int (by rw [unhide HI]), ?_, (unhide HW0).trans ((unhide HP).2.trans (unhide RR).2)⟩
        rw [unhide HM]
        exact ⟨_, _, _, (unhide RR).1⟩
end Go.Proofs.YtjncfkcpjjnmdaaDoor
