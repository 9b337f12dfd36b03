/- The cut of a text into the fewest words, in plain numbers: what is best from a place on, and how the cut goes. -/
import Derived.Test.YtlpgndmojpnpdaaDoorChqD
import Derived.Test.YtlpgndmojpnpdaaDoorChrC
import Derived.Test.YtlpgndmojpnpdaaDoorChsI
namespace Go.Proofs.YtlpgndmojpnpdaaDoor
namespace Fw
open Go.RowKit
/-- Where the point number i begins. -/
def pl (s : ByteArray) (i : Nat) : Nat := (steps s i).2
theorem pl_le (s : ByteArray) (i : Nat) : pl s i ≤ s.size := (steps_le s i).1
theorem pl_in {s : ByteArray} {i : Nat} (h : i < (pts s).length) : pl s i < s.size := steps_in s i h
theorem pl_end (s : ByteArray) : pl s (pts s).length = s.size := by
  by_cases h : (steps s (pts s).length).2 < s.size
  · have := Chr.lt_pts (s := s) (n := (pts s).length) (L := (steps s (pts s).length).1) (pos := (steps s (pts s).length).2) rfl h
    rw [steps_len s _ (Nat.le_refl _)] at this
    omega
  · have := (steps_le s (pts s).length).1
    show (steps s (pts s).length).2 = _
    omega
theorem pl_lt {s : ByteArray} {a b : Nat} (hab : a < b) (hb : b ≤ (pts s).length) : pl s a < pl s b := by
  have hp := pts_piece s a b (by omega) hb
  have hl : (pts (s.extract (steps s a).2 (steps s b).2)).length = b - a := by rw [hp]; simp; omega
  have h := steps_in (s.extract (steps s a).2 (steps s b).2) 0 (by omega)
  rw [steps_zero, ByteArray.size_extract] at h
  have h2 : 0 < min (steps s b).2 s.size - (steps s a).2 := h
  show (steps s a).2 < (steps s b).2
  omega
theorem pl_next {s : ByteArray} {i : Nat} (h : pl s i < s.size) : pl s (i + 1) = pl s i + dN s (pl s i) := by
  show (steps s (i + 1)).2 = _
  rw [steps_next s i h]
  rfl
theorem pl_inj {s : ByteArray} {a b : Nat} (ha : a ≤ (pts s).length) (hb : b ≤ (pts s).length) (h : pl s a = pl s b) : a = b := by
  rcases Nat.lt_trichotomy a b with h1 | h1 | h1
  · have := pl_lt h1 hb; omega
  · exact h1
  · have := pl_lt h1 ha; omega
/-- The best of the first k pieces: what it costs, and how many points it has. c: what is left costs; q: whether it is a word. -/
def bk (c : Nat → Nat) (q : Nat → Bool) : Nat → Nat × Nat
  | 0 => (c 1 + 3, 1)
  | k + 1 => if q (k + 1) = true ∧ c (k + 1) + 2 ≤ (bk c q k).1 then (c (k + 1) + 2, k + 1) else bk c q k
theorem bk_same {c d : Nat → Nat} {q r : Nat → Bool} {K : Nat} (hc1 : c 1 = d 1) (h : ∀ k, 1 ≤ k → k ≤ K → q k = r k ∧ (q k = true → c k = d k)) : bk c q K = bk d r K := by
  induction K with
  | zero => simp [bk, hc1]
  | succ K ih =>
    have ih := ih (fun k h1 h2 => h k h1 (by omega))
    obtain ⟨e1, e2⟩ := h (K + 1) (by omega) (Nat.le_refl _)
    unfold bk
    rw [ih, ← e1]
    cases hq : q (K + 1) with
    | false => simp
    | true => rw [e2 hq]
theorem bk_more {c : Nat → Nat} {q : Nat → Bool} {K : Nat} (j : Nat) (h : ∀ k, K < k → k ≤ K + j → q k = false) : bk c q (K + j) = bk c q K := by
  induction j with
  | zero => rfl
  | succ j ih =>
    show (if q (K + j + 1) = true ∧ _ then _ else bk c q (K + j)) = _
    rw [if_neg (fun e => by rw [h (K + j + 1) (by omega) (by omega)] at e; cases e.1)]
    exact ih (fun k h1 h2 => h k h1 (by omega))
theorem bk_bd (c : Nat → Nat) (q : Nat → Bool) (K : Nat) : (bk c q K).1 ≤ c 1 + 3 ∧ 1 ≤ (bk c q K).2 ∧ (bk c q K).2 ≤ K + 1 ∧ (1 ≤ K → (bk c q K).2 ≤ K) := by
  induction K with
  | zero => simp [bk]
  | succ K ih =>
    unfold bk
    split
    · rename_i h
      exact ⟨by have := h.2; simp; omega, by simp, by simp, fun _ => by simp⟩
    · refine ⟨ih.1, ih.2.1, by omega, fun _ => ?_⟩
      by_cases h0 : K = 0
      · subst h0
        simp [bk]
      · have := ih.2.2.2 (by omega); omega
/-- What is best from each of the last m places on. -/
def tb (q : Nat → Nat → Bool) (n : Nat) : Nat → List (Nat × Nat)
  | 0 => []
  | m + 1 => bk (fun k => ((tb q n m).getD (k - 1) (0, 0)).1) (q (n - (m + 1))) (min 60 (m + 1)) :: tb q n m
theorem tb_len (q : Nat → Nat → Bool) (n m : Nat) : (tb q n m).length = m := by
  induction m with
  | zero => rfl
  | succ m ih => simp [tb, ih]
theorem tb_get (q : Nat → Nat → Bool) (n : Nat) : ∀ m k, k ≤ m → (tb q n m).getD k (0, 0) = (tb q n (m - k)).getD 0 (0, 0)
  | m, 0, _ => rfl
  | m + 1, k + 1, h => by
    have ih := tb_get q n m k (by omega)
    rw [show m + 1 - (k + 1) = m - k by omega, ← ih]
    simp [tb]
/-- What the best cut from place i on costs, and how many points its first piece has. -/
def be (q : Nat → Nat → Bool) (n i : Nat) : Nat × Nat := (tb q n (n - i)).getD 0 (0, 0)
theorem be_end (q : Nat → Nat → Bool) (n : Nat) : be q n n = (0, 0) := by simp [be, tb]
theorem be_at (q : Nat → Nat → Bool) {n i : Nat} (h : i < n) : be q n i = bk (fun k => (be q n (i + k)).1) (q i) (min 60 (n - i)) := by
  obtain ⟨m, hm⟩ : ∃ m, n - i = m + 1 := ⟨n - i - 1, by omega⟩
  unfold be
  rw [hm]
  show bk _ (q (n - (m + 1))) _ = _
  rw [show n - (m + 1) = i by omega]
  refine bk_same ?_ (fun k h1 h2 => ⟨rfl, fun _ => ?_⟩)
  · show ((tb q n m).getD 0 (0, 0)).1 = _
    rw [show n - (i + 1) = m by omega]
  · show ((tb q n m).getD (k - 1) (0, 0)).1 = _
    rw [tb_get q n m (k - 1) (by omega), show m - (k - 1) = n - (i + k) by omega]
theorem be_cost (q : Nat → Nat → Bool) (n : Nat) : ∀ m i, n - i = m → i ≤ n → (be q n i).1 ≤ 3 * m
  | 0, i, h, hi => by
    obtain rfl : i = n := by omega
    rw [be_end]
    exact Nat.zero_le _
  | m + 1, i, h, hi => by
    have ih := be_cost q n m (i + 1) (by omega) (by omega)
    rw [be_at q (by omega)]
    have := (bk_bd (fun k => (be q n (i + k)).1) (q i) (min 60 (n - i))).1
    omega
theorem be_first (q : Nat → Nat → Bool) {n i : Nat} (h : i < n) : 1 ≤ (be q n i).2 ∧ i + (be q n i).2 ≤ n := by
  rw [be_at q h]
  have h1 := bk_bd (fun k => (be q n (i + k)).1) (q i) (min 60 (n - i))
  have h2 := h1.2.2.2 (by omega)
  exact ⟨h1.2.1, by omega⟩
/-- The points of the pieces, from place i on. -/
def wk (f : Nat → Nat) (n : Nat) : Nat → Nat → List Nat
  | 0, _ => []
  | k + 1, i => if i < n then f i :: wk f n k (i + f i) else []
theorem wk_end (f : Nat → Nat) (n k : Nat) : wk f n k n = [] := by cases k <;> simp [wk]
theorem wk_at {f : Nat → Nat} {n k i : Nat} (h : i < n) (hk : n - i ≤ k) : ∃ k', k = k' + 1 ∧ wk f n k i = f i :: wk f n k' (i + f i) := by
  obtain ⟨k', rfl⟩ : ∃ k', k = k' + 1 := ⟨k - 1, by omega⟩
  exact ⟨k', rfl, by simp [wk, h]⟩
/-- The pieces, and the cuts between them. -/
def pcI (s : ByteArray) : Nat → List Nat → List ByteArray
  | _, [] => []
  | i, f :: r => s.extract (pl s i) (pl s (i + f)) :: pcI s (i + f) r
theorem pcI_len (s : ByteArray) : ∀ L i, (pcI s i L).length = L.length
  | [], _ => rfl
  | f :: r, i => by simp [pcI, pcI_len s r (i + f)]
theorem pcI_snoc (s : ByteArray) : ∀ L i f, pcI s i (L ++ [f]) = pcI s i L ++ [s.extract (pl s (i + L.sum)) (pl s (i + L.sum + f))]
  | [], i, f => by simp [pcI]
  | g :: r, i, f => by
    have ih := pcI_snoc s r (i + g) f
    simp only [List.cons_append, pcI, ih, List.sum_cons]
    rw [show i + g + r.sum = i + (g + r.sum) by omega]
def cu (s : ByteArray) (L : List Nat) : List Int := (List.range (L.length + 1)).map fun t => (pl s (L.take t).sum : Int)
theorem cu_len (s : ByteArray) (L : List Nat) : (cu s L).length = L.length + 1 := by simp [cu]
theorem cu_nth (s : ByteArray) (L : List Nat) (t : Nat) (h : t ≤ L.length) : nth (cu s L) t = (pl s (L.take t).sum : Int) := by
  unfold nth
  rw [List.getD_eq_getElem?_getD, List.getElem?_eq_getElem (by rw [cu_len]; omega)]
  simp [cu]
theorem cu_snoc (s : ByteArray) (L : List Nat) (f : Nat) : cu s (L ++ [f]) = cu s L ++ [(pl s (L.sum + f) : Int)] := by
  unfold cu
  rw [List.length_append, show L.length + [f].length + 1 = (L.length + 1) + 1 by simp, List.range_succ, List.map_append]
  congr 1
  · refine List.map_congr_left (fun t ht => ?_)
    rw [List.mem_range] at ht
    rw [List.take_append_of_le_length (by omega)]
  · rw [List.map_cons, List.map_nil, List.take_of_length_le (by simp)]
    simp
theorem pcI_nth (s : ByteArray) : ∀ L i t, t < L.length → (pcI s i L)[t]? = some (s.extract (pl s (i + (L.take t).sum)) (pl s (i + (L.take (t + 1)).sum)))
  | f :: r, i, 0, _ => by simp [pcI]
  | f :: r, i, t + 1, h => by
    have ih := pcI_nth s r (i + f) t (by simpa using h)
    simp only [pcI, List.getElem?_cons_succ, ih, List.take_succ_cons, List.sum_cons]
    rw [show i + f + (r.take t).sum = i + (f + (r.take t).sum) by omega, show i + f + (r.take (t + 1)).sum = i + (f + (r.take (t + 1)).sum) by omega]
theorem pieces_cu (s : ByteArray) (L : List Nat) : pieces s (cu s L) = pcI s 0 L := by
  apply List.ext_getElem?
  intro t
  by_cases ht : t < L.length
  · rw [pcI_nth s L 0 t ht]
    unfold pieces pcs
    rw [cu_len, List.getElem?_map, List.getElem?_range (by omega)]
    simp only [Option.map_some]
    rw [cu_nth s L t (by omega), cu_nth s L (t + 1) (by omega), Int.toNat_natCast, Int.toNat_natCast, Nat.zero_add, Nat.zero_add]
  · rw [List.getElem?_eq_none (by rw [pieces_len, cu_len]; omega), List.getElem?_eq_none (by rw [pcI_len]; omega)]
/-- A cut of n points. -/
theorem wk_sum {f : Nat → Nat} {n : Nat} (hf : ∀ i, i < n → 1 ≤ f i ∧ i + f i ≤ n) : ∀ k i, i ≤ n → n - i ≤ k → i + (wk f n k i).sum = n ∧ (wk f n k i).length ≤ n - i
  | 0, i, h1, h2 => by
    simp [wk]
    omega
  | k + 1, i, h1, h2 => by
    by_cases h : i < n
    · have hi := hf i h
      have ih := wk_sum hf k (i + f i) (by omega) (by omega)
      have e : wk f n (k + 1) i = f i :: wk f n k (i + f i) := by simp [wk, h]
      rw [e, List.sum_cons, List.length_cons]
      omega
    · have e : wk f n (k + 1) i = [] := by simp [wk, h]
      rw [e]
      simp
      omega
theorem cu_cuts (s : ByteArray) (L : List Nat) : Cuts s (cu s L) := by
  intro t ht
  rw [cu_len] at ht
  refine ⟨pl s (L.take t).sum, pl s (L.take (t + 1)).sum, cu_nth s L t (by omega), cu_nth s L (t + 1) (by omega), ?_, pl_le _ _⟩
  have e : (L.take (t + 1)).sum = (L.take t).sum + L.getD t 0 := by
    rw [List.take_add_one, List.getElem?_eq_getElem (by omega), List.sum_append]
    simp [List.getD, show t < L.length by omega]
  rw [e]
  exact steps_pos s _ _
end Fw
end Go.Proofs.YtlpgndmojpnpdaaDoor
