/- Several texts in one. -/
import Derived.Test.YtjcgchmncgihbaaDoorChqD
import Derived.Test.YtjcgchmncgihbaaDoorChrC
import Derived.Test.YtjcgchmncgihbaaDoorChsI
import Derived.Test.YtjcgchmncgihbaaDoorWfP
import Derived.Test.YtjcgchmncgihbaaDoorStrC
import Derived.Test.YtjcgchmncgihbaaDoorWelQ
import Derived.Maps.AppendAt
/- The cut of a text into the fewest words, in plain numbers: what is best from a place on, and how the cut goes. -/
namespace Go.Proofs.YtjcgchmncgihbaaDoor
namespace Fw
open Go.RowKit
/-- Where the point number i begins. -/
def pl (s : ByteArray) (i : Nat) : Nat := (steps s i).2
theorem pl_le (s : ByteArray) (i : Nat) : pl s i ≤ s.size := (steps_le s i).1
theorem pl_in {s : ByteArray} {i : Nat} (h : i < (pts s).length) : pl s i < s.size := steps_in s i h
theorem pl_end (s : ByteArray) : pl s (pts s).length = s.size := by
  by_cases h : (steps s (pts s).length).2 < s.size
  · have := Chr.lt_pts (s := s) (n := (pts s).length) (L := (steps s (pts s).length).1) (pos := (steps s (pts s).length).2) rfl h
    rw [steps_len s _ (Nat.le_refl _)] at this
    omega
  · have := (steps_le s (pts s).length).1
    show (steps s (pts s).length).2 = _
    omega
theorem pl_lt {s : ByteArray} {a b : Nat} (hab : a < b) (hb : b ≤ (pts s).length) : pl s a < pl s b := by
  have hp := pts_piece s a b (by omega) hb
  have hl : (pts (s.extract (steps s a).2 (steps s b).2)).length = b - a := by rw [hp]; simp; omega
  have h := steps_in (s.extract (steps s a).2 (steps s b).2) 0 (by omega)
  rw [steps_zero, ByteArray.size_extract] at h
  have h2 : 0 < min (steps s b).2 s.size - (steps s a).2 := h
  show (steps s a).2 < (steps s b).2
  omega
theorem pl_next {s : ByteArray} {i : Nat} (h : pl s i < s.size) : pl s (i + 1) = pl s i + dN s (pl s i) := by
  show (steps s (i + 1)).2 = _
  rw [steps_next s i h]
  rfl
theorem pl_inj {s : ByteArray} {a b : Nat} (ha : a ≤ (pts s).length) (hb : b ≤ (pts s).length) (h : pl s a = pl s b) : a = b := by
  rcases Nat.lt_trichotomy a b with h1 | h1 | h1
  · have := pl_lt h1 hb; omega
  · exact h1
  · have := pl_lt h1 ha; omega
/-- The best of the first k pieces: what it costs, and how many points it has. c: what is left costs; q: whether it is a word. -/
def bk (c : Nat → Nat) (q : Nat → Bool) : Nat → Nat × Nat
  | 0 => (c 1 + 3, 1)
  | k + 1 => if q (k + 1) = true ∧ c (k + 1) + 2 ≤ (bk c q k).1 then (c (k + 1) + 2, k + 1) else bk c q k
theorem bk_same {c d : Nat → Nat} {q r : Nat → Bool} {K : Nat} (hc1 : c 1 = d 1) (h : ∀ k, 1 ≤ k → k ≤ K → q k = r k ∧ (q k = true → c k = d k)) : bk c q K = bk d r K := by
  induction K with
  | zero => simp [bk, hc1]
  | succ K ih =>
    have ih := ih (fun k h1 h2 => h k h1 (by omega))
    obtain ⟨e1, e2⟩ := h (K + 1) (by omega) (Nat.le_refl _)
    unfold bk
    rw [ih, ← e1]
    cases hq : q (K + 1) with
    | false => simp
    | true => rw [e2 hq]
theorem bk_more {c : Nat → Nat} {q : Nat → Bool} {K : Nat} (j : Nat) (h : ∀ k, K < k → k ≤ K + j → q k = false) : bk c q (K + j) = bk c q K := by
  induction j with
  | zero => rfl
  | succ j ih =>
    show (if q (K + j + 1) = true ∧ _ then _ else bk c q (K + j)) = _
    rw [if_neg (fun e => by rw [h (K + j + 1) (by omega) (by omega)] at e; cases e.1)]
    exact ih (fun k h1 h2 => h k h1 (by omega))
theorem bk_bd (c : Nat → Nat) (q : Nat → Bool) (K : Nat) : (bk c q K).1 ≤ c 1 + 3 ∧ 1 ≤ (bk c q K).2 ∧ (bk c q K).2 ≤ K + 1 ∧ (1 ≤ K → (bk c q K).2 ≤ K) := by
  induction K with
  | zero => simp [bk]
  | succ K ih =>
    unfold bk
    split
    · rename_i h
      exact ⟨by have := h.2; simp; omega, by simp, by simp, fun _ => by simp⟩
    · refine ⟨ih.1, ih.2.1, by omega, fun _ => ?_⟩
      by_cases h0 : K = 0
      · subst h0
        simp [bk]
      · have := ih.2.2.2 (by omega); omega
/-- What is best from each of the last m places on. -/
def tb (q : Nat → Nat → Bool) (n : Nat) : Nat → List (Nat × Nat)
  | 0 => []
  | m + 1 => bk (fun k => ((tb q n m).getD (k - 1) (0, 0)).1) (q (n - (m + 1))) (min 60 (m + 1)) :: tb q n m
theorem tb_len (q : Nat → Nat → Bool) (n m : Nat) : (tb q n m).length = m := by
  induction m with
  | zero => rfl
  | succ m ih => simp [tb, ih]
theorem tb_get (q : Nat → Nat → Bool) (n : Nat) : ∀ m k, k ≤ m → (tb q n m).getD k (0, 0) = (tb q n (m - k)).getD 0 (0, 0)
  | m, 0, _ => rfl
  | m + 1, k + 1, h => by
    have ih := tb_get q n m k (by omega)
    rw [show m + 1 - (k + 1) = m - k by omega, ← ih]
    simp [tb]
/-- What the best cut from place i on costs, and how many points its first piece has. -/
def be (q : Nat → Nat → Bool) (n i : Nat) : Nat × Nat := (tb q n (n - i)).getD 0 (0, 0)
theorem be_end (q : Nat → Nat → Bool) (n : Nat) : be q n n = (0, 0) := by simp [be, tb]
theorem be_at (q : Nat → Nat → Bool) {n i : Nat} (h : i < n) : be q n i = bk (fun k => (be q n (i + k)).1) (q i) (min 60 (n - i)) := by
  obtain ⟨m, hm⟩ : ∃ m, n - i = m + 1 := ⟨n - i - 1, by omega⟩
  unfold be
  rw [hm]
  show bk _ (q (n - (m + 1))) _ = _
  rw [show n - (m + 1) = i by omega]
  refine bk_same ?_ (fun k h1 h2 => ⟨rfl, fun _ => ?_⟩)
  · show ((tb q n m).getD 0 (0, 0)).1 = _
    rw [show n - (i + 1) = m by omega]
  · show ((tb q n m).getD (k - 1) (0, 0)).1 = _
    rw [tb_get q n m (k - 1) (by omega), show m - (k - 1) = n - (i + k) by omega]
theorem be_cost (q : Nat → Nat → Bool) (n : Nat) : ∀ m i, n - i = m → i ≤ n → (be q n i).1 ≤ 3 * m
  | 0, i, h, hi => by
    obtain rfl : i = n := by omega
    rw [be_end]
    exact Nat.zero_le _
  | m + 1, i, h, hi => by
    have ih := be_cost q n m (i + 1) (by omega) (by omega)
    rw [be_at q (by omega)]
    have := (bk_bd (fun k => (be q n (i + k)).1) (q i) (min 60 (n - i))).1
    omega
theorem be_first (q : Nat → Nat → Bool) {n i : Nat} (h : i < n) : 1 ≤ (be q n i).2 ∧ i + (be q n i).2 ≤ n := by
  rw [be_at q h]
  have h1 := bk_bd (fun k => (be q n (i + k)).1) (q i) (min 60 (n - i))
  have h2 := h1.2.2.2 (by omega)
  exact ⟨h1.2.1, by omega⟩
/-- The points of the pieces, from place i on. -/
def wk (f : Nat → Nat) (n : Nat) : Nat → Nat → List Nat
  | 0, _ => []
  | k + 1, i => if i < n then f i :: wk f n k (i + f i) else []
theorem wk_end (f : Nat → Nat) (n k : Nat) : wk f n k n = [] := by cases k <;> simp [wk]
theorem wk_at {f : Nat → Nat} {n k i : Nat} (h : i < n) (hk : n - i ≤ k) : ∃ k', k = k' + 1 ∧ wk f n k i = f i :: wk f n k' (i + f i) := by
  obtain ⟨k', rfl⟩ : ∃ k', k = k' + 1 := ⟨k - 1, by omega⟩
  exact ⟨k', rfl, by simp [wk, h]⟩
/-- The pieces, and the cuts between them. -/
def pcI (s : ByteArray) : Nat → List Nat → List ByteArray
  | _, [] => []
  | i, f :: r => s.extract (pl s i) (pl s (i + f)) :: pcI s (i + f) r
theorem pcI_len (s : ByteArray) : ∀ L i, (pcI s i L).length = L.length
  | [], _ => rfl
  | f :: r, i => by simp [pcI, pcI_len s r (i + f)]
theorem pcI_snoc (s : ByteArray) : ∀ L i f, pcI s i (L ++ [f]) = pcI s i L ++ [s.extract (pl s (i + L.sum)) (pl s (i + L.sum + f))]
  | [], i, f => by simp [pcI]
  | g :: r, i, f => by
    have ih := pcI_snoc s r (i + g) f
    simp only [List.cons_append, pcI, ih, List.sum_cons]
    rw [show i + g + r.sum = i + (g + r.sum) by omega]
def cu (s : ByteArray) (L : List Nat) : List Int := (List.range (L.length + 1)).map fun t => (pl s (L.take t).sum : Int)
theorem cu_len (s : ByteArray) (L : List Nat) : (cu s L).length = L.length + 1 := by simp [cu]
theorem cu_nth (s : ByteArray) (L : List Nat) (t : Nat) (h : t ≤ L.length) : nth (cu s L) t = (pl s (L.take t).sum : Int) := by
  unfold nth
  rw [List.getD_eq_getElem?_getD, List.getElem?_eq_getElem (by rw [cu_len]; omega)]
  simp [cu]
theorem cu_snoc (s : ByteArray) (L : List Nat) (f : Nat) : cu s (L ++ [f]) = cu s L ++ [(pl s (L.sum + f) : Int)] := by
  unfold cu
  rw [List.length_append, show L.length + [f].length + 1 = (L.length + 1) + 1 by simp, List.range_succ, List.map_append]
  congr 1
  · refine List.map_congr_left (fun t ht => ?_)
    rw [List.mem_range] at ht
    rw [List.take_append_of_le_length (by omega)]
  · rw [List.map_cons, List.map_nil, List.take_of_length_le (by simp)]
    simp
theorem pcI_nth (s : ByteArray) : ∀ L i t, t < L.length → (pcI s i L)[t]? = some (s.extract (pl s (i + (L.take t).sum)) (pl s (i + (L.take (t + 1)).sum)))
  | f :: r, i, 0, _ => by simp [pcI]
  | f :: r, i, t + 1, h => by
    have ih := pcI_nth s r (i + f) t (by simpa using h)
    simp only [pcI, List.getElem?_cons_succ, ih, List.take_succ_cons, List.sum_cons]
    rw [show i + f + (r.take t).sum = i + (f + (r.take t).sum) by omega, show i + f + (r.take (t + 1)).sum = i + (f + (r.take (t + 1)).sum) by omega]
theorem pieces_cu (s : ByteArray) (L : List Nat) : pieces s (cu s L) = pcI s 0 L := by
  apply List.ext_getElem?
  intro t
  by_cases ht : t < L.length
  · rw [pcI_nth s L 0 t ht]
    unfold pieces pcs
    rw [cu_len, List.getElem?_map, List.getElem?_range (by omega)]
    simp only [Option.map_some]
    rw [cu_nth s L t (by omega), cu_nth s L (t + 1) (by omega), Int.toNat_natCast, Int.toNat_natCast, Nat.zero_add, Nat.zero_add]
  · rw [List.getElem?_eq_none (by rw [pieces_len, cu_len]; omega), List.getElem?_eq_none (by rw [pcI_len]; omega)]
/-- A cut of n points. -/
theorem wk_sum {f : Nat → Nat} {n : Nat} (hf : ∀ i, i < n → 1 ≤ f i ∧ i + f i ≤ n) : ∀ k i, i ≤ n → n - i ≤ k → i + (wk f n k i).sum = n ∧ (wk f n k i).length ≤ n - i
  | 0, i, h1, h2 => by
    simp [wk]
    omega
  | k + 1, i, h1, h2 => by
    by_cases h : i < n
    · have hi := hf i h
      have ih := wk_sum hf k (i + f i) (by omega) (by omega)
      have e : wk f n (k + 1) i = f i :: wk f n k (i + f i) := by simp [wk, h]
      rw [e, List.sum_cons, List.length_cons]
      omega
    · have e : wk f n (k + 1) i = [] := by simp [wk, h]
      rw [e]
      simp
      omega
theorem cu_cuts (s : ByteArray) (L : List Nat) : Cuts s (cu s L) := by
  intro t ht
  rw [cu_len] at ht
  refine ⟨pl s (L.take t).sum, pl s (L.take (t + 1)).sum, cu_nth s L t (by omega), cu_nth s L (t + 1) (by omega), ?_, pl_le _ _⟩
  have e : (L.take (t + 1)).sum = (L.take t).sum + L.getD t 0 := by
    rw [List.take_add_one, List.getElem?_eq_getElem (by omega), List.sum_append]
    simp [List.getD, show t < L.length by omega]
  rw [e]
  exact steps_pos s _ _
end Fw
end Go.Proofs.YtjcgchmncgihbaaDoor
/- Words in order, and which pieces of a text are words: in plain numbers. -/
namespace Go.Proofs.YtjcgchmncgihbaaDoor
namespace Fw
open Go.RowKit
open Wd (lsB wrd allP wfl wfk)
theorem bl_irr : ∀ x : List UInt8, Op.bytesLess x x = false
  | [] => rfl
  | a :: x => by simp [Op.bytesLess, bl_irr x]
theorem bl_trans : ∀ {x y z : List UInt8}, Op.bytesLess x y = true → Op.bytesLess y z = true → Op.bytesLess x z = true
  | _, [], _, h, _ => by simp [Op.bytesLess] at h
  | _, _ :: _, [], _, h => by simp [Op.bytesLess] at h
  | [], _ :: _, _ :: _, _, _ => rfl
  | a :: x, b :: y, c :: z, h1, h2 => by
    simp only [Op.bytesLess, Bool.or_eq_true, decide_eq_true_eq, Bool.and_eq_true, beq_iff_eq] at h1 h2 ⊢
    rcases h1 with h1 | ⟨rfl, h1⟩
    · rcases h2 with h2 | ⟨rfl, h2⟩
      · exact .inl (UInt8.lt_trans h1 h2)
      · exact .inl h1
    · rcases h2 with h2 | ⟨rfl, h2⟩
      · exact .inl h2
      · exact .inr ⟨rfl, bl_trans h1 h2⟩
/-- What begins another one is not above it. -/
theorem bl_pre : ∀ {a c : List UInt8}, a <+: c → Op.bytesLess c a = false
  | [], _, _ => by cases ‹List UInt8› <;> rfl
  | b :: a, [], h => by simp at h
  | b :: a, d :: c, h => by
    rw [List.cons_prefix_cons] at h
    obtain ⟨rfl, h⟩ := h
    simp [Op.bytesLess, bl_pre h]
/-- What stands between a beginning and the whole begins so, too. -/
theorem bl_mid : ∀ {a b c : List UInt8}, a <+: c → Op.bytesLess b a = false → Op.bytesLess c b = false → a <+: b
  | [], _, _, _, _, _ => List.nil_prefix
  | x :: a, _, [], h, _, _ => by simp at h
  | x :: a, [], y :: c, _, h, _ => by simp [Op.bytesLess] at h
  | x :: a, z :: b, y :: c, h, h1, h2 => by
    rw [List.cons_prefix_cons] at h ⊢
    obtain ⟨rfl, h⟩ := h
    simp only [Op.bytesLess, Bool.or_eq_false_iff, decide_eq_false_iff_not, Bool.and_eq_false_imp, beq_iff_eq] at h1 h2
    have e : x = z := UInt8.le_antisymm (UInt8.not_lt.1 h1.1) (UInt8.not_lt.1 h2.1)
    subst e
    exact ⟨rfl, bl_mid h (h1.2 rfl) (h2.2 rfl)⟩
theorem bl_tri : ∀ {x y : List UInt8}, Op.bytesLess x y = false → Op.bytesLess y x = false → x = y
  | [], [], _, _ => rfl
  | [], _ :: _, h, _ => by simp [Op.bytesLess] at h
  | _ :: _, [], _, h => by simp [Op.bytesLess] at h
  | a :: x, b :: y, h1, h2 => by
    simp only [Op.bytesLess, Bool.or_eq_false_iff, decide_eq_false_iff_not, Bool.and_eq_false_imp, beq_iff_eq] at h1 h2
    have e : a = b := UInt8.le_antisymm (UInt8.not_lt.1 h2.1) (UInt8.not_lt.1 h1.1)
    subst e
    rw [bl_tri (h1.2 rfl) (h2.2 rfl)]
/-- Words that are right. -/
structure Wr (W : List ByteArray) : Prop where
  few : W.length ≤ 1000
  wrd : ∀ k, k < W.length → wrd (nthS W k) = true
  ris : ∀ k, k + 1 < W.length → lsB (nthS W k) (nthS W (k + 1)) = true
theorem wfk_at {W : List ByteArray} : ∀ {n k : Nat}, wfk W n = true → k < n → wfl W k = true
  | 0, k, _, h => absurd h (by omega)
  | n + 1, k, h, hk => by
    cases e : wfl W k with
    | true => rfl
    | false => rw [Wd.wfk_end e hk] at h; cases h
theorem wr_of {W : List ByteArray} (h : Wd.wfc W = 0) : Wr W := by
  unfold Wd.wfc at h
  split at h
  · cases h
  · rename_i h1
    split at h
    · rename_i h2
      refine ⟨by omega, fun k hk => ?_, fun k hk => ?_⟩
      · have := wfk_at h2 hk
        unfold wfl at this
        rw [Bool.and_eq_true] at this
        exact this.1
      · have := wfk_at h2 hk
        unfold wfl at this
        rw [Bool.and_eq_true] at this
        simpa using this.2
    · cases h
theorem wr_up {W : List ByteArray} (h : Wr W) {k : Nat} : ∀ j, k + j + 1 < W.length → lsB (nthS W k) (nthS W (k + j + 1)) = true
  | 0, hj => h.ris k hj
  | j + 1, hj => bl_trans (wr_up h j (by omega)) (h.ris (k + j + 1) hj)
theorem wr_lt {W : List ByteArray} (h : Wr W) {k l : Nat} (hkl : k < l) (hl : l < W.length) : lsB (nthS W k) (nthS W l) = true := by
  obtain ⟨j, rfl⟩ : ∃ j, l = k + j + 1 := ⟨l - k - 1, by omega⟩
  exact wr_up h j hl
/-- A place ahead of which all words are below x, and none from it on. -/
structure Lb (W : List ByteArray) (x : ByteArray) (i : Nat) : Prop where
  le : i ≤ W.length
  lo : ∀ k, k < i → lsB (nthS W k) x = true
  hi : ∀ k, i ≤ k → k < W.length → lsB (nthS W k) x = false
theorem ls_mono {W : List ByteArray} (h : Wr W) {x : ByteArray} {k l : Nat} (hkl : k ≤ l) (hl : l < W.length) (hx : lsB (nthS W l) x = true) : lsB (nthS W k) x = true := by
  rcases Nat.lt_or_eq_of_le hkl with h1 | rfl
  · exact bl_trans (wr_lt h h1 hl) hx
  · exact hx
theorem mem_nth {W : List ByteArray} {x : ByteArray} : x ∈ W ↔ ∃ k, k < W.length ∧ nthS W k = x :=
  ⟨mem_of_nthS, fun ⟨k, hk, e⟩ => by rw [← e]; unfold nthS; rw [List.getD_eq_getElem?_getD, List.getElem?_eq_getElem hk]; exact List.getElem_mem hk⟩
/-- One of words. -/
def hw (W : List ByteArray) (x : ByteArray) : Bool := W.any fun y => decide (y = x)
theorem hw_iff {W : List ByteArray} {x : ByteArray} : hw W x = true ↔ x ∈ W := by
  unfold hw
  rw [List.any_eq_true]
  exact ⟨fun ⟨y, h1, h2⟩ => by rw [← of_decide_eq_true h2]; exact h1, fun h => ⟨x, h, decide_eq_true rfl⟩⟩
theorem hw_no {W : List ByteArray} {x : ByteArray} (h : ¬ x ∈ W) : hw W x = false := by
  cases e : hw W x with
  | false => rfl
  | true => exact absurd (hw_iff.1 e) h
theorem lb_mem {W : List ByteArray} (h : Wr W) {x : ByteArray} {i : Nat} (hl : Lb W x i) : hw W x = decide (i < W.length ∧ nthS W i = x) := by
  refine Bool.eq_iff_iff.2 ?_
  rw [hw_iff, decide_eq_true_eq]
  refine ⟨fun hx => ?_, fun hx => mem_nth.2 ⟨i, hx.1, hx.2⟩⟩
  obtain ⟨k, hk, e⟩ := mem_nth.1 hx
  have h1 : ¬ k < i := fun hki => by
    have := hl.lo k hki
    rw [e] at this
    unfold Wd.lsB at this
    rw [bl_irr] at this
    cases this
  by_cases h2 : k = i
  · subst h2
    exact ⟨hk, e⟩
  · have h3 := wr_lt h (show i < k by omega) hk
    rw [e, hl.hi i (Nat.le_refl _) (by omega)] at h3
    cases h3
/-- A word begins with p. -/
def pre (p x : ByteArray) : Prop := p.toList <+: x.toList
theorem lb_pre {W : List ByteArray} (h : Wr W) {p x : ByteArray} {i : Nat} (hl : Lb W p i) (hx : x ∈ W) (hp : pre p x) : i < W.length ∧ pre p (nthS W i) := by
  obtain ⟨k, hk, rfl⟩ := mem_nth.1 hx
  have h0 : lsB (nthS W k) p = false := bl_pre hp
  have h1 : ¬ k < i := fun hki => by rw [hl.lo k hki] at h0; cases h0
  have hi : i < W.length := by omega
  refine ⟨hi, bl_mid hp (hl.hi i (Nat.le_refl _) hi) ?_⟩
  by_cases e : i = k
  · subst e; exact bl_irr _
  · have h3 := wr_lt h (show i < k by omega) hk
    cases h4 : Op.bytesLess (nthS W k).toList (nthS W i).toList with
    | false => rfl
    | true =>
      have := bl_trans h3 h4
      rw [bl_irr] at this
      cases this
/-- The lengths of words that begin at a place, three bytes a point. -/
def qq (s : ByteArray) (W : List ByteArray) (at_ k : Nat) : Bool := decide (at_ + 3 * k ≤ s.size) && hw W (s.extract at_ (at_ + 3 * k))
def iw (s : ByteArray) (W : List ByteArray) (i k : Nat) : Bool := hw W (s.extract (pl s i) (pl s (i + k)))
theorem wr_mem {W : List ByteArray} (h : Wr W) {x : ByteArray} (hx : x ∈ W) : 0 < x.size ∧ x.size ≤ 180 ∧ allP (pts x) = true := by
  obtain ⟨k, hk, rfl⟩ := mem_nth.1 hx
  have := h.wrd k hk
  rw [Wd.wrd_eq, Bool.and_eq_true, decide_eq_true_eq] at this
  exact ⟨this.1.1, this.1.2, this.2⟩
theorem qq_far {s : ByteArray} {W : List ByteArray} (h : Wr W) {a k : Nat} (hk : 60 < k) : qq s W a k = false := by
  unfold qq
  by_cases h1 : a + 3 * k ≤ s.size
  · rw [decide_eq_true h1, Bool.true_and]
    refine hw_no fun hx => ?_
    have := (wr_mem h hx).2.1
    rw [ByteArray.size_extract] at this
    omega
  · rw [decide_eq_false h1]; rfl
/-- A word's bytes, three a point. -/
theorem three_at {x : ByteArray} (h : allP (pts x) = true) : ∀ j, 3 * j < x.size → (steps x j).2 = 3 * j ∧ bt x (3 * j) = 224 ∧ bt x (3 * j + 1) = 160 ∧ 128 ≤ bt x (3 * j + 2) ∧ bt x (3 * j + 2) ≤ 191
  | 0, h0 => by
    have hp := Wd.allP_at h (Wd.at_in x 0 (show 0 < x.size by omega))
    have hk := Wd.parts_ok h 1 0 (by omega) (show 0 < x.size by omega)
    obtain ⟨e1, e2⟩ := enc_back hk
    have e0 : (steps x 0).2 = 0 := rfl
    rw [e0] at hp hk e1 e2
    rw [Wd.enc3 hp.1 hp.2] at e1
    rw [Lib.encodeRuneZ_three (by omega)] at e2
    have a0 := e2 0 (by omega)
    have a1 := e2 1 (by omega)
    have a2 := e2 2 (by omega)
    simp at a0 a1 a2
    refine ⟨rfl, ?_, ?_, ?_, ?_⟩ <;> simp only [Nat.mul_zero, Nat.zero_add] <;> omega
  | j + 1, hj => by
    have ih := three_at h j (by omega)
    have hp0 := Wd.allP_at h (Wd.at_in x j (by rw [ih.1]; omega))
    have hk0 := Wd.parts_ok h (j + 1) j (by omega) (by rw [ih.1]; omega)
    have hn : dN x (3 * j) = 3 := by
      have := (enc_back hk0).1
      rw [ih.1] at hp0 this
      rw [Wd.enc3 hp0.1 hp0.2] at this
      exact this.symm
    have e0 : (steps x (j + 1)).2 = 3 * (j + 1) := by
      rw [steps_next x j (by rw [ih.1]; omega), ih.1]
      show 3 * j + dN x (3 * j) = _
      omega
    have hp := Wd.allP_at h (Wd.at_in x (j + 1) (by rw [e0]; omega))
    have hk := Wd.parts_ok h (j + 1 + 1) (j + 1) (by omega) (by rw [e0]; omega)
    obtain ⟨e1, e2⟩ := enc_back hk
    rw [e0] at hp hk e1 e2
    rw [Wd.enc3 hp.1 hp.2] at e1
    rw [Lib.encodeRuneZ_three (by omega)] at e2
    have a0 := e2 0 (by omega)
    have a1 := e2 1 (by omega)
    have a2 := e2 2 (by omega)
    simp at a0 a1 a2
    exact ⟨e0, by omega, by omega, by omega, by omega⟩
/-- Where a word stands in a text its points begin three bytes apart. -/
theorem pl_three {s x : ByteArray} {i k : Nat} (hx : allP (pts x) = true) (hk : pl s i + 3 * k ≤ s.size) (e : s.extract (pl s i) (pl s i + 3 * k) = x) : ∀ j, j ≤ k → pl s (i + j) = pl s i + 3 * j
  | 0, _ => rfl
  | j + 1, hj => by
    have ih := pl_three hx hk e j (by omega)
    have hsz : x.size = 3 * k := by rw [← e, ByteArray.size_extract]; omega
    obtain ⟨_, b0, b1, b2, b3⟩ := three_at hx j (by omega)
    rw [← e] at b0 b1 b2 b3
    rw [bt_extract s _ _ _ hk (by omega)] at b0 b1 b2 b3
    have hd : dN s (pl s i + 3 * j) = 3 := by
      unfold dN
      rw [decode_dec, dec_three (by omega) (by omega) (by omega) (by rw [show pl s i + 3 * j + 1 = pl s i + (3 * j + 1) by omega, b1]; omega) (by rw [show pl s i + 3 * j + 1 = pl s i + (3 * j + 1) by omega, b1]; omega) (by rw [show pl s i + 3 * j + 2 = pl s i + (3 * j + 2) by omega]; exact b2) (by rw [show pl s i + 3 * j + 2 = pl s i + (3 * j + 2) by omega]; exact b3)]
      rw [show pl s i + 3 * j + 1 = pl s i + (3 * j + 1) by omega, b0, b1]
      simp
      rw [if_pos (by omega)]
    have := pl_next (s := s) (i := i + j) (by rw [ih]; omega)
    rw [ih, hd] at this
    rw [show i + (j + 1) = i + j + 1 by omega, this]
    omega
theorem word_at {s : ByteArray} {W : List ByteArray} (h : Wr W) {i k : Nat} (hi : i < (pts s).length) (hk : 1 ≤ k) : (qq s W (pl s i) k = true ↔ k ≤ (pts s).length - i ∧ iw s W i k = true) ∧ (qq s W (pl s i) k = true → pl s (i + k) = pl s i + 3 * k) := by
  have key : qq s W (pl s i) k = true → pl s (i + k) = pl s i + 3 * k ∧ k ≤ (pts s).length - i ∧ iw s W i k = true := fun hq => by
    unfold qq at hq
    rw [Bool.and_eq_true, decide_eq_true_eq, hw_iff] at hq
    have hp := pl_three (wr_mem h hq.2).2.2 hq.1 rfl
    have e := hp k (Nat.le_refl _)
    refine ⟨e, ?_, by unfold iw; rw [e]; exact hw_iff.2 hq.2⟩
    by_cases hc : k ≤ (pts s).length - i
    · exact hc
    · have h1 := hp ((pts s).length - i) (by omega)
      rw [show i + ((pts s).length - i) = (pts s).length by omega, pl_end] at h1
      omega
  refine ⟨⟨fun hq => (key hq).2, fun ⟨h1, h2⟩ => ?_⟩, fun hq => (key hq).1⟩
  unfold iw at h2
  rw [hw_iff] at h2
  have h3 := wr_mem h h2
  have hsz := Wd.parts_size h3.2.2
  have hpp : pts (s.extract (pl s i) (pl s (i + k))) = ((pts s).drop i).take (i + k - i) := pts_piece s i (i + k) (by omega) (by omega)
  have hlen : (pts (s.extract (pl s i) (pl s (i + k)))).length = k := by rw [hpp]; simp; omega
  rw [hlen, ByteArray.size_extract] at hsz
  have hle := pl_le s (i + k)
  have e : pl s (i + k) = pl s i + 3 * k := by omega
  unfold qq
  rw [Bool.and_eq_true, decide_eq_true_eq, hw_iff, ← e]
  exact ⟨hle, h2⟩
/-- The lengths of words among the first k. -/
def ek (q : Nat → Bool) : Nat → List Nat
  | 0 => []
  | k + 1 => ek q k ++ (if q (k + 1) = true then [k + 1] else [])
theorem ek_len (q : Nat → Bool) (k : Nat) : (ek q k).length ≤ k := by
  induction k with
  | zero => simp [ek]
  | succ k ih => unfold ek; rw [List.length_append]; split <;> simp <;> omega
theorem ek_mem {q : Nat → Bool} {K k : Nat} (h : k ∈ ek q K) : 1 ≤ k ∧ k ≤ K ∧ q k = true := by
  induction K with
  | zero => cases h
  | succ K ih =>
    unfold ek at h
    rw [List.mem_append] at h
    rcases h with h | h
    · have := ih h; exact ⟨this.1, by omega, this.2.2⟩
    · split at h
      · rename_i hq
        obtain rfl : k = K + 1 := by simpa using h
        exact ⟨by omega, Nat.le_refl _, hq⟩
      · cases h
theorem ek_more {q : Nat → Bool} {K : Nat} (j : Nat) (h : ∀ k, K < k → q k = false) : ek q (K + j) = ek q K := by
  induction j with
  | zero => rfl
  | succ j ih =>
    show ek q (K + j) ++ (if q (K + j + 1) = true then _ else _) = _
    rw [ih, if_neg (by rw [h _ (by omega)]; simp), List.append_nil]
theorem ek_end {q : Nat → Bool} {K L : Nat} (hK : ∀ k, K < k → q k = false) (hL : ∀ k, L < k → q k = false) : ek q K = ek q L := by
  rw [← ek_more (K := K) L hK, ← ek_more (K := L) K hL, Nat.add_comm]
/-- One word more that is tried. -/
def st (c : Nat → Nat) (a : Nat × Nat) (k : Nat) : Nat × Nat := if c k + 2 ≤ a.1 then (c k + 2, k) else a
theorem fold_bk (c : Nat → Nat) (q : Nat → Bool) (K : Nat) : (ek q K).foldl (st c) (c 1 + 3, 1) = bk c q K := by
  induction K with
  | zero => rfl
  | succ K ih =>
    unfold ek bk
    rw [List.foldl_append, ih]
    cases hq : q (K + 1) with
    | false => simp
    | true => simp [st]
/-- The best is what is found among the words that begin there. -/
theorem best_at {s : ByteArray} {W : List ByteArray} (h : Wr W) {i : Nat} (hi : i < (pts s).length) : be (iw s W) (pts s).length i = (ek (qq s W (pl s i)) 60).foldl (st (fun k => (be (iw s W) (pts s).length (i + k)).1)) ((be (iw s W) (pts s).length (i + 1)).1 + 3, 1) := by
  rw [fold_bk (fun k => (be (iw s W) (pts s).length (i + k)).1), be_at _ hi]
  have hm : bk (fun k => (be (iw s W) (pts s).length (i + k)).1) (qq s W (pl s i)) 60 = bk (fun k => (be (iw s W) (pts s).length (i + k)).1) (qq s W (pl s i)) (min 60 ((pts s).length - i)) := by
    obtain ⟨j, hj⟩ : ∃ j, 60 = min 60 ((pts s).length - i) + j := ⟨60 - min 60 ((pts s).length - i), by omega⟩
    conv => lhs; rw [hj]
    refine bk_more j (fun k h1 h2 => ?_)
    cases hq : qq s W (pl s i) k with
    | false => rfl
    | true => have := ((word_at h hi (by omega)).1.1 hq).1; omega
  rw [hm]
  refine bk_same rfl (fun k h1 h2 => ⟨?_, fun _ => rfl⟩)
  have := (word_at (W := W) h hi h1).1
  cases hq : qq s W (pl s i) k with
  | true => exact (this.1 hq).2
  | false =>
    cases hw : iw s W i k with
    | false => rfl
    | true => rw [this.2 ⟨by omega, hw⟩] at hq; cases hq
/-- What FewestWords answers. -/
def fsL (W : List ByteArray) (s : ByteArray) : List Nat := wk (fun i => (be (iw s W) (pts s).length i).2) (pts s).length (pts s).length 0
def fwO (W : List ByteArray) (s : ByteArray) : List ByteArray := if 65536 < s.size ∨ Wd.wfc W ≠ 0 then [] else pcI s 0 (fsL W s)
theorem fsL_ok (W : List ByteArray) (s : ByteArray) : (fsL W s).sum = (pts s).length ∧ (fsL W s).length ≤ (pts s).length := by
  have := wk_sum (f := fun i => (be (iw s W) (pts s).length i).2) (n := (pts s).length) (fun i hi => be_first _ hi) (pts s).length 0 (by omega) (by omega)
  unfold fsL
  omega
theorem fwO_le (W : List ByteArray) (s : ByteArray) : (fwO W s).length ≤ 65536 := by
  unfold fwO
  split
  · simp
  · rename_i h
    rw [pcI_len]
    have := (fsL_ok W s).2
    have := pts_le s
    omega
end Fw
end Go.Proofs.YtjcgchmncgihbaaDoor
/- Binary search among words, what a text begins with, and the ends of the words that begin at a place. -/
namespace Go.Proofs.YtjcgchmncgihbaaDoor
namespace Fw
open Go.RowKit
open Wd (lsB)
set_option linter.unusedVariables false
theorem bytes_eqF {a b : ByteArray} (h : a.toList = b.toList) : a = b := by
  rw [Go.ByteArray.toList_eq, Go.ByteArray.toList_eq] at h
  exact Go.WideShapes.bytes_inj h
theorem str_beqF (a b : ByteArray) : (a.toList == b.toList) = decide (a = b) := by
  cases e : (a.toList == b.toList) with
  | true => exact (decide_eq_true (bytes_eqF (eq_of_beq e))).symm
  | false => exact (decide_eq_false (fun h => by rw [h] at e; simp at e)).symm
theorem cnan (x : ByteArray) (w : World) : Calls Tryd.prog 50 #[.string x] w fun e w' => e = .returned (.bool false) ∧ w' = w := by
  have h := str_ne x
  go_enter Tryd.func50, Tryd.ntmps50
  go_wp2
  go_ret
  exact ⟨rfl, rfl⟩
theorem snan (x : ByteArray) (w : World) : Calls Tryd.prog 48 #[.string x] w fun e w' => e = .returned (.bool false) ∧ w' = w := by
  have h := str_ne x
  go_enter Tryd.func48, Tryd.ntmps48
  go_wp2
  go_ret
  exact ⟨rfl, rfl⟩
theorem lessS (x y : ByteArray) (w : World) : Calls Tryd.prog 47 #[.string x, .string y] w fun e w' => e = .returned (.bool (lsB x y)) ∧ w' = w := by
  have C := hide (fun W => cnan x W)
  have hL : Op.bytesLess x.toList y.toList = lsB x y := rfl
  generalize lsB x y = D at *
  go_enter Tryd.func47, Tryd.ntmps47
  go_wp2_with (go_at_call 50; refine ((unhide C) _).mono ?_; rintro e w' ⟨rfl, hx⟩; obtain rfl := hx.symm; clear hx)
  go_ret
  exact ⟨rfl, rfl⟩
/-- What begins with what. -/
def hpf (s p : ByteArray) : Bool := decide (p.size ≤ s.size) && ((s.extract 0 p.size).toList == p.toList)
theorem lhpf (s p : ByteArray) (w : World) : Calls Tryd.prog 49 #[.string s, .string p] w fun e w' => e = .returned (.bool (hpf s p)) ∧ w' = w := by
  by_cases h : p.size ≤ s.size
  · have h' : (p.size : Int) ≤ (s.size : Int) := by omega
    have h0 : (0 : Int) ≤ (p.size : Int) := by omega
    have e : hpf s p = ((s.extract 0 p.size).toList == p.toList) := by unfold hpf; rw [decide_eq_true h, Bool.true_and]
    rw [e]
    go_enter Tryd.func49, Tryd.ntmps49
    go_wp2
    go_ret
    exact ⟨rfl, rfl⟩
  · have h' : ¬ (p.size : Int) ≤ (s.size : Int) := by omega
    have e : hpf s p = false := by unfold hpf; rw [decide_eq_false h, Bool.false_and]
    rw [e]
    go_enter Tryd.func49, Tryd.ntmps49
    go_wp2
    go_ret
    exact ⟨rfl, rfl⟩
theorem hpfS (s p : ByteArray) (w : World) : Calls Tryd.prog 44 #[.string s, .string p] w fun e w' => e = .returned (.bool (hpf s p)) ∧ w' = w := by
  have C := hide (fun W => lhpf s p W)
  generalize hpf s p = D at *
  go_enter Tryd.func44, Tryd.ntmps44
  go_wp2_with (go_at_call 49; refine ((unhide C) _).mono ?_; rintro e w' ⟨rfl, hx⟩; obtain rfl := hx.symm; clear hx)
  go_ret
  exact ⟨rfl, rfl⟩
theorem hpf_pre {s p : ByteArray} (h : pre p s) : hpf s p = true := by
  have hl : p.toList.length ≤ s.toList.length := h.length_le
  rw [Go.ByteArray.toList_eq, Go.ByteArray.toList_eq] at hl
  have h1 : p.size ≤ s.size := by rw [Lib.size_eq, Lib.size_eq]; exact hl
  unfold hpf
  rw [decide_eq_true h1, Bool.true_and, beq_iff_eq]
  have h2 := List.prefix_iff_eq_take.1 h
  rw [h2]
  rw [Go.ByteArray.toList_eq, Go.ByteArray.toList_eq, Go.ByteArray.toList_eq]
  have e : (s.extract 0 p.size).data = s.data.extract 0 p.size := by simp [ByteArray.data_extract]
  rw [e, Array.toList_extract, List.extract_eq_take_drop, List.drop_zero, Nat.sub_zero]
  rfl
/-- A cut ahead of another cut, from one place on, begins it. -/
theorem ext_pre {s : ByteArray} {a b c : Nat} (hbc : b ≤ c) : pre (s.extract a b) (s.extract a c) := by
  unfold pre
  rw [Go.ByteArray.toList_eq, Go.ByteArray.toList_eq]
  have e1 : (s.extract a b).data = s.data.extract a b := by simp [ByteArray.data_extract]
  have e2 : (s.extract a c).data = s.data.extract a c := by simp [ByteArray.data_extract]
  rw [e1, e2, Array.toList_extract, Array.toList_extract]
  simp only [List.extract_eq_take_drop]
  exact List.take_prefix_take_left (by omega)
set_option maxRecDepth 100000 in
set_option maxHeartbeats 4000000 in
theorem bsS (v : Value) (W : List ByteArray) (x : ByteArray) (w : World) (hv : StrsAt w v W) (hW : Wr W) :
    Calls Tryd.prog 43 #[v, .string x] w fun e w' => ∃ i : Nat, Lb W x i ∧ e = .returned (.tuple #[.int .i64 (i : Int), .bool (hw W x)]) ∧ w' = w := by
  have HV := hide hv
  have HW := hide hW
  have hfew := hW.few
  have CL := hide (fun y V => lessS y x V)
  have CN := hide (fun y V => snan y V)
  obtain ⟨a, cap, rfl, _⟩ := hv
  clear hW
  go_enter Tryd.func43, Tryd.ntmps43
  go_wp2
  go_loopw [7, 8] (fun x1 x2 wr => ∃ i j : Nat, x1 = .int .i64 (i : Int) ∧ x2 = .int .i64 (j : Int) ∧ i ≤ j ∧ j ≤ W.length ∧ Hid ((∀ k, k < i → lsB (nthS W k) x = true) ∧ ∀ k, j ≤ k → k < W.length → lsB (nthS W k) x = false) ∧ wr = w) (fun x1 x2 _ => (intOf x2).toNat - (intOf x1).toNat)
  case atStart => exact ⟨0, W.length, rfl, rfl, by omega, by omega, hide ⟨fun k hk => absurd hk (by omega), fun k h1 h2 => absurd h2 (by omega)⟩, rfl⟩
  case round =>
    obtain ⟨i, j, rfl, rfl, hij, hj, HH, rfl⟩ := hrel
    by_cases hlt : i < j
    · obtain ⟨b, off, cp, he, hbs, hc⟩ := strs_rd (unhide HV) (by omega)
      cases he
      have hlt' : (i : Int) < (j : Int) := by omega
      obtain ⟨m, hm⟩ : ∃ m, (i + j) / 2 = m := ⟨_, rfl⟩
      have hmj : m < W.length := by omega
      have c1 := hc m hmj
      obtain ⟨y, hy⟩ : ∃ y, nthS W m = y := ⟨_, rfl⟩
      rw [hy] at c1
      have HLO : Hid (lsB y x = true → (∀ k, k < m + 1 → lsB (nthS W k) x = true)) := hide (fun h k hk => ls_mono (unhide HW) (show k ≤ m by omega) hmj (by rw [hy]; exact h))
      have HHI : Hid (lsB y x = false → ∀ k, m ≤ k → k < W.length → lsB (nthS W k) x = false) := hide (fun h k h1 h2 => by
        cases e : lsB (nthS W k) x with
        | false => rfl
        | true => rw [← hy, ls_mono (unhide HW) h1 h2 e] at h; cases h)
      have CL1 := hide (fun V => (unhide CL) y V)
      have hw1 : IntKind.i64.wrap ((i : Int) + (j : Int)) = (i : Int) + (j : Int) := by rw [show (i : Int) + (j : Int) = ((i + j : Nat) : Int) by omega]; exact wrapN (i + j) (by omega)
      have hw2 : IntKind.u64.wrap ((i : Int) + (j : Int)) = (i : Int) + (j : Int) := by simp [IntKind.wrap, IntKind.bits, IntKind.signed]; omega
      have hsh : ((i : Int) + (j : Int)) / 2 = (m : Int) := by omega
      have hw3 : IntKind.i64.wrap (m : Int) = (m : Int) := wrapN m (by omega)
      have hw4 : IntKind.u64.wrap (m : Int) = (m : Int) := by simp [IntKind.wrap, IntKind.bits, IntKind.signed]; omega
      have hm0 : (0 : Int) ≤ (m : Int) := by omega
      have hmj' : (m : Int) < (W.length : Int) := by omega
      clear hc hy
      generalize hD : lsB y x = D at *
      clear hD CL
      cases D
      · have HH2 := hide (And.intro (unhide HH).1 ((unhide HHI) rfl))
        go_wp2_with (go_at_call 47; refine ((unhide CL1) _).mono ?_; rintro e w' ⟨rfl, hx⟩; obtain rfl := hx.symm; clear hx)
        go_roundw
        case rel => exact ⟨i, m, rfl, by first | rfl | go_num, by omega, by omega, HH2, by first | trivial | rfl⟩
        case measure => simp [intOf]; omega
      · have HH2 := hide (And.intro ((unhide HLO) rfl) (unhide HH).2)
        go_wp2_with (go_at_call 47; refine ((unhide CL1) _).mono ?_; rintro e w' ⟨rfl, hx⟩; obtain rfl := hx.symm; clear hx)
        go_roundw
        case rel => exact ⟨m + 1, j, by go_num, rfl, by omega, by omega, HH2, by first | trivial | rfl⟩
        case measure => simp [intOf]; omega
    · obtain rfl : i = j := by omega
      have hge : ¬ (i : Int) < (i : Int) := by omega
      have HL : Hid (Lb W x i) := hide ⟨hj, (unhide HH).1, (unhide HH).2⟩
      have HM := hide (lb_mem (unhide HW) (unhide HL))
      clear CL hlt
      have hU : undef = Value.tuple #[] := rfl
      by_cases hil : i < W.length
      · obtain ⟨b, off, cp, he, hbs, hc⟩ := strs_rd (unhide HV) (by omega)
        cases he
        have c1 := hc i hil
        have hil' : (i : Int) < (W.length : Int) := by omega
        obtain ⟨y, hy⟩ : ∃ y, nthS W i = y := ⟨_, rfl⟩
        rw [hy] at c1 HM
        have HB := hide (str_beqF y x)
        have CN1 := hide (fun V => (unhide CN) y V)
        clear hc hy CN
        by_cases hyx : y = x
        · have hb : (y.toList == x.toList) = true := by rw [unhide HB]; exact decide_eq_true hyx
          have HE : Hid (hw W x = true) := hide (by rw [unhide HM]; exact decide_eq_true ⟨hil, hyx⟩)
          clear hyx HM HB
          go_wp2
          go_ret2
          exact ⟨i, unhide HL, by rw [unhide HE]; rfl, rfl⟩
        · have hb : (y.toList == x.toList) = false := by rw [unhide HB]; exact decide_eq_false hyx
          have HE : Hid (hw W x = false) := hide (by rw [unhide HM]; exact decide_eq_false (fun h => hyx h.2))
          clear hyx HM HB
          go_wp2_with (go_at_call 48; refine ((unhide CN1) _).mono ?_; rintro e w' ⟨rfl, hx⟩; obtain rfl := hx.symm; clear hx)
          go_ret2
          exact ⟨i, unhide HL, by rw [unhide HE]; rfl, rfl⟩
      · have hil' : ¬ (i : Int) < (W.length : Int) := by omega
        have HE : Hid (hw W x = false) := hide (by rw [unhide HM]; exact decide_eq_false (fun h => hil h.1))
        clear HM
        go_wp2
        go_ret2
        exact ⟨i, unhide HL, by rw [unhide HE]; rfl, rfl⟩
set_option maxRecDepth 100000 in
set_option maxHeartbeats 4000000 in
theorem lwS (v : Value) (W : List ByteArray) (x : ByteArray) (w : World) (hv : StrsAt w v W) (hW : Wr W) :
    Calls Tryd.prog 38 #[v, .string x] w fun e w' => e = .returned (.bool (hw W x)) ∧ w' = w := by
  have HV := hide hv
  have HW := hide hW
  have hfew := hW.few
  obtain ⟨a, cap, rfl, _⟩ := hv
  clear hW
  go_enter Tryd.func38, Tryd.ntmps38
  go_wp2
  go_loopw [5, 6] (fun x1 x2 wr => ∃ i j : Nat, x1 = .int .i64 (i : Int) ∧ x2 = .int .i64 (j : Int) ∧ i ≤ j ∧ j ≤ W.length ∧ Hid ((∀ k, k < i → lsB (nthS W k) x = true) ∧ ∀ k, j ≤ k → k < W.length → lsB (nthS W k) x = false) ∧ wr = w) (fun x1 x2 _ => (intOf x2).toNat - (intOf x1).toNat)
  case atStart => exact ⟨0, W.length, rfl, rfl, by omega, by omega, hide ⟨fun k hk => absurd hk (by omega), fun k h1 h2 => absurd h2 (by omega)⟩, rfl⟩
  case round =>
    obtain ⟨i, j, rfl, rfl, hij, hj, HH, rfl⟩ := hrel
    by_cases hlt : i < j
    · obtain ⟨b, off, cp, he, hbs, hc⟩ := strs_rd (unhide HV) (by omega)
      cases he
      have hlt' : (i : Int) < (j : Int) := by omega
      obtain ⟨m, hm⟩ : ∃ m, (i + j) / 2 = m := ⟨_, rfl⟩
      have hmj : m < W.length := by omega
      have c1 := hc m hmj
      obtain ⟨y, hy⟩ : ∃ y, nthS W m = y := ⟨_, rfl⟩
      rw [hy] at c1
      have HLO : Hid (lsB y x = true → (∀ k, k < m + 1 → lsB (nthS W k) x = true)) := hide (fun h k hk => ls_mono (unhide HW) (show k ≤ m by omega) hmj (by rw [hy]; exact h))
      have HHI : Hid (lsB y x = false → ∀ k, m ≤ k → k < W.length → lsB (nthS W k) x = false) := hide (fun h k h1 h2 => by
        cases e : lsB (nthS W k) x with
        | false => rfl
        | true => rw [← hy, ls_mono (unhide HW) h1 h2 e] at h; cases h)
      have hsh : ((i : Int) + (j : Int)).tdiv 2 = (m : Int) := by
        rw [show (i : Int) + (j : Int) = ((i + j : Nat) : Int) by omega]
        rw [Int.tdiv_eq_ediv_of_nonneg (by omega)]
        omega
      have hw1 : IntKind.i64.wrap ((i : Int) + (j : Int)) = (i : Int) + (j : Int) := by rw [show (i : Int) + (j : Int) = ((i + j : Nat) : Int) by omega]; exact wrapN (i + j) (by omega)
      have hw3 : IntKind.i64.wrap (m : Int) = (m : Int) := wrapN m (by omega)
      have hm0 : (0 : Int) ≤ (m : Int) := by omega
      have hmj' : (m : Int) < (W.length : Int) := by omega
      clear hc hy
      have hL : Op.bytesLess y.toList x.toList = lsB y x := rfl
      generalize hD : lsB y x = D at *
      clear hD
      cases D
      · have HH2 := hide (And.intro (unhide HH).1 ((unhide HHI) rfl))
        go_wp2
        go_roundw
        case rel => exact ⟨i, m, rfl, by first | rfl | go_num, by omega, by omega, HH2, by first | trivial | rfl⟩
        case measure => simp [intOf]; omega
      · have HH2 := hide (And.intro ((unhide HLO) rfl) (unhide HH).2)
        go_wp2
        go_roundw
        case rel => exact ⟨m + 1, j, by go_num, rfl, by omega, by omega, HH2, by first | trivial | rfl⟩
        case measure => simp [intOf]; omega
    · obtain rfl : i = j := by omega
      have hge : ¬ (i : Int) < (i : Int) := by omega
      have HL : Hid (Lb W x i) := hide ⟨hj, (unhide HH).1, (unhide HH).2⟩
      have HM := hide (lb_mem (unhide HW) (unhide HL))
      clear hlt
      have hU : undef = Value.tuple #[] := rfl
      by_cases hil : i < W.length
      · obtain ⟨b, off, cp, he, hbs, hc⟩ := strs_rd (unhide HV) (by omega)
        cases he
        have c1 := hc i hil
        have hil' : (i : Int) < (W.length : Int) := by omega
        obtain ⟨y, hy⟩ : ∃ y, nthS W i = y := ⟨_, rfl⟩
        rw [hy] at c1 HM
        have HB : Hid ((y.toList == x.toList) = hw W x) := hide (by rw [str_beqF, unhide HM]; exact decide_eq_decide.2 ⟨fun h => ⟨hil, h⟩, fun h => h.2⟩)
        clear hc hy HM
        go_wp2
        go_ret
        exact ⟨by rw [← unhide HB]; rfl, rfl⟩
      · have hil' : ¬ (i : Int) < (W.length : Int) := by omega
        have HE : Hid (hw W x = false) := hide (by rw [unhide HM]; exact decide_eq_false (fun h => hil h.1))
        clear HM
        go_wp2
        go_ret
        exact ⟨by rw [unhide HE]; rfl, rfl⟩
end Fw
end Go.Proofs.YtjcgchmncgihbaaDoor
/- The ends of the words that begin at a place, as the program tells them. -/
namespace Go.Proofs.YtjcgchmncgihbaaDoor
namespace Fw
open Go.RowKit
open Wd (lsB)
set_option linter.unusedVariables false
theorem info3 : (Tryd.prog.info? 3).map (fun i => (i.zero, i.size, i.bytes)) = some (some (.int .i64 0), 1, 8) := by kernel_rfl
/-- The ends of words, in bytes. -/
def eL (s : ByteArray) (W : List ByteArray) (a k : Nat) : List Int := (ek (qq s W a) k).map fun j => ((a + 3 * j : Nat) : Int)
theorem eL_yes {s : ByteArray} {W : List ByteArray} {a k : Nat} (h : qq s W a (k + 1) = true) : eL s W a (k + 1) = eL s W a k ++ [((a + 3 * (k + 1) : Nat) : Int)] := by
  unfold eL
  rw [show ek (qq s W a) (k + 1) = ek (qq s W a) k ++ [k + 1] by show ek (qq s W a) k ++ _ = _; rw [if_pos h], List.map_append]
  rfl
theorem eL_no {s : ByteArray} {W : List ByteArray} {a k : Nat} (h : qq s W a (k + 1) = false) : eL s W a (k + 1) = eL s W a k := by
  unfold eL
  rw [show ek (qq s W a) (k + 1) = ek (qq s W a) k by show ek (qq s W a) k ++ _ = _; rw [if_neg (by rw [h]; simp), List.append_nil]]
theorem eL_len (s : ByteArray) (W : List ByteArray) (a k : Nat) : (eL s W a k).length ≤ k := by
  unfold eL
  rw [List.length_map]
  exact ek_len _ _
set_option maxRecDepth 100000 in
set_option maxHeartbeats 8000000 in
theorem wordEnds_any (v : Value) (W : List ByteArray) (s : ByteArray) (a : Nat) (w : World) (hv : StrsAt w v W) (hW : Wr W) (hs : s.size ≤ 65536) (ha : a ≤ s.size) :
    Calls Tryd.prog 37 #[v, .string s, .int .i64 (a : Int)] w fun e w' => ∃ v', e = .returned v' ∧ w'.ownsRow w.heap.size 3 1 v' (eL s W a 60).length ((eL s W a 60).map (Value.int .i64)) ∧ Below w.heap.size w w' := by
  obtain ⟨i0, hi, hz0, hz1, hz2⟩ := info_parts info3
  have HV := hide hv
  have HW := hide hW
  have hfew := hW.few
  have CB := hide (fun x V h => bsS v W x V h hW)
  obtain ⟨av, cap, rfl, _⟩ := hv
  have HEND : Hid (∀ K, (∀ k, K < k → qq s W a k = false) → eL s W a 60 = eL s W a K) := hide (fun K h => by unfold eL; rw [ek_end (fun k hk => qq_far hW hk) h])
  clear hW
  have HO0 : Hid (w.ownsRow w.heap.size 3 1 (.slice none 0 0) (eL s W a 0).length ((eL s W a 0).map (Value.int .i64))) := hide (World.ownsRow_nil _ _ _ _)
  go_enter Tryd.func37, Tryd.ntmps37
  go_wp2
  go_loopw [7, 8] (fun v' x wr => ∃ k : Nat, x = .int .i64 ((a + 3 * (k + 1) : Nat) : Int) ∧ a + 3 * k ≤ s.size ∧ Hid (wr.ownsRow w.heap.size 3 1 v' (eL s W a k).length ((eL s W a k).map (Value.int .i64))) ∧ Hid (Below w.heap.size w wr)) (fun _ x _ => s.size + 3 - (intOf x).toNat)
  case atStart => exact ⟨0, by go_num, by omega, HO0, hide (Below.refl _ _)⟩
  case round =>
    obtain ⟨k, rfl, hk, HO, HB⟩ := hrel
    clear HO0
    have hBs := (unhide HB).size
    have hel := eL_len s W a k
    obtain ⟨z, hz⟩ : ∃ z, a + 3 * (k + 1) = z := ⟨_, rfl⟩
    rw [hz]
    by_cases hend : z ≤ s.size
    · have hend' : (z : Int) ≤ (s.size : Int) := by omega
      have haz : (a : Int) ≤ (z : Int) := by omega
      have HQ : Hid (qq s W a (k + 1) = hw W (s.extract a z)) := hide (by unfold qq; rw [hz, decide_eq_true hend, Bool.true_and])
      have HY := hide (fun h => @eL_yes s W a k h)
      rw [hz] at HY
      have HN := hide (fun h => @eL_no s W a k h)
      have HNO : Hid (∀ i, Lb W (s.extract a z) i → (i = W.length ∨ hpf (nthS W i) (s.extract a z) = false) → ∀ j, k + 1 < j → qq s W a j = false) := hide (fun i hl hc j hj => by
        cases e : qq s W a j with
        | false => rfl
        | true =>
          unfold qq at e
          rw [Bool.and_eq_true, hw_iff] at e
          obtain ⟨q1, q2⟩ := lb_pre (unhide HW) hl e.2 (ext_pre (show z ≤ a + 3 * j by omega))
          rcases hc with h1 | h1
          · omega
          · rw [hpf_pre q2] at h1; cases h1)
      have HSAME : Hid (∀ i, Lb W (s.extract a z) i → hw W (s.extract a z) = true → i < W.length ∧ hpf (nthS W i) (s.extract a z) = true) := hide (fun i hl h => by
        rw [lb_mem (unhide HW) hl, decide_eq_true_eq] at h
        exact ⟨h.1, by rw [h.2]; exact hpf_pre (List.prefix_refl _)⟩)
      obtain ⟨x, hx⟩ : ∃ x, s.extract a z = x := ⟨_, rfl⟩
      rw [hx] at HQ HNO HSAME
      have CB1 := hide (fun V h => (unhide CB) x V h)
      generalize hD : hw W x = D at *
      have HZ := hide hz
      have hz3 : (z : Int) + 3 = ((z + 3 : Nat) : Int) := by omega
      have hwz : IntKind.i64.wrap ((z : Int) + 3) = (z : Int) + 3 := by rw [hz3]; exact wrapN (z + 3) (by omega)
      have HR3 : Hid ((z + 3 : Nat) = a + 3 * (k + 1 + 1)) := hide (by omega)
      clear hz hD hz3
      cases D
      · have HE := hide ((unhide HN) (unhide HQ))
        go_upto_region 9 with (go_at_call 43; refine ((unhide CB1) _ ((unhide HV).below (unhide HB))).mono ?_; rintro e w' ⟨i, hl, rfl, hw'⟩; obtain rfl := hw'.symm; clear hw'; have HL := hide hl; have hile := hl.le; clear hl)
        by_cases hil : i < W.length
        · obtain ⟨b, off, cp, he, hbs, hc⟩ := strs_rd (unhide HV) (by omega)
          cases he
          have c1 := ((unhide HB).cell (p := ⟨b, off + i, none⟩) hbs).trans (hc i hil)
          have hil' : (i : Int) < (W.length : Int) := by omega
          have hne : ((i : Int) == (W.length : Int)) = false := by simp; omega
          obtain ⟨y, hy⟩ : ∃ y, nthS W i = y := ⟨_, rfl⟩
          have HNO1 := hide ((unhide HNO) i (unhide HL))
          rw [hy] at c1 HNO1
          have CH := hide (fun V => hpfS y x V)
          generalize hP : hpf y x = P at *
          clear hc hy hP
          cases P
          · have HF := hide ((unhide HEND) (k + 1) ((unhide HNO1) (.inr rfl)))
            go_wp2_with (go_at_call 44; refine ((unhide CH) _).mono ?_; rintro e w' ⟨rfl, hx⟩; obtain rfl := hx.symm; clear hx)
            go_ret
            exact ⟨_, rfl, by rw [unhide HF, unhide HE]; exact unhide HO, unhide HB⟩
          · go_wp2_with (go_at_call 44; refine ((unhide CH) _).mono ?_; rintro e w' ⟨rfl, hx⟩; obtain rfl := hx.symm; clear hx)
            go_roundw
            case rel => exact ⟨k + 1, by rw [← unhide HR3]; go_num, by have := unhide HZ; omega, hide (by rw [unhide HE]; exact unhide HO), HB⟩
            case measure => simp [intOf]; omega
        · have hiw : i = W.length := by omega
          have HF := hide ((unhide HEND) (k + 1) ((unhide HNO) i (unhide HL) (.inl hiw)))
          have hne : ((i : Int) == (W.length : Int)) = true := by simp; omega
          clear hiw
          go_wp2
          go_ret
          exact ⟨_, rfl, by rw [unhide HF, unhide HE]; exact unhide HO, unhide HB⟩
      · have HE := hide ((unhide HY) (unhide HQ))
        obtain ⟨m, hm⟩ : ∃ m, (eL s W a k).length = m := ⟨_, rfl⟩
        rw [hm] at HO hel
        have HM := hide hm
        clear hm
        go_upto_region 9 with (first
          | (go_at_call 43; refine ((unhide CB1) _ ((unhide HV).below (unhide HB))).mono ?_; rintro e w' ⟨i, hl, rfl, hw'⟩; obtain rfl := hw'.symm; clear hw'; have HL := hide hl; have hile := hl.le; clear hl)
          | (at_builtin; refine wpList_append_own _ rfl _ _ 50 rfl w.heap.size 3 i0 (.int .i64 0) 1 8 Tryd.underlying50 hi hz0 hz1 hz2 rfl (by decide) _ _ _ rfl (ownG_alloc (unhide HO) _) ⟨wr.heap.size, 0, none⟩ 1 1 [.int .i64 (z : Int)] rfl rfl ?c1 ?c2 ?c3 ?c4 ?c5 ?_; rotate_left 5; intro v' w4 hown' hgrow hne))
        case c1 => exact cell_one_new _ _ _
        case c2 => first | rfl | (intro u hu; simp at hu; subst hu; rfl)
        case c3 => first | omega | (unfold maxLen; omega)
        case c4 => omega
        case c5 => first | omega | (simp; omega)
        have O4 : Hid (w4.ownsRow w.heap.size 3 1 v' (eL s W a (k + 1)).length ((eL s W a (k + 1)).map (Value.int .i64))) := hide (by rw [unhide HE, List.map_append, List.length_append, unhide HM]; exact hown')
        have B4 : Hid (Below w.heap.size w w4) := hide (((unhide HB).alloc (by omega) _).grown hgrow (by simp; omega) (fun m hm => ((unhide HO).lt m hm).1))
        clear hown' hgrow
        obtain ⟨hil, hpt⟩ := (unhide HSAME) i (unhide HL) (by first | rfl | trivial)
        obtain ⟨b, off, cp, he, hbs, hc⟩ := strs_rd (unhide HV) (by omega)
        cases he
        have c1 := ((unhide B4).cell (p := ⟨b, off + i, none⟩) hbs).trans (hc i hil)
        have hil' : (i : Int) < (W.length : Int) := by omega
        have hne2 : ((i : Int) == (W.length : Int)) = false := by simp; omega
        obtain ⟨y, hy⟩ : ∃ y, nthS W i = y := ⟨_, rfl⟩
        rw [hy] at c1 hpt
        have CH := hide (fun V => hpfS y x V)
        rw [hpt] at CH
        clear hc hy hpt
        go_wp2_with (go_at_call 44; refine ((unhide CH) _).mono ?_; rintro e w' ⟨rfl, hx⟩; obtain rfl := hx.symm; clear hx)
        go_roundw
        case rel => exact ⟨k + 1, by rw [← unhide HR3]; go_num, by have := unhide HZ; omega, O4, B4⟩
        case measure => simp [intOf]; omega
    · have hend' : ¬ (z : Int) ≤ (s.size : Int) := by omega
      have HF := hide ((unhide HEND) k (fun j hj => by unfold qq; rw [decide_eq_false (by omega)]; rfl))
      go_wp2
      go_ret
      exact ⟨_, rfl, by rw [unhide HF]; exact unhide HO, unhide HB⟩
end Fw
end Go.Proofs.YtjcgchmncgihbaaDoor
/- What the cut of a text into the fewest words is: its pieces are the text, each is a word or one point, and what is left is cut as it was. In plain numbers. -/
namespace Go.Proofs.YtjcgchmncgihbaaDoor
namespace Fw
open Go.RowKit
set_option linter.unusedVariables false
theorem ext_list (s : ByteArray) (a b : Nat) : (s.extract a b).data.toList = (s.data.toList.take b).drop a := by
  have e : (s.extract a b).data = s.data.extract a b := by simp [ByteArray.data_extract]
  rw [e, Array.toList_extract, List.extract_eq_take_drop, List.take_drop]
  by_cases h : a ≤ b
  · rw [show a + (b - a) = b by omega]
  · rw [show a + (b - a) = a by omega, List.drop_take_self]
    rw [List.drop_eq_nil_of_le (by rw [List.length_take]; omega)]
theorem pl_mono (s : ByteArray) (a b : Nat) : pl s a ≤ pl s (a + b) := steps_pos s a b
/-- The pieces, one behind the other. -/
theorem join_pcI (s : ByteArray) : ∀ (L : List Nat) (i : Nat), ((pcI s i L).map fun x => x.data.toList).flatten = (s.data.toList.take (pl s (i + L.sum))).drop (pl s i)
  | [], i => by
    simp only [pcI, List.map_nil, List.flatten_nil, List.sum_nil, Nat.add_zero]
    rw [List.drop_eq_nil_of_le (by rw [List.length_take]; omega)]
  | f :: r, i => by
    have ih := join_pcI s r (i + f)
    simp only [pcI, List.map_cons, List.flatten_cons, ih, ext_list, List.sum_cons]
    have h1 := pl_mono s i f
    have h2 := pl_mono s (i + f) r.sum
    rw [show i + f + r.sum = i + (f + r.sum) by omega] at h2 ⊢
    have e1 : (s.data.toList.take (pl s (i + f))) = (s.data.toList.take (pl s (i + (f + r.sum)))).take (pl s (i + f)) := by rw [List.take_take, Nat.min_eq_left h2]
    rw [e1]
    generalize s.data.toList.take (pl s (i + (f + r.sum))) = T
    have e2 : T.drop (pl s i) = (T.take (pl s (i + f))).drop (pl s i) ++ T.drop (pl s (i + f)) := by
      conv => lhs; rw [← List.take_append_drop (pl s (i + f)) T]
      rw [List.drop_append]
      congr 1
      by_cases h3 : pl s (i + f) ≤ T.length
      · rw [List.length_take, Nat.min_eq_left h3, show pl s i - pl s (i + f) = 0 by omega, List.drop_zero]
      · rw [List.drop_eq_nil_of_le (show T.length ≤ pl s (i + f) by omega), List.drop_nil]
    rw [e2]
theorem join_all (W : List ByteArray) (s : ByteArray) : ((pcI s 0 (fsL W s)).map fun x => x.data.toList).flatten = s.data.toList := by
  rw [join_pcI, Nat.zero_add, (fsL_ok W s).1, pl_end]
  have : pl s 0 = 0 := rfl
  rw [this, List.drop_zero, List.take_of_length_le (by simp)]
/-- What is best is a word, or one point. -/
theorem bk_word (c : Nat → Nat) (q : Nat → Bool) (K : Nat) : (bk c q K).2 = 1 ∨ q (bk c q K).2 = true := by
  induction K with
  | zero => exact .inl rfl
  | succ K ih =>
    unfold bk
    split
    · rename_i h; exact .inr h.1
    · exact ih
theorem be_word (q : Nat → Nat → Bool) {n i : Nat} (h : i < n) : (be q n i).2 = 1 ∨ q i (be q n i).2 = true := by
  rw [be_at q h]
  exact bk_word _ _ _
/-- A piece of the cut. -/
theorem pcI_piece (s : ByteArray) (W : List ByteArray) : ∀ (k i : Nat), i ≤ (pts s).length → (pts s).length - i ≤ k → ∀ x ∈ pcI s i (wk (fun i => (be (iw s W) (pts s).length i).2) (pts s).length k i), ∃ j f, j < (pts s).length ∧ j + f ≤ (pts s).length ∧ 1 ≤ f ∧ x = s.extract (pl s j) (pl s (j + f)) ∧ (f = 1 ∨ hw W x = true)
  | 0, i, _, _, x, hx => by simp [wk, pcI] at hx
  | k + 1, i, h1, h2, x, hx => by
    by_cases h : i < (pts s).length
    · have e : wk (fun i => (be (iw s W) (pts s).length i).2) (pts s).length (k + 1) i = (be (iw s W) (pts s).length i).2 :: wk (fun i => (be (iw s W) (pts s).length i).2) (pts s).length k (i + (be (iw s W) (pts s).length i).2) := by simp [wk, h]
      rw [e] at hx
      have hb := be_first (iw s W) h
      rcases List.mem_cons.1 hx with rfl | hx
      · refine ⟨i, _, h, hb.2, hb.1, rfl, ?_⟩
        rcases be_word (iw s W) h with h' | h'
        · exact .inl h'
        · exact .inr h'
      · exact pcI_piece s W k _ hb.2 (by omega) x hx
    · have e : wk (fun i => (be (iw s W) (pts s).length i).2) (pts s).length (k + 1) i = [] := by simp [wk, h]
      rw [e] at hx
      simp [pcI] at hx
theorem piece_ok {s : ByteArray} {W : List ByteArray} {x : ByteArray} (hx : x ∈ pcI s 0 (fsL W s)) : (hw W x = true ∨ (pts x).length = 1) ∧ 0 < x.size ∧ x.size ≤ s.size := by
  obtain ⟨j, f, h1, h2, h3, rfl, h4⟩ := pcI_piece s W (pts s).length 0 (Nat.zero_le _) (by omega) x hx
  have hp := pts_piece s j (j + f) (by omega) h2
  have hl := pl_lt (s := s) (show j < j + f by omega) h2
  have hle := pl_le s (j + f)
  refine ⟨?_, by rw [ByteArray.size_extract]; omega, by rw [ByteArray.size_extract]; omega⟩
  rcases h4 with rfl | h4
  · right
    show (pts (s.extract (steps s j).2 (steps s (j + 1)).2)).length = 1
    rw [hp]
    simp
    omega
  · exact .inl h4
/-- What is left behind a point, and its places. -/
theorem rest_pl {s : ByteArray} {a : Nat} (ha : a ≤ (pts s).length) : ∀ k, a + k ≤ (pts s).length → pl (s.extract (pl s a) s.size) k = pl s (a + k) - pl s a := fun k hk => by
  have h := steps_piece s a (pts s).length (Nat.le_refl _) k hk
  have e : (steps s (pts s).length).2 = s.size := pl_end s
  rw [e] at h
  show (steps (s.extract (steps s a).2 s.size) k).2 = _
  rw [h]
  rfl
theorem rest_pts {s : ByteArray} {a : Nat} (ha : a ≤ (pts s).length) : (pts (s.extract (pl s a) s.size)).length = (pts s).length - a := by
  have h := pts_piece s a (pts s).length ha (Nat.le_refl _)
  have e : (steps s (pts s).length).2 = s.size := pl_end s
  rw [e] at h
  show (pts (s.extract (steps s a).2 s.size)).length = _
  rw [h]
  simp
theorem ext_ext (s : ByteArray) (a c d : Nat) (hd : a + d ≤ s.size) : (s.extract a s.size).extract c d = s.extract (a + c) (a + d) := by
  apply ByteArray.ext
  apply Array.toList_inj.1
  rw [ext_list, ext_list, ext_list]
  rw [List.take_of_length_le (show s.data.toList.length ≤ s.size by simp), List.take_drop, List.drop_drop]
theorem rest_iw {s : ByteArray} {W : List ByteArray} {a : Nat} (ha : a ≤ (pts s).length) {i k : Nat} (h : a + (i + k) ≤ (pts s).length) : iw (s.extract (pl s a) s.size) W i k = iw s W (a + i) k := by
  unfold iw
  have h1 := rest_pl ha i (by omega)
  have h2 := rest_pl ha (i + k) h
  have h3 := pl_mono s a i
  have h4 := pl_mono s a (i + k)
  have h5 := pl_le s (a + (i + k))
  rw [h1, h2, ext_ext s _ _ _ (by omega), show pl s a + (pl s (a + i) - pl s a) = pl s (a + i) by omega, show pl s a + (pl s (a + (i + k)) - pl s a) = pl s (a + i + k) by rw [show a + (i + k) = a + i + k by omega] at h4 ⊢; omega]
theorem rest_be {s : ByteArray} {W : List ByteArray} {a : Nat} (ha : a ≤ (pts s).length) : ∀ m i, (pts s).length - a - i = m → i ≤ (pts s).length - a → be (iw (s.extract (pl s a) s.size) W) ((pts s).length - a) i = be (iw s W) (pts s).length (a + i) := by
  intro m
  induction m using Nat.strongRecOn with
  | _ m ih =>
    intro i hm hi
    by_cases h : i < (pts s).length - a
    · rw [be_at _ h, be_at _ (show a + i < (pts s).length by omega), show (pts s).length - a - i = (pts s).length - (a + i) by omega]
      refine bk_same ?_ (fun k h1 h2 => ⟨rest_iw ha (by omega), fun _ => ?_⟩)
      · have := ih ((pts s).length - a - (i + 1)) (by omega) (i + 1) rfl (by omega)
        rw [this, show a + (i + 1) = a + i + 1 by omega]
      · have := ih ((pts s).length - a - (i + k)) (by omega) (i + k) rfl (by omega)
        rw [this, show a + (i + k) = a + i + k by omega]
    · obtain rfl : i = (pts s).length - a := by omega
      rw [be_end, show a + ((pts s).length - a) = (pts s).length by omega, be_end]
theorem rest_wk {s : ByteArray} {W : List ByteArray} {a : Nat} (ha : a ≤ (pts s).length) : ∀ k k' i, i ≤ (pts s).length - a → (pts s).length - a - i ≤ k → (pts s).length - (a + i) ≤ k' →
    wk (fun i => (be (iw (s.extract (pl s a) s.size) W) ((pts s).length - a) i).2) ((pts s).length - a) k i = wk (fun i => (be (iw s W) (pts s).length i).2) (pts s).length k' (a + i) := by
  intro k
  induction k with
  | zero =>
    intro k' i h1 h2 h3
    obtain rfl : i = (pts s).length - a := by omega
    rw [show a + ((pts s).length - a) = (pts s).length by omega, wk_end, wk_end]
  | succ k ih =>
    intro k' i h1 h2 h3
    by_cases h : i < (pts s).length - a
    · obtain ⟨k2, rfl, e2⟩ := wk_at (f := fun i => (be (iw s W) (pts s).length i).2) (n := (pts s).length) (k := k') (i := a + i) (by omega) h3
      obtain ⟨k1, e1', e1⟩ := wk_at (f := fun i => (be (iw (s.extract (pl s a) s.size) W) ((pts s).length - a) i).2) (n := (pts s).length - a) (k := k + 1) (i := i) h h2
      obtain rfl : k = k1 := by omega
      rw [e1, e2]
      have hb := rest_be (W := W) ha _ i rfl h1
      have hf := be_first (iw s W) (show a + i < (pts s).length by omega)
      rw [hb]
      congr 1
      rw [ih k2 (i + (be (iw s W) (pts s).length (a + i)).2) (by omega) (by omega) (by omega), show a + (i + (be (iw s W) (pts s).length (a + i)).2) = a + i + (be (iw s W) (pts s).length (a + i)).2 by omega]
    · obtain rfl : i = (pts s).length - a := by omega
      rw [wk_end, show a + ((pts s).length - a) = (pts s).length by omega, wk_end]
theorem rest_pcI {s : ByteArray} {a : Nat} (ha : a ≤ (pts s).length) : ∀ (L : List Nat) (i : Nat), a + (i + L.sum) ≤ (pts s).length → pcI (s.extract (pl s a) s.size) i L = pcI s (a + i) L
  | [], i, _ => rfl
  | f :: r, i, h => by
    simp only [List.sum_cons] at h
    have ih := rest_pcI ha r (i + f) (by omega)
    simp only [pcI, ih]
    have h1 := rest_pl ha i (by omega)
    have h2 := rest_pl ha (i + f) (by omega)
    have h3 := pl_mono s a i
    have h4 := pl_mono s a (i + f)
    have h5 := pl_le s (a + (i + f))
    rw [h1, h2, ext_ext s _ _ _ (by omega), show pl s a + (pl s (a + i) - pl s a) = pl s (a + i) by omega, show pl s a + (pl s (a + (i + f)) - pl s a) = pl s (a + i + f) by rw [show a + (i + f) = a + i + f by omega] at h4 ⊢; omega, show a + (i + f) = a + i + f by omega]
/-- The cut of what is left behind the first piece is the rest of the cut. -/
theorem rest_cut {W : List ByteArray} {s x : ByteArray} {r : List ByteArray} (h : pcI s 0 (fsL W s) = x :: r) : pcI (s.extract x.size s.size) 0 (fsL W (s.extract x.size s.size)) = r := by
  by_cases h0 : 0 < (pts s).length
  · obtain ⟨k, hk, e⟩ := wk_at (f := fun i => (be (iw s W) (pts s).length i).2) (n := (pts s).length) (k := (pts s).length) (i := 0) h0 (by omega)
    have hb := be_first (iw s W) h0
    have e' : fsL W s = (be (iw s W) (pts s).length 0).2 :: wk (fun i => (be (iw s W) (pts s).length i).2) (pts s).length k (0 + (be (iw s W) (pts s).length 0).2) := e
    rw [e'] at h
    simp only [pcI] at h
    obtain ⟨rfl, rfl⟩ := List.cons.inj h
    generalize (be (iw s W) (pts s).length 0).2 = a at *
    have hp0 : pl s 0 = 0 := rfl
    have hle := pl_le s (0 + a)
    have hsz : (s.extract (pl s 0) (pl s (0 + a))).size = pl s a := by rw [ByteArray.size_extract, hp0, Nat.zero_add]; rw [Nat.zero_add] at hle; omega
    rw [hsz]
    have ha : a ≤ (pts s).length := by omega
    unfold fsL
    rw [rest_pts ha, rest_wk ha ((pts s).length - a) k 0 (by omega) (by omega) (by omega)]
    have hs := wk_sum (f := fun i => (be (iw s W) (pts s).length i).2) (n := (pts s).length) (fun i hi => be_first _ hi) k (a + 0) (by omega) (by omega)
    rw [rest_pcI ha _ 0 (by omega), Nat.zero_add, Nat.add_zero]
  · have e : fsL W s = [] := by
      have := (fsL_ok W s).2
      exact List.eq_nil_of_length_eq_zero (by omega)
    rw [e] at h
    simp [pcI] at h
end Fw
end Go.Proofs.YtjcgchmncgihbaaDoor
