/- Words in order, and which pieces of a text are words: in plain numbers. -/
import Derived.Test.YtlpgndmojpnpdaaDoorFwP
import Derived.Test.YtlpgndmojpnpdaaDoorWfP
import Derived.Test.YtlpgndmojpnpdaaDoorStrC
import Derived.Test.YtlpgndmojpnpdaaDoorWelQ
namespace Go.Proofs.YtlpgndmojpnpdaaDoor
namespace Fw
open Go.RowKit
open Wd (lsB wrd allP wfl wfk)
theorem bl_irr : ∀ x : List UInt8, Op.bytesLess x x = false
  | [] => rfl
  | a :: x => by simp [Op.bytesLess, bl_irr x]
theorem bl_trans : ∀ {x y z : List UInt8}, Op.bytesLess x y = true → Op.bytesLess y z = true → Op.bytesLess x z = true
  | _, [], _, h, _ => by simp [Op.bytesLess] at h
  | _, _ :: _, [], _, h => by simp [Op.bytesLess] at h
  | [], _ :: _, _ :: _, _, _ => rfl
  | a :: x, b :: y, c :: z, h1, h2 => by
    simp only [Op.bytesLess, Bool.or_eq_true, decide_eq_true_eq, Bool.and_eq_true, beq_iff_eq] at h1 h2 ⊢
    rcases h1 with h1 | ⟨rfl, h1⟩
    · rcases h2 with h2 | ⟨rfl, h2⟩
      · exact .inl (UInt8.lt_trans h1 h2)
      · exact .inl h1
    · rcases h2 with h2 | ⟨rfl, h2⟩
      · exact .inl h2
      · exact .inr ⟨rfl, bl_trans h1 h2⟩
/-- What begins another one is not above it. -/
theorem bl_pre : ∀ {a c : List UInt8}, a <+: c → Op.bytesLess c a = false
  | [], _, _ => by cases ‹List UInt8› <;> rfl
  | b :: a, [], h => by simp at h
  | b :: a, d :: c, h => by
    rw [List.cons_prefix_cons] at h
    obtain ⟨rfl, h⟩ := h
    simp [Op.bytesLess, bl_pre h]
/-- What stands between a beginning and the whole begins so, too. -/
theorem bl_mid : ∀ {a b c : List UInt8}, a <+: c → Op.bytesLess b a = false → Op.bytesLess c b = false → a <+: b
  | [], _, _, _, _, _ => List.nil_prefix
  | x :: a, _, [], h, _, _ => by simp at h
  | x :: a, [], y :: c, _, h, _ => by simp [Op.bytesLess] at h
  | x :: a, z :: b, y :: c, h, h1, h2 => by
    rw [List.cons_prefix_cons] at h ⊢
    obtain ⟨rfl, h⟩ := h
    simp only [Op.bytesLess, Bool.or_eq_false_iff, decide_eq_false_iff_not, Bool.and_eq_false_imp, beq_iff_eq] at h1 h2
    have e : x = z := UInt8.le_antisymm (UInt8.not_lt.1 h1.1) (UInt8.not_lt.1 h2.1)
    subst e
    exact ⟨rfl, bl_mid h (h1.2 rfl) (h2.2 rfl)⟩
theorem bl_tri : ∀ {x y : List UInt8}, Op.bytesLess x y = false → Op.bytesLess y x = false → x = y
  | [], [], _, _ => rfl
  | [], _ :: _, h, _ => by simp [Op.bytesLess] at h
  | _ :: _, [], _, h => by simp [Op.bytesLess] at h
  | a :: x, b :: y, h1, h2 => by
    simp only [Op.bytesLess, Bool.or_eq_false_iff, decide_eq_false_iff_not, Bool.and_eq_false_imp, beq_iff_eq] at h1 h2
    have e : a = b := UInt8.le_antisymm (UInt8.not_lt.1 h2.1) (UInt8.not_lt.1 h1.1)
    subst e
    rw [bl_tri (h1.2 rfl) (h2.2 rfl)]
/-- Words that are right. -/
structure Wr (W : List ByteArray) : Prop where
  few : W.length ≤ 1000
  wrd : ∀ k, k < W.length → wrd (nthS W k) = true
  ris : ∀ k, k + 1 < W.length → lsB (nthS W k) (nthS W (k + 1)) = true
theorem wfk_at {W : List ByteArray} : ∀ {n k : Nat}, wfk W n = true → k < n → wfl W k = true
  | 0, k, _, h => absurd h (by omega)
  | n + 1, k, h, hk => by
    cases e : wfl W k with
    | true => rfl
    | false => rw [Wd.wfk_end e hk] at h; cases h
theorem wr_of {W : List ByteArray} (h : Wd.wfc W = 0) : Wr W := by
  unfold Wd.wfc at h
  split at h
  · cases h
  · rename_i h1
    split at h
    · rename_i h2
      refine ⟨by omega, fun k hk => ?_, fun k hk => ?_⟩
      · have := wfk_at h2 hk
        unfold wfl at this
        rw [Bool.and_eq_true] at this
        exact this.1
      · have := wfk_at h2 hk
        unfold wfl at this
        rw [Bool.and_eq_true] at this
        simpa using this.2
    · cases h
theorem wr_up {W : List ByteArray} (h : Wr W) {k : Nat} : ∀ j, k + j + 1 < W.length → lsB (nthS W k) (nthS W (k + j + 1)) = true
  | 0, hj => h.ris k hj
  | j + 1, hj => bl_trans (wr_up h j (by omega)) (h.ris (k + j + 1) hj)
theorem wr_lt {W : List ByteArray} (h : Wr W) {k l : Nat} (hkl : k < l) (hl : l < W.length) : lsB (nthS W k) (nthS W l) = true := by
  obtain ⟨j, rfl⟩ : ∃ j, l = k + j + 1 := ⟨l - k - 1, by omega⟩
  exact wr_up h j hl
/-- A place ahead of which all words are below x, and none from it on. -/
structure Lb (W : List ByteArray) (x : ByteArray) (i : Nat) : Prop where
  le : i ≤ W.length
  lo : ∀ k, k < i → lsB (nthS W k) x = true
  hi : ∀ k, i ≤ k → k < W.length → lsB (nthS W k) x = false
theorem ls_mono {W : List ByteArray} (h : Wr W) {x : ByteArray} {k l : Nat} (hkl : k ≤ l) (hl : l < W.length) (hx : lsB (nthS W l) x = true) : lsB (nthS W k) x = true := by
  rcases Nat.lt_or_eq_of_le hkl with h1 | rfl
  · exact bl_trans (wr_lt h h1 hl) hx
  · exact hx
theorem mem_nth {W : List ByteArray} {x : ByteArray} : x ∈ W ↔ ∃ k, k < W.length ∧ nthS W k = x :=
  ⟨mem_of_nthS, fun ⟨k, hk, e⟩ => by rw [← e]; unfold nthS; rw [List.getD_eq_getElem?_getD, List.getElem?_eq_getElem hk]; exact List.getElem_mem hk⟩
/-- One of words. -/
def hw (W : List ByteArray) (x : ByteArray) : Bool := W.any fun y => decide (y = x)
theorem hw_iff {W : List ByteArray} {x : ByteArray} : hw W x = true ↔ x ∈ W := by
  unfold hw
  rw [List.any_eq_true]
  exact ⟨fun ⟨y, h1, h2⟩ => by rw [← of_decide_eq_true h2]; exact h1, fun h => ⟨x, h, decide_eq_true rfl⟩⟩
theorem hw_no {W : List ByteArray} {x : ByteArray} (h : ¬ x ∈ W) : hw W x = false := by
  cases e : hw W x with
  | false => rfl
  | true => exact absurd (hw_iff.1 e) h
theorem lb_mem {W : List ByteArray} (h : Wr W) {x : ByteArray} {i : Nat} (hl : Lb W x i) : hw W x = decide (i < W.length ∧ nthS W i = x) := by
  refine Bool.eq_iff_iff.2 ?_
  rw [hw_iff, decide_eq_true_eq]
  refine ⟨fun hx => ?_, fun hx => mem_nth.2 ⟨i, hx.1, hx.2⟩⟩
  obtain ⟨k, hk, e⟩ := mem_nth.1 hx
  have h1 : ¬ k < i := fun hki => by
    have := hl.lo k hki
    rw [e] at this
    unfold Wd.lsB at this
    rw [bl_irr] at this
    cases this
  by_cases h2 : k = i
  · subst h2
    exact ⟨hk, e⟩
  · have h3 := wr_lt h (show i < k by omega) hk
    rw [e, hl.hi i (Nat.le_refl _) (by omega)] at h3
    cases h3
/-- A word begins with p. -/
def pre (p x : ByteArray) : Prop := p.toList <+: x.toList
theorem lb_pre {W : List ByteArray} (h : Wr W) {p x : ByteArray} {i : Nat} (hl : Lb W p i) (hx : x ∈ W) (hp : pre p x) : i < W.length ∧ pre p (nthS W i) := by
  obtain ⟨k, hk, rfl⟩ := mem_nth.1 hx
  have h0 : lsB (nthS W k) p = false := bl_pre hp
  have h1 : ¬ k < i := fun hki => by rw [hl.lo k hki] at h0; cases h0
  have hi : i < W.length := by omega
  refine ⟨hi, bl_mid hp (hl.hi i (Nat.le_refl _) hi) ?_⟩
  by_cases e : i = k
  · subst e; exact bl_irr _
  · have h3 := wr_lt h (show i < k by omega) hk
    cases h4 : Op.bytesLess (nthS W k).toList (nthS W i).toList with
    | false => rfl
    | true =>
      have := bl_trans h3 h4
      rw [bl_irr] at this
      cases this
/-- The lengths of words that begin at a place, three bytes a point. -/
def qq (s : ByteArray) (W : List ByteArray) (at_ k : Nat) : Bool := decide (at_ + 3 * k ≤ s.size) && hw W (s.extract at_ (at_ + 3 * k))
def iw (s : ByteArray) (W : List ByteArray) (i k : Nat) : Bool := hw W (s.extract (pl s i) (pl s (i + k)))
theorem wr_mem {W : List ByteArray} (h : Wr W) {x : ByteArray} (hx : x ∈ W) : 0 < x.size ∧ x.size ≤ 180 ∧ allP (pts x) = true := by
  obtain ⟨k, hk, rfl⟩ := mem_nth.1 hx
  have := h.wrd k hk
  rw [Wd.wrd_eq, Bool.and_eq_true, decide_eq_true_eq] at this
  exact ⟨this.1.1, this.1.2, this.2⟩
theorem qq_far {s : ByteArray} {W : List ByteArray} (h : Wr W) {a k : Nat} (hk : 60 < k) : qq s W a k = false := by
  unfold qq
  by_cases h1 : a + 3 * k ≤ s.size
  · rw [decide_eq_true h1, Bool.true_and]
    refine hw_no fun hx => ?_
    have := (wr_mem h hx).2.1
    rw [ByteArray.size_extract] at this
    omega
  · rw [decide_eq_false h1]; rfl
/-- A word's bytes, three a point. -/
theorem three_at {x : ByteArray} (h : allP (pts x) = true) : ∀ j, 3 * j < x.size → (steps x j).2 = 3 * j ∧ bt x (3 * j) = 224 ∧ bt x (3 * j + 1) = 160 ∧ 128 ≤ bt x (3 * j + 2) ∧ bt x (3 * j + 2) ≤ 191
  | 0, h0 => by
    have hp := Wd.allP_at h (Wd.at_in x 0 (show 0 < x.size by omega))
    have hk := Wd.parts_ok h 1 0 (by omega) (show 0 < x.size by omega)
    obtain ⟨e1, e2⟩ := enc_back hk
    have e0 : (steps x 0).2 = 0 := rfl
    rw [e0] at hp hk e1 e2
    rw [Wd.enc3 hp.1 hp.2] at e1
    rw [Lib.encodeRuneZ_three (by omega)] at e2
    have a0 := e2 0 (by omega)
    have a1 := e2 1 (by omega)
    have a2 := e2 2 (by omega)
    simp at a0 a1 a2
    refine ⟨rfl, ?_, ?_, ?_, ?_⟩ <;> simp only [Nat.mul_zero, Nat.zero_add] <;> omega
  | j + 1, hj => by
    have ih := three_at h j (by omega)
    have hp0 := Wd.allP_at h (Wd.at_in x j (by rw [ih.1]; omega))
    have hk0 := Wd.parts_ok h (j + 1) j (by omega) (by rw [ih.1]; omega)
    have hn : dN x (3 * j) = 3 := by
      have := (enc_back hk0).1
      rw [ih.1] at hp0 this
      rw [Wd.enc3 hp0.1 hp0.2] at this
      exact this.symm
    have e0 : (steps x (j + 1)).2 = 3 * (j + 1) := by
      rw [steps_next x j (by rw [ih.1]; omega), ih.1]
      show 3 * j + dN x (3 * j) = _
      omega
    have hp := Wd.allP_at h (Wd.at_in x (j + 1) (by rw [e0]; omega))
    have hk := Wd.parts_ok h (j + 1 + 1) (j + 1) (by omega) (by rw [e0]; omega)
    obtain ⟨e1, e2⟩ := enc_back hk
    rw [e0] at hp hk e1 e2
    rw [Wd.enc3 hp.1 hp.2] at e1
    rw [Lib.encodeRuneZ_three (by omega)] at e2
    have a0 := e2 0 (by omega)
    have a1 := e2 1 (by omega)
    have a2 := e2 2 (by omega)
    simp at a0 a1 a2
    exact ⟨e0, by omega, by omega, by omega, by omega⟩
/-- Where a word stands in a text its points begin three bytes apart. -/
theorem pl_three {s x : ByteArray} {i k : Nat} (hx : allP (pts x) = true) (hk : pl s i + 3 * k ≤ s.size) (e : s.extract (pl s i) (pl s i + 3 * k) = x) : ∀ j, j ≤ k → pl s (i + j) = pl s i + 3 * j
  | 0, _ => rfl
  | j + 1, hj => by
    have ih := pl_three hx hk e j (by omega)
    have hsz : x.size = 3 * k := by rw [← e, ByteArray.size_extract]; omega
    obtain ⟨_, b0, b1, b2, b3⟩ := three_at hx j (by omega)
    rw [← e] at b0 b1 b2 b3
    rw [bt_extract s _ _ _ hk (by omega)] at b0 b1 b2 b3
    have hd : dN s (pl s i + 3 * j) = 3 := by
      unfold dN
      rw [decode_dec, dec_three (by omega) (by omega) (by omega) (by rw [show pl s i + 3 * j + 1 = pl s i + (3 * j + 1) by omega, b1]; omega) (by rw [show pl s i + 3 * j + 1 = pl s i + (3 * j + 1) by omega, b1]; omega) (by rw [show pl s i + 3 * j + 2 = pl s i + (3 * j + 2) by omega]; exact b2) (by rw [show pl s i + 3 * j + 2 = pl s i + (3 * j + 2) by omega]; exact b3)]
      rw [show pl s i + 3 * j + 1 = pl s i + (3 * j + 1) by omega, b0, b1]
      simp
      rw [if_pos (by omega)]
    have := pl_next (s := s) (i := i + j) (by rw [ih]; omega)
    rw [ih, hd] at this
    rw [show i + (j + 1) = i + j + 1 by omega, this]
    omega
theorem word_at {s : ByteArray} {W : List ByteArray} (h : Wr W) {i k : Nat} (hi : i < (pts s).length) (hk : 1 ≤ k) : (qq s W (pl s i) k = true ↔ k ≤ (pts s).length - i ∧ iw s W i k = true) ∧ (qq s W (pl s i) k = true → pl s (i + k) = pl s i + 3 * k) := by
  have key : qq s W (pl s i) k = true → pl s (i + k) = pl s i + 3 * k ∧ k ≤ (pts s).length - i ∧ iw s W i k = true := fun hq => by
    unfold qq at hq
    rw [Bool.and_eq_true, decide_eq_true_eq, hw_iff] at hq
    have hp := pl_three (wr_mem h hq.2).2.2 hq.1 rfl
    have e := hp k (Nat.le_refl _)
    refine ⟨e, ?_, by unfold iw; rw [e]; exact hw_iff.2 hq.2⟩
    by_cases hc : k ≤ (pts s).length - i
    · exact hc
    · have h1 := hp ((pts s).length - i) (by omega)
      rw [show i + ((pts s).length - i) = (pts s).length by omega, pl_end] at h1
      omega
  refine ⟨⟨fun hq => (key hq).2, fun ⟨h1, h2⟩ => ?_⟩, fun hq => (key hq).1⟩
  unfold iw at h2
  rw [hw_iff] at h2
  have h3 := wr_mem h h2
  have hsz := Wd.parts_size h3.2.2
  have hpp : pts (s.extract (pl s i) (pl s (i + k))) = ((pts s).drop i).take (i + k - i) := pts_piece s i (i + k) (by omega) (by omega)
  have hlen : (pts (s.extract (pl s i) (pl s (i + k)))).length = k := by rw [hpp]; simp; omega
  rw [hlen, ByteArray.size_extract] at hsz
  have hle := pl_le s (i + k)
  have e : pl s (i + k) = pl s i + 3 * k := by omega
  unfold qq
  rw [Bool.and_eq_true, decide_eq_true_eq, hw_iff, ← e]
  exact ⟨hle, h2⟩
/-- The lengths of words among the first k. -/
def ek (q : Nat → Bool) : Nat → List Nat
  | 0 => []
  | k + 1 => ek q k ++ (if q (k + 1) = true then [k + 1] else [])
theorem ek_len (q : Nat → Bool) (k : Nat) : (ek q k).length ≤ k := by
  induction k with
  | zero => simp [ek]
  | succ k ih => unfold ek; rw [List.length_append]; split <;> simp <;> omega
theorem ek_mem {q : Nat → Bool} {K k : Nat} (h : k ∈ ek q K) : 1 ≤ k ∧ k ≤ K ∧ q k = true := by
  induction K with
  | zero => cases h
  | succ K ih =>
    unfold ek at h
    rw [List.mem_append] at h
    rcases h with h | h
    · have := ih h; exact ⟨this.1, by omega, this.2.2⟩
    · split at h
      · rename_i hq
        obtain rfl : k = K + 1 := by simpa using h
        exact ⟨by omega, Nat.le_refl _, hq⟩
      · cases h
theorem ek_more {q : Nat → Bool} {K : Nat} (j : Nat) (h : ∀ k, K < k → q k = false) : ek q (K + j) = ek q K := by
  induction j with
  | zero => rfl
  | succ j ih =>
    show ek q (K + j) ++ (if q (K + j + 1) = true then _ else _) = _
    rw [ih, if_neg (by rw [h _ (by omega)]; simp), List.append_nil]
theorem ek_end {q : Nat → Bool} {K L : Nat} (hK : ∀ k, K < k → q k = false) (hL : ∀ k, L < k → q k = false) : ek q K = ek q L := by
  rw [← ek_more (K := K) L hK, ← ek_more (K := L) K hL, Nat.add_comm]
/-- One word more that is tried. -/
def st (c : Nat → Nat) (a : Nat × Nat) (k : Nat) : Nat × Nat := if c k + 2 ≤ a.1 then (c k + 2, k) else a
theorem fold_bk (c : Nat → Nat) (q : Nat → Bool) (K : Nat) : (ek q K).foldl (st c) (c 1 + 3, 1) = bk c q K := by
  induction K with
  | zero => rfl
  | succ K ih =>
    unfold ek bk
    rw [List.foldl_append, ih]
    cases hq : q (K + 1) with
    | false => simp
    | true => simp [st]
/-- The best is what is found among the words that begin there. -/
theorem best_at {s : ByteArray} {W : List ByteArray} (h : Wr W) {i : Nat} (hi : i < (pts s).length) : be (iw s W) (pts s).length i = (ek (qq s W (pl s i)) 60).foldl (st (fun k => (be (iw s W) (pts s).length (i + k)).1)) ((be (iw s W) (pts s).length (i + 1)).1 + 3, 1) := by
  rw [fold_bk (fun k => (be (iw s W) (pts s).length (i + k)).1), be_at _ hi]
  have hm : bk (fun k => (be (iw s W) (pts s).length (i + k)).1) (qq s W (pl s i)) 60 = bk (fun k => (be (iw s W) (pts s).length (i + k)).1) (qq s W (pl s i)) (min 60 ((pts s).length - i)) := by
    obtain ⟨j, hj⟩ : ∃ j, 60 = min 60 ((pts s).length - i) + j := ⟨60 - min 60 ((pts s).length - i), by omega⟩
    conv => lhs; rw [hj]
    refine bk_more j (fun k h1 h2 => ?_)
    cases hq : qq s W (pl s i) k with
    | false => rfl
    | true => have := ((word_at h hi (by omega)).1.1 hq).1; omega
  rw [hm]
  refine bk_same rfl (fun k h1 h2 => ⟨?_, fun _ => rfl⟩)
  have := (word_at (W := W) h hi h1).1
  cases hq : qq s W (pl s i) k with
  | true => exact (this.1 hq).2
  | false =>
    cases hw : iw s W i k with
    | false => rfl
    | true => rw [this.2 ⟨by omega, hw⟩] at hq; cases hq
/-- What FewestWords answers. -/
def fsL (W : List ByteArray) (s : ByteArray) : List Nat := wk (fun i => (be (iw s W) (pts s).length i).2) (pts s).length (pts s).length 0
def fwO (W : List ByteArray) (s : ByteArray) : List ByteArray := if 65536 < s.size ∨ Wd.wfc W ≠ 0 then [] else pcI s 0 (fsL W s)
theorem fsL_ok (W : List ByteArray) (s : ByteArray) : (fsL W s).sum = (pts s).length ∧ (fsL W s).length ≤ (pts s).length := by
  have := wk_sum (f := fun i => (be (iw s W) (pts s).length i).2) (n := (pts s).length) (fun i hi => be_first _ hi) (pts s).length 0 (by omega) (by omega)
  unfold fsL
  omega
theorem fwO_le (W : List ByteArray) (s : ByteArray) : (fwO W s).length ≤ 65536 := by
  unfold fwO
  split
  · simp
  · rename_i h
    rw [pcI_len]
    have := (fsL_ok W s).2
    have := pts_le s
    omega
end Fw
end Go.Proofs.YtlpgndmojpnpdaaDoor
