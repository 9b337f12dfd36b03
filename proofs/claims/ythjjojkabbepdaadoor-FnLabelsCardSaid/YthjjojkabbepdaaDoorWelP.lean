/- Which texts are well written: all their bytes are points'. No walk. -/
import Derived.Test.YthjjojkabbepdaaDoorNRoundW
import Derived.Test.YthjjojkabbepdaaDoorNNextB
import Derived.Lib.ValidLaws
import Derived.Lib.TrimUEq
namespace Go.Proofs.YthjjojkabbepdaaDoor
open Go.RowKit
def vB (s : ByteArray) : Bool := Lib.validD s.data.toList
def okA (s : ByteArray) (u : Nat) : Bool := NB.okB (dP s u) (dN s u)
theorem okA_no {s : ByteArray} {u : Nat} (h : okA s u = true) : ¬ (dP s u = 65533 ∧ dN s u = 1) := by
  intro hh
  have : NB.okB (dP s u : Int) (dN s u : Int) = false := by unfold NB.okB; simp; omega
  unfold okA at h
  rw [this] at h
  cases h
theorem okA_yes {s : ByteArray} {u : Nat} (h : okA s u = false) : dP s u = 65533 ∧ dN s u = 1 := by
  unfold okA NB.okB at h
  simp at h
  omega
theorem valid_at {s : ByteArray} {u : Nat} (hu : u < s.size) : Lib.validD (s.data.toList.drop u) = if okA s u = true then Lib.validD (s.data.toList.drop (u + dN s u)) else false := by
  have hne : s.data.toList.drop u ≠ [] := by
    intro e
    have := congrArg List.length e
    simp at this
    omega
  have hst := Lib.validD_step _ hne
  rw [Lib.decodeL_drop] at hst
  have hP : (Utf8.decode s u).1 = dP s u := rfl
  have hN : (Utf8.decode s u).2 = dN s u := rfl
  rw [hP, hN, List.drop_drop] at hst
  rw [hst]
  cases hok : okA s u with
  | true => rw [if_neg (okA_no hok), if_pos rfl]
  | false => rw [if_pos (okA_yes hok), if_neg (by simp)]
/-- The first n readings are points'. -/
def okTo (s : ByteArray) (n : Nat) : Prop := ∀ k, k < n → (steps s k).2 < s.size → okA s (steps s k).2 = true
theorem okTo_zero (s : ByteArray) : okTo s 0 := fun k hk => absurd hk (by omega)
theorem okTo_succ {s : ByteArray} {n : Nat} (h : okTo s n) (h1 : (steps s n).2 < s.size → okA s (steps s n).2 = true) : okTo s (n + 1) := fun k hk hs => by
  by_cases e : k = n
  · subst e
    exact h1 hs
  · exact h k (by omega) hs
theorem valid_so {s : ByteArray} : ∀ {n : Nat}, okTo s n → Lib.validD (s.data.toList.drop (steps s n).2) = vB s
  | 0, _ => rfl
  | n + 1, h => by
    have ih := valid_so (n := n) (fun k hk hs => h k (by omega) hs)
    unfold steps
    by_cases hs : (steps s n).2 < s.size
    · rw [if_pos hs]
      simp only
      rw [valid_at hs, if_pos (h n (by omega) hs)] at ih
      exact ih
    · rw [if_neg hs]
      exact ih
theorem valid_bad {s : ByteArray} {n : Nat} (h : okTo s n) (hs : (steps s n).2 < s.size) (hb : okA s (steps s n).2 = false) : vB s = false := by
  have := valid_so h
  rw [valid_at hs, if_neg (by rw [hb]; simp)] at this
  exact this.symm
theorem valid_end {s : ByteArray} {n : Nat} (h : okTo s n) (hs : s.size ≤ (steps s n).2) : vB s = true := by
  have := valid_so h
  rw [List.drop_eq_nil_of_le (by simpa using hs), Lib.validD_nil] at this
  exact this.symm
theorem okTo_all {s : ByteArray} (h : vB s = true) : ∀ n, okTo s n
  | 0 => okTo_zero s
  | n + 1 => okTo_succ (okTo_all h n) (fun hs => by
    cases hb : okA s (steps s n).2 with
    | true => rfl
    | false =>
      have := valid_bad (okTo_all h n) hs hb
      rw [h] at this
      cases this)
theorem dec_back {size pos b0 b1 b2 b3 p n : Nat} (h0 : b0 < 256) (h1 : b1 < 256) (h2 : b2 < 256) (h3 : b3 < 256) (hd : dec size pos b0 b1 b2 b3 = (p, n)) (hn : ¬ (p = 65533 ∧ n = 1)) :
    (n = 1 ∧ Lib.encodeRuneZ p = [(b0 : Int)]) ∨ (n = 2 ∧ Lib.encodeRuneZ p = [(b0 : Int), (b1 : Int)]) ∨ (n = 3 ∧ Lib.encodeRuneZ p = [(b0 : Int), (b1 : Int), (b2 : Int)]) ∨ (n = 4 ∧ Lib.encodeRuneZ p = [(b0 : Int), (b1 : Int), (b2 : Int), (b3 : Int)]) := by
  unfold dec at hd
  split at hd
  · injection hd with e1 e2
    subst e1
    subst e2
    exact .inl ⟨rfl, Lib.encodeRuneZ_one (by omega) (by omega)⟩
  split at hd
  · split at hd
    · injection hd with e1 e2
      subst e1
      subst e2
      refine .inr (.inl ⟨rfl, ?_⟩)
      rw [Lib.encodeRuneZ_two (by omega) (by omega)]
      simp only [List.cons.injEq, and_true]
      omega
    · injection hd with e1 e2
      exact absurd ⟨e1.symm, e2.symm⟩ hn
  split at hd
  · split at hd
    · injection hd with e1 e2
      subst e1
      subst e2
      refine .inr (.inr (.inl ⟨rfl, ?_⟩))
      rw [Lib.encodeRuneZ_three (by omega)]
      simp only [List.cons.injEq, and_true]
      omega
    · injection hd with e1 e2
      exact absurd ⟨e1.symm, e2.symm⟩ hn
  split at hd
  · split at hd
    · injection hd with e1 e2
      subst e1
      subst e2
      refine .inr (.inr (.inr ⟨rfl, ?_⟩))
      rw [Lib.encodeRuneZ_four (by omega) (by omega)]
      simp only [List.cons.injEq, and_true]
      omega
    · injection hd with e1 e2
      exact absurd ⟨e1.symm, e2.symm⟩ hn
  · injection hd with e1 e2
    exact absurd ⟨e1.symm, e2.symm⟩ hn
/-- A point's bytes are those that it was read from. -/
theorem enc_back {s : ByteArray} {u : Nat} (h : okA s u = true) : (Lib.encodeRuneZ (dP s u)).length = dN s u ∧ ∀ j, j < dN s u → (Lib.encodeRuneZ (dP s u))[j]? = some (bt s (u + j) : Int) := by
  have hn := okA_no h
  have hd : dec s.size u (bt s u) (bt s (u + 1)) (bt s (u + 2)) (bt s (u + 3)) = (dP s u, dN s u) := (decode_dec s u).symm
  rcases dec_back (bt_lt _ _) (bt_lt _ _) (bt_lt _ _) (bt_lt _ _) hd hn with ⟨e1, e2⟩ | ⟨e1, e2⟩ | ⟨e1, e2⟩ | ⟨e1, e2⟩
  · rw [e1, e2]
    exact ⟨rfl, fun j hj => by match j, hj with | 0, _ => rfl⟩
  · rw [e1, e2]
    exact ⟨rfl, fun j hj => by match j, hj with | 0, _ => rfl | 1, _ => rfl⟩
  · rw [e1, e2]
    exact ⟨rfl, fun j hj => by match j, hj with | 0, _ => rfl | 1, _ => rfl | 2, _ => rfl⟩
  · rw [e1, e2]
    exact ⟨rfl, fun j hj => by match j, hj with | 0, _ => rfl | 1, _ => rfl | 2, _ => rfl | 3, _ => rfl⟩
theorem text_snoc (l : List Int) (p : Int) : textL (l ++ [p]) = textL l ++ Lib.encodeRuneZ p := by
  unfold textL
  rw [List.flatMap_append, List.flatMap_singleton]
theorem text_so {s : ByteArray} : ∀ {n : Nat}, okTo s n → (textL (steps s n).1).length = (steps s n).2 ∧ ∀ i, i < (steps s n).2 → (textL (steps s n).1)[i]? = some (bt s i : Int)
  | 0, _ => ⟨rfl, fun i hi => absurd hi (by simp [steps])⟩
  | n + 1, h => by
    obtain ⟨a, b⟩ := text_so (n := n) (fun k hk hs => h k (by omega) hs)
    by_cases hs : (steps s n).2 < s.size
    · obtain ⟨c, d⟩ := enc_back (h n (by omega) hs)
      rw [steps_next s n hs]
      simp only
      rw [text_snoc]
      refine ⟨by rw [List.length_append, a, c], fun i hi => ?_⟩
      by_cases hi' : i < (steps s n).2
      · rw [List.getElem?_append_left (by omega)]
        exact b i hi'
      · rw [List.getElem?_append_right (by omega), a, d _ (by omega)]
        congr 3
        omega
    · have e : steps s (n + 1) = steps s n := by
        show (if (steps s n).2 < s.size then _ else _) = _
        rw [if_neg hs]
      rw [e]
      exact ⟨a, b⟩
/-- A text whose bytes are all points' is the text of its points. -/
theorem wel_of {s : ByteArray} (h : vB s = true) : strOfNums (textL (pts s)) = s := by
  obtain ⟨a, b⟩ := text_so (okTo_all h s.size)
  have hz : (steps s s.size).2 = s.size := by
    have h1 := (steps_le s s.size).1
    rcases steps_go s s.size with h2 | h2 <;> omega
  rw [hz] at a b
  have e : (steps s s.size).1 = pts s := rfl
  rw [e] at a b
  have key : (strOfNums (textL (pts s))).data.toList = s.data.toList := by
    rw [strOfNums_data]
    refine List.ext_getElem? fun i => ?_
    rw [List.getElem?_map]
    by_cases hi : i < s.size
    · rw [b i hi]
      have hi2 : i < s.data.toList.length := by simpa using hi
      rw [List.getElem?_eq_getElem hi2]
      show some (UInt8.ofNat ((bt s i : Int)).toNat) = _
      congr 1
      rw [Int.toNat_natCast, ← bt_get s i hi]
      show UInt8.ofNat (s[i]).toNat = _
      rw [UInt8.ofNat_toNat]
      rfl
    · rw [List.getElem?_eq_none (by omega), List.getElem?_eq_none (by simp; omega)]
      rfl
  obtain ⟨⟨x⟩⟩ := s
  generalize strOfNums (textL (pts { data := { toList := x } })) = t at key ⊢
  obtain ⟨⟨y⟩⟩ := t
  have key' : y = x := key
  rw [key']
/-- And no other one is. -/
theorem wel_back {s : ByteArray} (h : strOfNums (textL (pts s)) = s) : vB s = true := by
  have hst := fun n hn => steps_text (pts s) (pts_pt s) n hn
  have hr := fun k hk => read_back (pts s) k hk
  rw [h] at hst hr
  have hok : ∀ n, n ≤ (pts s).length → okTo s n := fun n => by
    induction n with
    | zero => exact fun _ => okTo_zero s
    | succ n ih =>
      intro hn
      refine okTo_succ (ih (by omega)) fun _ => ?_
      have hk : n < (pts s).length := by omega
      have hp : isPt (nth (pts s) n) = true := pts_pt s _ (by simp [nth, List.getD, hk])
      have r := hr n hk hp
      rw [hst n (by omega)]
      simp only
      unfold okA NB.okB
      by_cases hx : nth (pts s) n = 65533
      · rw [r.1, r.2, hx]
        decide
      · rw [r.1]
        simp [hx]
  refine valid_end (hok _ (Nat.le_refl _)) ?_
  rw [hst _ (Nat.le_refl _), List.take_length]
  have := congrArg ByteArray.size h
  rw [strOfNums_size] at this
  simp only
  omega
theorem wel_iff (s : ByteArray) : strOfNums (textL (pts s)) = s ↔ vB s = true := ⟨wel_back, wel_of⟩
end Go.Proofs.YthjjojkabbepdaaDoor
