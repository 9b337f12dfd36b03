/- What one round of the program's table does, and what all of them come to: in plain numbers. -/
import Derived.Test.YtlpgndmojpnpdaaDoorFwE
namespace Go.Proofs.YtlpgndmojpnpdaaDoor
namespace Fw
open Go.RowKit
set_option linter.unusedVariables false
def wr64 (x : Int) : Int := IntKind.i64.wrap x
theorem nthS_set (L : List Int) (i : Nat) (x : Int) (j : Nat) : nth (L.set i x) j = if j = i ∧ i < L.length then x else nth L j := by
  unfold nth
  rw [List.getD_eq_getElem?_getD, List.getD_eq_getElem?_getD, List.getElem?_set]
  by_cases h : i = j
  · subst h
    by_cases h2 : i < L.length
    · simp [h2]
    · simp [h2]
  · rw [if_neg h, if_neg (fun e => h e.1.symm)]
/-- One end of a word more. -/
def stI (C : List Int) (a : Int × Int) (e : Int) : Int × Int := if wr64 (nth C e.toNat + 2) ≤ a.1 then (wr64 (nth C e.toNat + 2), e) else a
def bsI (C : List Int) (z : Nat) (L : List Int) : Int × Int := L.foldl (stI C) (wr64 (nth C z + 3), (z : Int))
/-- One round. -/
def tr1 (s : ByteArray) (W : List ByteArray) (S : List Int × List Int × Nat) (i : Nat) : List Int × List Int × Nat :=
  (S.1.set (pl s i) (bsI S.1 S.2.2 (eL s W (pl s i) 60)).1, S.2.1.set (pl s i) (bsI S.1 S.2.2 (eL s W (pl s i) 60)).2, pl s i)
def rn (s : ByteArray) (W : List ByteArray) (is : List Nat) : List Int × List Int × Nat := is.foldl (tr1 s W) (List.replicate (s.size + 1) 0, List.replicate s.size 0, s.size)
theorem rn_snoc (s : ByteArray) (W : List ByteArray) (is : List Nat) (i : Nat) : rn s W (is ++ [i]) = tr1 s W (rn s W is) i := by simp [rn]
theorem rn_ok (s : ByteArray) (W : List ByteArray) (is : List Nat) : (rn s W is).1.length = s.size + 1 ∧ (rn s W is).2.1.length = s.size ∧ (rn s W is).2.2 ≤ s.size := by
  have key : ∀ (is : List Nat) (S : List Int × List Int × Nat), S.1.length = s.size + 1 ∧ S.2.1.length = s.size ∧ S.2.2 ≤ s.size → (is.foldl (tr1 s W) S).1.length = s.size + 1 ∧ (is.foldl (tr1 s W) S).2.1.length = s.size ∧ (is.foldl (tr1 s W) S).2.2 ≤ s.size := by
    intro is
    induction is with
    | nil => intro S h; exact h
    | cons i t ih =>
      intro S h
      refine ih _ ⟨?_, ?_, pl_le s i⟩
      · show (S.1.set _ _).length = _; rw [List.length_set]; exact h.1
      · show (S.2.1.set _ _).length = _; rw [List.length_set]; exact h.2.1
  exact key is _ ⟨by simp, by simp, Nat.le_refl _⟩
/-- Ends of words are within the text, behind the place. -/
theorem eL_in {s : ByteArray} {W : List ByteArray} {a : Nat} {e : Int} (h : e ∈ eL s W a 60) : ∃ z : Nat, e = (z : Int) ∧ a < z ∧ z ≤ s.size := by
  unfold eL at h
  obtain ⟨k, hk, rfl⟩ := List.mem_map.1 h
  have h1 := ek_mem hk
  have h2 := h1.2.2
  unfold qq at h2
  rw [Bool.and_eq_true, decide_eq_true_eq] at h2
  exact ⟨_, rfl, by omega, h2.1⟩
/-- The first t ends. -/
theorem bsI_take (C : List Int) (z : Nat) {L : List Int} {t : Nat} (h : t < L.length) : bsI C z (L.take (t + 1)) = stI C (bsI C z (L.take t)) (nth L t) := by
  unfold bsI
  rw [List.take_add_one, List.getElem?_eq_getElem h, List.foldl_append]
  have : nth L t = L[t] := by unfold nth; rw [List.getD_eq_getElem?_getD, List.getElem?_eq_getElem h]; rfl
  rw [this]
  rfl
/-- The program's table is right from place i on. -/
structure Gp (s : ByteArray) (q : Nat → Nat → Bool) (i : Nat) (S : List Int × List Int × Nat) : Prop where
  cs : ∀ j, i ≤ j → j ≤ (pts s).length → nth S.1 (pl s j) = ((be q (pts s).length j).1 : Int)
  es : ∀ j, i ≤ j → j < (pts s).length → nth S.2.1 (pl s j) = ((pl s (j + (be q (pts s).length j).2) : Nat) : Int)
  nx : S.2.2 = pl s i
theorem wr_nat (k : Nat) (h : k ≤ 9223372036854775807) : wr64 (k : Int) = (k : Int) := wrapN k h
/-- A fold over ends is the fold over lengths. -/
theorem fold_same {s : ByteArray} {W : List ByteArray} {q : Nat → Nat → Bool} {C : List Int} {i : Nat} (hs : s.size ≤ 65536) (hC : ∀ j, i < j → j ≤ (pts s).length → nth C (pl s j) = ((be q (pts s).length j).1 : Int)) :
    ∀ (L : List Nat) (a : Nat × Nat), (∀ k ∈ L, 1 ≤ k ∧ i + k ≤ (pts s).length ∧ pl s (i + k) = pl s i + 3 * k) →
      (L.map fun j => ((pl s i + 3 * j : Nat) : Int)).foldl (stI C) ((a.1 : Int), ((pl s (i + a.2) : Nat) : Int)) =
        (((L.foldl (st (fun k => (be q (pts s).length (i + k)).1)) a).1 : Int), ((pl s (i + (L.foldl (st (fun k => (be q (pts s).length (i + k)).1)) a).2) : Nat) : Int))
  | [], a, _ => rfl
  | k :: L, a, h => by
    have hk := h k (by simp)
    have ih := fun b => fold_same (W := W) hs hC L b (fun j hj => h j (by simp [hj]))
    rw [List.map_cons, List.foldl_cons, List.foldl_cons]
    have hn := Nat.le_trans (pts_le s) hs
    have hb := be_cost q (pts s).length ((pts s).length - (i + k)) (i + k) rfl hk.2.1
    have e1 : nth C (((pl s i + 3 * k : Nat) : Int)).toNat = ((be q (pts s).length (i + k)).1 : Int) := by
      rw [Int.toNat_natCast, ← hk.2.2]
      exact hC (i + k) (by omega) hk.2.1
    have e2 : wr64 (((be q (pts s).length (i + k)).1 : Int) + 2) = (((be q (pts s).length (i + k)).1 + 2 : Nat) : Int) := wr_nat ((be q (pts s).length (i + k)).1 + 2) (by omega)
    have e3 : stI C ((a.1 : Int), ((pl s (i + a.2) : Nat) : Int)) ((pl s i + 3 * k : Nat) : Int) = (((st (fun k => (be q (pts s).length (i + k)).1) a k).1 : Int), ((pl s (i + (st (fun k => (be q (pts s).length (i + k)).1) a k).2) : Nat) : Int)) := by
      unfold stI st
      rw [e1, e2]
      by_cases hc : (be q (pts s).length (i + k)).1 + 2 ≤ a.1
      · rw [if_pos (by omega), if_pos hc]
        simp only
        rw [hk.2.2]
      · rw [if_neg (by omega), if_neg hc]
    rw [e3]
    exact ih _
theorem Gp.step {s : ByteArray} {W : List ByteArray} (hW : Wr W) (hs : s.size ≤ 65536) {i : Nat} (hi : i < (pts s).length) {S : List Int × List Int × Nat} (hl : S.1.length = s.size + 1 ∧ S.2.1.length = s.size) (h : Gp s (iw s W) (i + 1) S) : Gp s (iw s W) i (tr1 s W S i) := by
  have hn := Nat.le_trans (pts_le s) hs
  have hb := be_cost (iw s W) (pts s).length ((pts s).length - (i + 1)) (i + 1) rfl hi
  have hp := pl_in hi
  have hst : wr64 (nth S.1 S.2.2 + 3) = (((be (iw s W) (pts s).length (i + 1)).1 + 3 : Nat) : Int) := by
    rw [h.nx, h.cs (i + 1) (Nat.le_refl _) hi]
    exact wr_nat ((be (iw s W) (pts s).length (i + 1)).1 + 3) (by omega)
  have hf := fold_same (W := W) (q := iw s W) (C := S.1) (i := i) hs (fun j h1 h2 => h.cs j h1 h2) (ek (qq s W (pl s i)) 60) ((be (iw s W) (pts s).length (i + 1)).1 + 3, 1) (fun k hk => by
    have h1 := ek_mem hk
    have h2 := word_at hW hi h1.1
    have h3 := (h2.1.1 h1.2.2).1
    exact ⟨h1.1, by omega, h2.2 h1.2.2⟩)
  rw [← best_at hW hi] at hf
  have hbs : bsI S.1 S.2.2 (eL s W (pl s i) 60) = (((be (iw s W) (pts s).length i).1 : Int), ((pl s (i + (be (iw s W) (pts s).length i).2) : Nat) : Int)) := by
    unfold bsI eL
    rw [hst, h.nx]
    exact hf
  refine ⟨fun j h1 h2 => ?_, fun j h1 h2 => ?_, rfl⟩
  · show nth (S.1.set _ _) _ = _
    rw [hbs, nthS_set]
    by_cases e : j = i
    · subst e
      rw [if_pos ⟨rfl, by omega⟩]
    · have := pl_lt (s := s) (show i < j by omega) h2
      rw [if_neg (fun x => by omega)]
      exact h.cs j (by omega) h2
  · show nth (S.2.1.set _ _) _ = _
    rw [hbs, nthS_set]
    by_cases e : j = i
    · subst e
      rw [if_pos ⟨rfl, by omega⟩]
    · have := pl_lt (s := s) (show i < j by omega) (by omega)
      rw [if_neg (fun x => by omega)]
      exact h.es j (by omega) h2
theorem rn_good {s : ByteArray} {W : List ByteArray} (hW : Wr W) (hs : s.size ≤ 65536) : ∀ m, m ≤ (pts s).length → Gp s (iw s W) ((pts s).length - m) (rn s W ((List.range m).map fun j => (pts s).length - 1 - j))
  | 0, _ => by
    have hz : ∀ k j, nth (List.replicate k (0 : Int)) j = 0 := fun k j => by
      unfold nth
      rw [List.getD_eq_getElem?_getD, List.getElem?_replicate]
      split <;> rfl
    refine ⟨fun j h1 h2 => ?_, fun j h1 h2 => absurd h2 (by omega), ?_⟩
    · obtain rfl : j = (pts s).length := by omega
      rw [be_end]
      exact hz _ _
    · rw [Nat.sub_zero, pl_end]
      rfl
  | m + 1, h => by
    have ih := rn_good hW hs m (by omega)
    rw [List.range_succ, List.map_append, List.map_cons, List.map_nil, rn_snoc]
    have hl := rn_ok s W ((List.range m).map fun j => (pts s).length - 1 - j)
    have := Gp.step hW hs (i := (pts s).length - 1 - m) (by omega) ⟨hl.1, hl.2.1⟩ (by rw [show (pts s).length - 1 - m + 1 = (pts s).length - m by omega]; exact ih)
    rw [show (pts s).length - (m + 1) = (pts s).length - 1 - m by omega]
    exact this
end Fw
end Go.Proofs.YtlpgndmojpnpdaaDoor
