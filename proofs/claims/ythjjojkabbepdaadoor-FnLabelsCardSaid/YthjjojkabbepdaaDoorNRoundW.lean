/- The points of the text of points are these points. No walk. -/
import Derived.Test.YthjjojkabbepdaaDoorNPointsI
import Derived.Test.YthjjojkabbepdaaDoorNTextW
namespace Go.Proofs.YthjjojkabbepdaaDoor
open Go.RowKit
theorem dec_pt (size pos b0 b1 b2 b3 : Nat) (hb : b0 < 256) : isPt ((dec size pos b0 b1 b2 b3).1 : Int) = true := by
  rw [isPt_iff]
  unfold dec
  repeat' split
  all_goals simp only []
  all_goals omega
theorem dP_pt (s : ByteArray) (pos : Nat) : isPt (dP s pos : Int) = true := by
  unfold dP; rw [decode_dec]; exact dec_pt _ _ _ _ _ _ (bt_lt _ _)
theorem steps_pt (s : ByteArray) (n : Nat) : ∀ x ∈ (steps s n).1, isPt x = true := by
  induction n with
  | zero => simp [steps]
  | succ n ih =>
    unfold steps
    split
    · intro x hx
      simp only [List.mem_append, List.mem_singleton] at hx
      rcases hx with hx | hx
      · exact ih x hx
      · rw [hx]; exact dP_pt _ _
    · exact ih
theorem pts_pt (s : ByteArray) : ∀ x ∈ pts s, isPt x = true := steps_pt s s.size
theorem bt_nums (zs : List Int) (i : Nat) (hi : i < zs.length) (hz : ∀ x ∈ zs, 0 ≤ x ∧ x < 256) : (bt (strOfNums zs) i : Int) = zs[i] := by
  have hs : i < (strOfNums zs).size := by rw [strOfNums_size]; exact hi
  rw [← bt_get _ i hs]
  have hd : (strOfNums zs)[i] = UInt8.ofNat (zs[i]).toNat := by
    show (strOfNums zs).data[i] = _
    simp [strOfNums]
  rw [hd]
  have := hz zs[i] (List.getElem_mem hi)
  rw [UInt8.toNat_ofNat_of_lt' (by show _ < 256; omega)]
  omega
theorem textL_byte (l : List Int) : ∀ x ∈ textL l, 0 ≤ x ∧ x < 256 := by
  intro x hx
  unfold textL at hx
  rw [List.mem_flatMap] at hx
  obtain ⟨p, _, hp⟩ := hx
  exact Lib.encodeRuneZ_byte p x hp
/-- The bytes of the text from the k-th point on begin with those of that point. -/
theorem textL_at (l : List Int) (k : Nat) (hk : k < l.length) (j : Nat) (hj : j < (Lib.encodeRuneZ (nth l k)).length) :
    (bt (strOfNums (textL l)) ((textL (l.take k)).length + j) : Int) = (Lib.encodeRuneZ (nth l k))[j] ∧ (textL (l.take k)).length + j < (strOfNums (textL l)).size := by
  have e : textL l = textL (l.take k) ++ (Lib.encodeRuneZ (nth l k) ++ textL (l.drop (k + 1))) := by
    have h1 : l = l.take (k + 1) ++ l.drop (k + 1) := (List.take_append_drop _ _).symm
    conv => lhs; rw [h1]
    unfold textL
    rw [List.flatMap_append]
    have h2 := textL_snoc l k hk
    unfold textL at h2
    rw [h2, List.append_assoc]
  have hlen : (textL (l.take k)).length + j < (textL l).length := by
    rw [e]; simp; omega
  refine ⟨?_, by rw [strOfNums_size]; exact hlen⟩
  rw [bt_nums (textL l) _ hlen (textL_byte l)]
  have : (textL l)[(textL (l.take k)).length + j]? = some ((Lib.encodeRuneZ (nth l k))[j]) := by
    rw [e, List.getElem?_append_right (by omega), Nat.add_sub_cancel_left, List.getElem?_append_left hj, List.getElem?_eq_getElem hj]
  rw [List.getElem?_eq_getElem hlen] at this
  exact Option.some.inj this
theorem read_back (l : List Int) (k : Nat) (hk : k < l.length) (hp : isPt (nth l k) = true) :
    (dP (strOfNums (textL l)) (textL (l.take k)).length : Int) = nth l k ∧ dN (strOfNums (textL l)) (textL (l.take k)).length = (Lib.encodeRuneZ (nth l k)).length := by
  have hat := textL_at l k hk
  have hb := (isPt_iff _).1 hp
  generalize nth l k = p at *
  generalize (textL (l.take k)).length = pos at *
  generalize strOfNums (textL l) = s at *
  unfold dP dN
  rw [decode_dec]
  by_cases h1 : p < 128
  · have e := Lib.encodeRuneZ_one hb.1 (show p ≤ 127 by omega)
    rw [e] at hat ⊢
    have a0 := (hat 0 (by simp)).1
    simp only [Nat.add_zero, List.getElem_cons_zero] at a0
    rw [dec_one (by omega)]
    exact ⟨a0, rfl⟩
  by_cases h2 : p < 2048
  · have e := Lib.encodeRuneZ_two (show 128 ≤ p by omega) (show p ≤ 2047 by omega)
    rw [e] at hat ⊢
    have a0 := (hat 0 (by simp)).1
    have a1 := hat 1 (by simp)
    simp only [Nat.add_zero, List.getElem_cons_zero, List.getElem_cons_succ] at a0 a1
    rw [dec_two (by omega) (by omega) a1.2 (by omega) (by omega)]
    exact ⟨by omega, rfl⟩
  by_cases h3 : p < 65536
  · have e := Lib.encodeRuneZ_three (show (2048 ≤ p ∧ p < 55296) ∨ (57343 < p ∧ p ≤ 65535) by omega)
    rw [e] at hat ⊢
    have a0 := (hat 0 (by simp)).1
    have a1 := (hat 1 (by simp)).1
    have a2 := hat 2 (by simp)
    simp only [Nat.add_zero, List.getElem_cons_zero, List.getElem_cons_succ] at a0 a1 a2
    rw [dec_three (by omega) (by omega) a2.2 (by omega) (by omega) (by omega) (by omega), if_pos (by omega)]
    exact ⟨by omega, rfl⟩
  · have e := Lib.encodeRuneZ_four (show 65536 ≤ p by omega) hb.2.1
    rw [e] at hat ⊢
    have a0 := (hat 0 (by simp)).1
    have a1 := (hat 1 (by simp)).1
    have a2 := (hat 2 (by simp)).1
    have a3 := hat 3 (by simp)
    simp only [Nat.add_zero, List.getElem_cons_zero, List.getElem_cons_succ] at a0 a1 a2 a3
    rw [dec_four (by omega) (by omega) a3.2 (by omega) (by omega) (by omega) (by omega) (by omega) (by omega), if_pos (by omega)]
    exact ⟨by omega, rfl⟩
theorem steps_text (l : List Int) (hl : ∀ x ∈ l, isPt x = true) (n : Nat) (hn : n ≤ l.length) : steps (strOfNums (textL l)) n = (l.take n, (textL (l.take n)).length) := by
  induction n with
  | zero => simp [steps, textL]
  | succ n ih =>
    have ih' := ih (by omega)
    have hk : n < l.length := by omega
    have hp : isPt (nth l n) = true := hl _ (by simp [nth, List.getD, hk])
    have hr := read_back l n hk hp
    have hlt : (steps (strOfNums (textL l)) n).2 < (strOfNums (textL l)).size := by
      rw [ih']
      have h1 := (Lib.encodeRuneZ_length (nth l n)).1
      have := (textL_at l n hk 0 (by omega)).2
      simpa using this
    rw [steps_next _ n hlt, ih']
    simp only []
    rw [hr.1, hr.2, textL_snoc l n hk, List.length_append, List.take_succ_eq_append_getElem hk]
    simp [nth, List.getD, hk]
theorem pts_text (l : List Int) (hl : ∀ x ∈ l, isPt x = true) : pts (strOfNums (textL l)) = l := by
  have h := steps_text l hl l.length (Nat.le_refl _)
  rw [List.take_length] at h
  have := steps_pts (strOfNums (textL l)) l.length (by rw [h, strOfNums_size]; exact Nat.le_refl _)
  rw [h] at this
  exact this.symm
end Go.Proofs.YthjjojkabbepdaaDoor
