/- How a label is written: pure. -/
import Derived.Test.YthjjojkabbepdaaDoorIntA
namespace Go.Proofs.YthjjojkabbepdaaDoor.Lab
open Go.RowKit
set_option linter.unusedVariables false
def thr (k b : Int) : Int := if k ≤ b then 1 else if b + 26 ≤ k then 26 else k - b
theorem thr_bd (k b : Int) : 1 ≤ thr k b ∧ thr k b ≤ 26 := by unfold thr; repeat' split
                                                              all_goals omega
theorem thr_lo {k b : Int} (h : k ≤ b) : thr k b = 1 := by unfold thr; rw [if_pos h]
theorem thr_hi {k b : Int} (h : b + 26 ≤ k) : thr k b = 26 := by unfold thr; rw [if_neg (by omega), if_pos h]
theorem thr_mid {k b : Int} (h : b < k) (h2 : k < b + 26) : thr k b = k - b := by unfold thr; rw [if_neg (by omega), if_neg (by omega)]
def dig (d : Int) : Int := if d < 26 then 97 + d else 22 + d
theorem dig_bd {d : Int} (h0 : 0 ≤ d) (h1 : d < 36) : 0 ≤ dig d ∧ dig d < 128 ∧ dig d ≠ 45 := by unfold dig; split <;> omega
/-- What is left of a number behind a digit. -/
def lft (q t : Int) : Int := (q - t) / (36 - t)
def dgt (q t : Int) : Int := t + (q - t) % (36 - t)
theorem lft_bd {q t : Int} (h : t ≤ q) (h1 : 1 ≤ t) (h2 : t ≤ 26) : 0 ≤ lft q t ∧ lft q t < q ∧ lft q t * 10 ≤ q := by
  unfold lft
  have h3 : 0 ≤ (q - t) / (36 - t) := Int.ediv_nonneg (by omega) (by omega)
  have h4 : (36 - t) * ((q - t) / (36 - t)) ≤ q - t := Int.mul_ediv_self_le (by omega)
  have h5 : 10 * ((q - t) / (36 - t)) ≤ (36 - t) * ((q - t) / (36 - t)) := Int.mul_le_mul_of_nonneg_right (by omega) h3
  omega
theorem dgt_bd {q t : Int} (h : t ≤ q) (h1 : 1 ≤ t) (h2 : t ≤ 26) : 0 ≤ dgt q t ∧ dgt q t < 36 := by
  unfold dgt
  have h3 := Int.emod_nonneg (q - t) (show 36 - t ≠ 0 by omega)
  have h4 := Int.emod_lt_of_pos (q - t) (show 0 < 36 - t by omega)
  omega
def numF (b : Int) : Nat → Int → Int → List Int
  | 0, _, _ => []
  | f + 1, q, k => if q < thr k b then [dig q] else dig (dgt q (thr k b)) :: numF b f (lft q (thr k b)) (k + 36)
def num (q b k : Int) : List Int := numF b (q.toNat + 1) q k
theorem numF_same (b : Int) : ∀ (f g : Nat) (q k : Int), 0 ≤ q → q.toNat < f → q.toNat < g → numF b f q k = numF b g q k
  | 0, _, _, _, _, h, _ => by omega
  | _ + 1, 0, _, _, _, _, h => by omega
  | f + 1, g + 1, q, k, h0, h1, h2 => by
    show (if q < thr k b then [dig q] else _) = (if q < thr k b then [dig q] else _)
    split
    · rfl
    · rename_i h
      have ht := thr_bd k b
      have hl := lft_bd (q := q) (t := thr k b) (by omega) ht.1 ht.2
      rw [numF_same b f g (lft q (thr k b)) (k + 36) hl.1 (by omega) (by omega)]
theorem num_last {q b k : Int} (h : q < thr k b) : num q b k = [dig q] := by
  unfold num
  show (if q < thr k b then [dig q] else _) = _
  rw [if_pos h]
theorem num_more {q b k : Int} (h : thr k b ≤ q) : num q b k = dig (dgt q (thr k b)) :: num (lft q (thr k b)) b (k + 36) := by
  have ht := thr_bd k b
  have hl := lft_bd h ht.1 ht.2
  unfold num
  show (if q < thr k b then [dig q] else _) = _
  rw [if_neg (by omega), numF_same b q.toNat ((lft q (thr k b)).toNat + 1) _ _ hl.1 (by omega) (by omega)]
theorem numF_len (b : Int) : ∀ (j f : Nat) (q k : Int), 0 ≤ q → q < 10 ^ j → (numF b f q k).length ≤ j + 1
  | 0, f, q, k, h0, h1 => by
    match f with
    | 0 => simp [numF]
    | f + 1 =>
      have ht := thr_bd k b
      show (if q < thr k b then [dig q] else _).length ≤ _
      rw [if_pos (by simp at h1; omega)]
      simp
  | j + 1, f, q, k, h0, h1 => by
    match f with
    | 0 => simp [numF]
    | f + 1 =>
      show (if q < thr k b then [dig q] else _).length ≤ _
      split
      · simp
      · rename_i h
        have ht := thr_bd k b
        have hl := lft_bd (q := q) (t := thr k b) (by omega) ht.1 ht.2
        have e : (10 : Int) ^ (j + 1) = 10 ^ j * 10 := Int.pow_succ 10 j
        have := numF_len b j f (lft q (thr k b)) (k + 36) hl.1 (by rw [e] at h1; omega)
        simp only [List.length_cons]
        omega
theorem num_len {q b k : Int} (h0 : 0 ≤ q) (h1 : q < 10000000000) : (num q b k).length ≤ 11 := numF_len b 10 _ q k h0 (by omega)
theorem numF_bd (b : Int) : ∀ (f : Nat) (q k : Int), 0 ≤ q → ∀ x ∈ numF b f q k, 0 ≤ x ∧ x < 128 ∧ x ≠ 45
  | 0, _, _, _, x, hx => by simp [numF] at hx
  | f + 1, q, k, h0, x, hx => by
    have ht := thr_bd k b
    change x ∈ (if q < thr k b then [dig q] else dig (dgt q (thr k b)) :: numF b f (lft q (thr k b)) (k + 36)) at hx
    split at hx
    · simp at hx
      rw [hx]
      exact dig_bd h0 (by omega)
    · rename_i h
      have hl := lft_bd (q := q) (t := thr k b) (by omega) ht.1 ht.2
      have hd := dgt_bd (q := q) (t := thr k b) (by omega) ht.1 ht.2
      rcases List.mem_cons.1 hx with rfl | hx
      · exact dig_bd hd.1 hd.2
      · exact numF_bd b f _ _ hl.1 x hx
theorem num_bd {q b k : Int} (h0 : 0 ≤ q) : ∀ x ∈ num q b k, 0 ≤ x ∧ x < 128 ∧ x ≠ 45 := numF_bd b _ q k h0
/-- The bias: how often 35 goes. -/
def shr : Nat → Int → Int → Int
  | 0, d, k => k + 36 * d / (d + 38)
  | f + 1, d, k => if 455 < d then shr f (d / 35) (k + 36) else k + 36 * d / (d + 38)
def bs1 (d k : Int) : Int := shr d.toNat d k
theorem shr_same : ∀ (f g : Nat) (d k : Int), 0 ≤ d → d.toNat ≤ f → d.toNat ≤ g → shr f d k = shr g d k
  | 0, 0, _, _, _, _, _ => rfl
  | 0, g + 1, d, k, h0, h1, _ => by
    show _ = (if 455 < d then _ else _)
    rw [if_neg (by omega)]; rfl
  | f + 1, 0, d, k, h0, _, h1 => by
    show (if 455 < d then _ else _) = _
    rw [if_neg (by omega)]; rfl
  | f + 1, g + 1, d, k, h0, h1, h2 => by
    show (if 455 < d then _ else _) = (if 455 < d then _ else _)
    split
    · exact shr_same f g (d / 35) (k + 36) (by omega) (by omega) (by omega)
    · rfl
theorem bs1_more {d k : Int} (h : 455 < d) : bs1 d k = bs1 (d / 35) (k + 36) := by
  unfold bs1
  rw [show d.toNat = (d.toNat - 1) + 1 by omega]
  show (if 455 < d then _ else _) = _
  rw [if_pos h]
  exact shr_same _ _ _ _ (by omega) (by omega) (by omega)
theorem bs1_last {d k : Int} (h0 : 0 ≤ d) (h : d ≤ 455) : bs1 d k = k + 36 * d / (d + 38) := by
  unfold bs1
  rw [shr_same d.toNat (d.toNat + 1) d k h0 (Nat.le_refl _) (by omega)]
  show (if 455 < d then _ else _) = _
  rw [if_neg (by omega)]
theorem rat_bd {d : Int} (h0 : 0 ≤ d) : 0 ≤ 36 * d / (d + 38) ∧ 36 * d / (d + 38) ≤ 36 := by
  refine ⟨Int.ediv_nonneg (by omega) (by omega), ?_⟩
  have : 36 * d / (d + 38) < 37 := Int.ediv_lt_of_lt_mul (by omega) (by omega)
  omega
theorem shr_bd : ∀ (f : Nat) (d k : Int), 0 ≤ d → 0 ≤ k → 0 ≤ shr f d k ∧ shr f d k ≤ k + 36 * d + 36
  | 0, d, k, h0, h1 => by
    have := rat_bd h0
    show 0 ≤ k + 36 * d / (d + 38) ∧ k + 36 * d / (d + 38) ≤ _
    omega
  | f + 1, d, k, h0, h1 => by
    show 0 ≤ (if 455 < d then _ else _) ∧ (if 455 < d then _ else _) ≤ _
    split
    · have := shr_bd f (d / 35) (k + 36) (by omega) (by omega)
      omega
    · have := rat_bd h0
      omega
def hlf (d : Int) (a : Bool) : Int := if a then d / 2 else d / 700
/-- The bias made anew: a tells that it was made by a delta before. -/
def bsn (d h : Int) (a : Bool) : Int := bs1 (hlf d a + hlf d a / h) 0
theorem hlf_bd {d h : Int} {a : Bool} (h0 : 0 ≤ d) (h1 : 1 ≤ h) : 0 ≤ hlf d a ∧ hlf d a ≤ d ∧ 0 ≤ hlf d a / h ∧ hlf d a / h ≤ hlf d a ∧ hlf d a + hlf d a / h ≤ d := by
  have e : 0 ≤ hlf d a ∧ 2 * hlf d a ≤ d := by unfold hlf; split <;> omega
  have e1 : 0 ≤ hlf d a / h := Int.ediv_nonneg e.1 (by omega)
  have e2 : hlf d a / h ≤ hlf d a := Int.ediv_le_self _ e.1
  omega
theorem bsn_bd {d h : Int} {a : Bool} (h0 : 0 ≤ d) (h1 : 1 ≤ h) : 0 ≤ bsn d h a ∧ bsn d h a ≤ 36 * d + 36 := by
  have := hlf_bd (a := a) h0 h1
  have := shr_bd (hlf d a + hlf d a / h).toNat (hlf d a + hlf d a / h) 0 (by omega) (by omega)
  unfold bsn bs1
  omega
structure St where
  out : List Int
  bias : Int
  delta : Int
  h : Int
  anew : Bool
def inn (n : Int) (s : St) (c : Int) : St :=
  if c < n then { s with delta := s.delta + 1 }
  else if c = n then { out := s.out ++ num s.delta s.bias 36, bias := bsn s.delta (s.h + 1) s.anew, delta := 0, h := s.h + 1, anew := true }
  else s
def inK (L : List Int) (n : Int) (s : St) (i : Nat) : St := (L.take i).foldl (inn n) s
theorem take_snoc (L : List Int) (i : Nat) (h : i < L.length) : L.take (i + 1) = L.take i ++ [nth L i] := by
  rw [List.take_add_one, List.getElem?_eq_getElem h]
  unfold nth
  rw [List.getD_eq_getElem?_getD, List.getElem?_eq_getElem h]
  rfl
theorem inK_succ (L : List Int) (n : Int) (s : St) (i : Nat) (h : i < L.length) : inK L n s (i + 1) = inn n (inK L n s i) (nth L i) := by
  unfold inK
  rw [take_snoc L i h, List.foldl_append]
  rfl
/-- The least that is not below a bound. -/
def lsm (n : Int) (m c : Int) : Int := if n ≤ c ∧ c < m then c else m
def lsK (L : List Int) (n : Int) (i : Nat) : Int := (L.take i).foldl (lsm n) 1114111
theorem lsK_succ (L : List Int) (n : Int) (i : Nat) (h : i < L.length) : lsK L n (i + 1) = lsm n (lsK L n i) (nth L i) := by
  unfold lsK
  rw [take_snoc L i h, List.foldl_append]
  rfl
def lst (L : List Int) (n : Int) : Int := lsK L n L.length
def nxt (L : List Int) (n : Int) (s : St) : St :=
  let r := inK L (lst L n) { s with delta := s.delta + (lst L n - n) * (s.h + 1) } L.length
  { r with delta := r.delta + 1 }
def run (L : List Int) : Nat → Int → St → St
  | 0, _, s => s
  | f + 1, n, s => if s.h < L.length then run L f (lst L n + 1) (nxt L n s) else s
def plK (L : List Int) (i : Nat) : List Int := (L.take i).filter (fun p => decide (p < 128))
theorem plK_succ (L : List Int) (i : Nat) (h : i < L.length) : plK L (i + 1) = plK L i ++ (if nth L i < 128 then [nth L i] else []) := by
  unfold plK
  rw [take_snoc L i h, List.filter_append]
  congr 1
  by_cases c : nth L i < 128 <;> simp [c]
def pl (L : List Int) : List Int := plK L L.length
theorem plK_le (L : List Int) (i : Nat) : (plK L i).length ≤ L.length := by
  unfold plK
  exact Nat.le_trans (List.length_filter_le _ _) (by rw [List.length_take]; omega)
def st0 (L : List Int) : St := ⟨pl L ++ (if pl L = [] then [] else [45]), 72, 0, (pl L).length, false⟩
def lab (L : List Int) : List Int := (run L L.length 128 (st0 L)).out
/-- How many are below. -/
def cnt (L : List Int) (n : Int) : Nat := (L.filter (fun p => decide (p < n))).length
theorem cnt_le (L : List Int) (n : Int) : cnt L n ≤ L.length := List.length_filter_le _ _
theorem cnt_step (L : List Int) (n : Int) : cnt L (n + 1) = cnt L n + (L.filter (fun p => decide (p = n))).length := by
  unfold cnt
  induction L with
  | nil => rfl
  | cons a L ih =>
    simp only [List.filter_cons]
    by_cases c1 : a < n
    · rw [if_pos (by simp; omega), if_pos (by simpa using c1), if_neg (by simp; omega)]
      simp only [List.length_cons]
      omega
    · by_cases c2 : a = n
      · rw [if_pos (by simp; omega), if_neg (by simpa using c1), if_pos (by simpa using c2)]
        simp only [List.length_cons]
        omega
      · rw [if_neg (by simp; omega), if_neg (by simpa using c1), if_neg (by simpa using c2)]
        exact ih
/-- Between n and the least there is nothing. -/
theorem lsK_bd (L : List Int) (n : Int) (hn : n ≤ 1114111) : ∀ i, i ≤ L.length → n ≤ lsK L n i ∧ lsK L n i ≤ 1114111 ∧ ∀ j, j < i → nth L j < n ∨ lsK L n i ≤ nth L j
  | 0, _ => ⟨by simpa [lsK] using hn, by simp [lsK], fun j h => absurd h (Nat.not_lt_zero j)⟩
  | i + 1, h => by
    obtain ⟨h1, h2, h3⟩ := lsK_bd L n hn i (by omega)
    rw [lsK_succ L n i (by omega)]
    unfold lsm
    split
    · rename_i c
      refine ⟨c.1, by omega, fun j hj => ?_⟩
      by_cases e : j = i
      · subst e; right; omega
      · rcases h3 j (by omega) with g | g
        · exact .inl g
        · right; omega
    · rename_i c
      refine ⟨h1, h2, fun j hj => ?_⟩
      by_cases e : j = i
      · subst e; omega
      · exact h3 j (by omega)
theorem mem_nth {L : List Int} {x : Int} (h : x ∈ L) : ∃ j, j < L.length ∧ nth L j = x := by
  obtain ⟨j, hj, e⟩ := List.getElem_of_mem h
  refine ⟨j, hj, ?_⟩
  unfold nth
  rw [List.getD_eq_getElem?_getD, List.getElem?_eq_getElem hj]
  exact e
theorem nth_mem {L : List Int} {j : Nat} (h : j < L.length) : nth L j ∈ L := by
  unfold nth
  rw [List.getD_eq_getElem?_getD, List.getElem?_eq_getElem h]
  exact List.getElem_mem h
/-- Where one is not below n, the least is one of them. -/
theorem lsK_in (L : List Int) (n : Int) : ∀ i, i ≤ L.length → lsK L n i = 1114111 ∨ ∃ j, j < i ∧ nth L j = lsK L n i
  | 0, _ => .inl (by simp [lsK])
  | i + 1, h => by
    rw [lsK_succ L n i (by omega)]
    unfold lsm
    split
    · exact .inr ⟨i, by omega, rfl⟩
    · rcases lsK_in L n i (by omega) with e | ⟨j, hj, e⟩
      · exact .inl e
      · exact .inr ⟨j, by omega, e⟩
/-- What is kept between two rounds. -/
structure Ok (L : List Int) (n : Int) (s : St) : Prop where
  n0 : 128 ≤ n
  n1 : n ≤ 1114112
  h : s.h = cnt L n
  d0 : 0 ≤ s.delta
  d1 : s.delta ≤ n * 1001
  b0 : 0 ≤ s.bias
  b1 : s.bias ≤ 100000000000
  o : s.out.length ≤ 1001 + 11 * cnt L n
/-- What is kept within a round, behind i points. -/
structure Ik (L : List Int) (m : Int) (i : Nat) (s : St) : Prop where
  h : s.h = (cnt L m : Int) + ((L.take i).filter (fun p => decide (p = m))).length
  d0 : 0 ≤ s.delta
  d1 : s.delta ≤ m * 1001 + i
  b0 : 0 ≤ s.bias
  b1 : s.bias ≤ 100000000000
  o : (s.out.length : Int) ≤ 1001 + 11 * s.h
theorem Ik.step {L : List Int} {m : Int} {i : Nat} {s : St} (hs : Ik L m i s) (hi : i < L.length) (hL : L.length ≤ 1000) (hm0 : 128 ≤ m) (hm1 : m ≤ 1114111) : Ik L m (i + 1) (inn m s (nth L i)) := by
  obtain ⟨h, d0, d1, b0, b1, o⟩ := hs
  have ef : ((L.take (i + 1)).filter (fun p => decide (p = m))).length = ((L.take i).filter (fun p => decide (p = m))).length + (if nth L i = m then 1 else 0) := by
    rw [take_snoc L i hi, List.filter_append, List.length_append]
    congr 1
    by_cases c : nth L i = m <;> simp [c]
  unfold inn
  by_cases c1 : nth L i < m
  · rw [if_pos c1]
    rw [if_neg (by omega)] at ef
    exact ⟨by rw [ef]; simpa using h, by dsimp only; omega, by dsimp only; omega, b0, b1, o⟩
  · rw [if_neg c1]
    by_cases c2 : nth L i = m
    · rw [if_pos c2]
      rw [if_pos c2] at ef
      have hb := bsn_bd (d := s.delta) (h := s.h + 1) (a := s.anew) d0 (by omega)
      have hl := num_len (b := s.bias) (k := 36) d0 (by omega)
      refine ⟨?_, by simp, ?_, hb.1, by dsimp only; omega, ?_⟩
      · rw [ef]; dsimp only; rw [h]; omega
      · dsimp only; omega
      · dsimp only; rw [List.length_append]; omega
    · rw [if_neg c2]
      rw [if_neg c2] at ef
      exact ⟨by rw [ef]; simpa using h, d0, by omega, b0, b1, o⟩
theorem cnt_lst {L : List Int} {n : Int} (hn : n ≤ 1114111) : cnt L (lst L n) = cnt L n := by
  obtain ⟨h1, _, h3⟩ := lsK_bd L n hn L.length (Nat.le_refl _)
  unfold cnt
  congr 1
  apply List.filter_congr
  intro x hx
  obtain ⟨j, hj, rfl⟩ := mem_nth hx
  rcases h3 j hj with g | g
  · have : nth L j < lst L n := by unfold lst; omega
    simp [g, this]
  · have h5 : ¬ nth L j < n := by omega
    have h6 : ¬ nth L j < lst L n := by unfold lst; omega
    simp [h5, h6]
theorem Ik.start {L : List Int} {n : Int} {s : St} (hs : Ok L n s) (hL : L.length ≤ 1000) (hn : n ≤ 1114111) : Ik L (lst L n) 0 { s with delta := s.delta + (lst L n - n) * (s.h + 1) } := by
  obtain ⟨n0, n1, h, d0, d1, b0, b1, o⟩ := hs
  obtain ⟨h1, h2, _⟩ := lsK_bd L n hn L.length (Nat.le_refl _)
  have hc := cnt_le L n
  have e1 : (lst L n - n) * (s.h + 1) ≤ (lst L n - n) * 1001 := Int.mul_le_mul_of_nonneg_left (by omega) (by unfold lst; omega)
  have e2 : 0 ≤ (lst L n - n) * (s.h + 1) := Int.mul_nonneg (by unfold lst; omega) (by omega)
  refine ⟨?_, by dsimp only; omega, ?_, b0, b1, ?_⟩
  · rw [cnt_lst hn]; simp [h]
  · dsimp only
    omega
  · dsimp only; omega
theorem Ik.at {L : List Int} {m : Int} {s : St} (hs : Ik L m 0 s) (hL : L.length ≤ 1000) (hm0 : 128 ≤ m) (hm1 : m ≤ 1114111) : ∀ i, i ≤ L.length → Ik L m i (inK L m s i)
  | 0, _ => by simpa [inK] using hs
  | i + 1, h => by
    rw [inK_succ L m s i (by omega)]
    exact (Ik.at hs hL hm0 hm1 i (by omega)).step (by omega) hL hm0 hm1
theorem Ok.next {L : List Int} {n : Int} {s : St} (hs : Ok L n s) (hL : L.length ≤ 1000) (hn : n ≤ 1114111) : Ok L (lst L n + 1) (nxt L n s) := by
  obtain ⟨h1, h2, _⟩ := lsK_bd L n hn L.length (Nat.le_refl _)
  have hn0 := hs.n0
  have h1' : n ≤ lst L n := h1
  have h2' : lst L n ≤ 1114111 := h2
  have hk := (Ik.start hs hL hn).at hL (by omega) h2' L.length (Nat.le_refl _)
  obtain ⟨h, d0, d1, b0, b1, o⟩ := hk
  rw [List.take_length] at h
  have hc := cnt_step L (lst L n)
  unfold nxt
  refine ⟨by omega, by omega, ?_, by dsimp only; omega, by dsimp only; omega, b0, b1, ?_⟩
  · dsimp only; rw [h, hc]; omega
  · dsimp only
    have : ((inK L (lst L n) { s with delta := s.delta + (lst L n - n) * (s.h + 1) } L.length).out.length : Int) ≤ 1001 + 11 * (cnt L (lst L n + 1) : Nat) := by rw [hc]; omega
    omega
/-- As long as points are left, more are written. -/
theorem Ok.grow {L : List Int} {n : Int} {s : St} (hs : Ok L n s) (hL : L.length ≤ 1000) (hP : ∀ x ∈ L, x ≤ 1114111) (hlt : s.h < L.length) : n ≤ 1114111 ∧ s.h < (nxt L n s).h := by
  have hex : ∃ x ∈ L, n ≤ x := by
    apply Classical.byContradiction
    intro hc
    have : cnt L n = L.length := by
      unfold cnt
      rw [List.filter_eq_self.2]
      intro x hx
      simp
      exact Classical.byContradiction (fun h => hc ⟨x, hx, by omega⟩)
    have := hs.h
    omega
  obtain ⟨x, hx, hxn⟩ := hex
  have hn : n ≤ 1114111 := by have := hP x hx; omega
  refine ⟨hn, ?_⟩
  obtain ⟨h1, h2, h3⟩ := lsK_bd L n hn L.length (Nat.le_refl _)
  have e1 := (hs.next hL hn).h
  rw [e1, hs.h]
  have hc := cnt_step L (lst L n)
  rw [cnt_lst hn] at hc
  have hin : ∃ y ∈ L, y = lst L n := by
    rcases lsK_in L n L.length (Nat.le_refl _) with e | ⟨j, hj, e⟩
    · obtain ⟨j, hj, rfl⟩ := mem_nth hx
      rcases h3 j hj with g | g
      · omega
      · have := hP _ hx
        exact ⟨_, hx, by unfold lst; omega⟩
    · exact ⟨_, nth_mem hj, e⟩
  obtain ⟨y, hy, rfl⟩ := hin
  have : 0 < (L.filter (fun p => decide (p = lst L n))).length := List.length_pos_of_mem (List.mem_filter.2 ⟨hy, by simp⟩)
  omega
theorem run_more {L : List Int} {f : Nat} {n : Int} {s : St} (h : s.h < L.length) : run L (f + 1) n s = run L f (lst L n + 1) (nxt L n s) := by
  show (if s.h < L.length then _ else _) = _
  rw [if_pos h]
theorem run_last {L : List Int} {f : Nat} {n : Int} {s : St} (h : ¬ s.h < L.length) : run L f n s = s := by
  cases f with
  | zero => rfl
  | succ f =>
    show (if s.h < L.length then _ else _) = _
    rw [if_neg h]
theorem st0_ok (L : List Int) (hL : L.length ≤ 1000) : Ok L 128 (st0 L) := by
  have e : pl L = L.filter (fun p => decide (p < 128)) := by unfold pl plK; rw [List.take_length]
  have hl : (pl L).length ≤ L.length := plK_le L L.length
  refine ⟨by omega, by omega, ?_, by simp [st0], by simp [st0], by simp [st0], by simp [st0], ?_⟩
  · show ((pl L).length : Int) = _
    rw [e]; rfl
  · show (pl L ++ (if pl L = [] then [] else [45])).length ≤ _
    rw [List.length_append]
    split <;> simp <;> omega
/-- The bias is anew as soon as a number was written. -/
structure An (b : Int) (s : St) : Prop where
  le : b ≤ s.h
  an : s.anew = !(s.h == b)
theorem An.inn {b n c : Int} {s : St} (h : An b s) : An b (inn n s c) := by
  obtain ⟨h1, h2⟩ := h
  unfold Lab.inn
  split
  · exact ⟨h1, h2⟩
  · split
    · exact ⟨by dsimp only; omega, by dsimp only; rw [show (s.h + 1 == b) = false by rw [beq_eq_false_iff_ne]; omega]; rfl⟩
    · exact ⟨h1, h2⟩
theorem An.at {b n : Int} {L : List Int} {s : St} (h : An b s) : ∀ i, i ≤ L.length → An b (inK L n s i)
  | 0, _ => by simpa [inK] using h
  | i + 1, hi => by
    rw [inK_succ L n s i (by omega)]
    exact (An.at h i (by omega)).inn
theorem inn_lt {n c : Int} {s : St} (h : c < n) : Lab.inn n s c = { s with delta := s.delta + 1 } := by unfold Lab.inn; rw [if_pos h]
theorem inn_eq {n c : Int} {s : St} (h : c = n) : Lab.inn n s c = { out := s.out ++ num s.delta s.bias 36, bias := bsn s.delta (s.h + 1) s.anew, delta := 0, h := s.h + 1, anew := true } := by unfold Lab.inn; rw [if_neg (by omega), if_pos h]
theorem inn_gt {n c : Int} {s : St} (h : n < c) : Lab.inn n s c = s := by unfold Lab.inn; rw [if_neg (by omega), if_neg (by omega)]
theorem st0_an (L : List Int) : An (pl L).length (st0 L) := ⟨Int.le_refl _, by show false = !(((pl L).length : Int) == (pl L).length); simp⟩
/-- What a run leaves. -/
theorem run_ok {L : List Int} (hL : L.length ≤ 1000) (hP : ∀ x ∈ L, x ≤ 1114111) : ∀ (f : Nat) (n : Int) (s : St), Ok L n s → ∃ n', Ok L n' (run L f n s)
  | 0, n, s, h => ⟨n, h⟩
  | f + 1, n, s, h => by
    by_cases c : s.h < L.length
    · rw [run_more c]
      exact run_ok hL hP f _ _ (h.next hL (h.grow hL hP c).1)
    · rw [run_last c]
      exact ⟨n, h⟩
theorem lab_len {L : List Int} (hL : L.length ≤ 1000) (hP : ∀ x ∈ L, x ≤ 1114111) : (lab L).length ≤ 12001 := by
  obtain ⟨n, h⟩ := run_ok hL hP L.length 128 (st0 L) (st0_ok L hL)
  have := h.o
  have := cnt_le L n
  unfold lab
  omega
end Go.Proofs.YthjjojkabbepdaaDoor.Lab
