/- A label read back: what is read step by step is what was written. Pure. -/
import Derived.Test.YthjjojkabbepdaaDoorLabP
namespace Go.Proofs.YthjjojkabbepdaaDoor.Lab
open Go.RowKit
set_option linter.unusedVariables false
/-- How far a label has been read. -/
structure Dc where
  F : List Int
  p : Int
  place : Int
  bias : Int
  anew : Bool
def cntD (D : Dc) : Int := (D.F.length : Int) + 1
/-- One number read. -/
def dst (D : Dc) (q : Int) : Dc :=
  { F := D.F.insertIdx ((D.place + q) % cntD D).toNat (D.p + (D.place + q) / cntD D), p := D.p + (D.place + q) / cntD D, place := (D.place + q) % cntD D + 1, bias := bsn q (cntD D) D.anew, anew := true }
def fin : Dc → List Int → Dc
  | D, [] => D
  | D, q :: Q => fin (dst D q) Q
def outs : Dc → List Int → List Int
  | _, [] => []
  | D, q :: Q => num q D.bias 36 ++ outs (dst D q) Q
/-- Each number is in its bounds, each point is one. -/
def oks (ok : Int → Bool) : Dc → List Int → Prop
  | _, [] => True
  | D, q :: Q => (0 ≤ q ∧ q ≤ 1115226111 ∧ 0 ≤ D.place ∧ D.place ≤ D.F.length ∧ D.F.length ≤ 999 ∧ 0 ≤ D.bias ∧ D.bias ≤ 100000000000 ∧ 128 ≤ D.p ∧ ok (D.p + (D.place + q) / cntD D) = true) ∧ oks ok (dst D q) Q
theorem fin_snoc (q : Int) : ∀ (Q : List Int) (D : Dc), fin D (Q ++ [q]) = dst (fin D Q) q
  | [], D => rfl
  | x :: Q, D => fin_snoc q Q (dst D x)
theorem outs_snoc (q : Int) : ∀ (Q : List Int) (D : Dc), outs D (Q ++ [q]) = outs D Q ++ num q (fin D Q).bias 36
  | [], D => by simp [outs, fin]
  | x :: Q, D => by
    show num x D.bias 36 ++ outs (dst D x) (Q ++ [q]) = num x D.bias 36 ++ outs (dst D x) Q ++ num q (fin (dst D x) Q).bias 36
    rw [outs_snoc q Q (dst D x), List.append_assoc]
theorem oks_snoc {ok : Int → Bool} (q : Int) : ∀ (Q : List Int) (D : Dc), oks ok D Q → (0 ≤ q ∧ q ≤ 1115226111 ∧ 0 ≤ (fin D Q).place ∧ (fin D Q).place ≤ (fin D Q).F.length ∧ (fin D Q).F.length ≤ 999 ∧ 0 ≤ (fin D Q).bias ∧ (fin D Q).bias ≤ 100000000000 ∧ 128 ≤ (fin D Q).p ∧ ok ((fin D Q).p + ((fin D Q).place + q) / cntD (fin D Q)) = true) → oks ok D (Q ++ [q])
  | [], D, _, h => ⟨h, trivial⟩
  | x :: Q, D, ⟨h1, h2⟩, h => ⟨h1, oks_snoc q Q (dst D x) h2 h⟩
def leF (n : Int) (L : List Int) : List Int := L.filter (fun p => decide (p ≤ n))
def ltF (n : Int) (L : List Int) : List Int := L.filter (fun p => decide (p < n))
/-- The points that have been written, at place i of the round for n. -/
def Fl (L : List Int) (n : Int) (i : Nat) : List Int := leF n (L.take i) ++ ltF n (L.drop i)
theorem drop_cons (L : List Int) (i : Nat) (h : i < L.length) : L.drop i = nth L i :: L.drop (i + 1) := by
  rw [List.drop_eq_getElem_cons h]
  unfold nth
  rw [List.getD_eq_getElem?_getD, List.getElem?_eq_getElem h]
  rfl
theorem le_snoc (L : List Int) (n : Int) (i : Nat) (h : i < L.length) : leF n (L.take (i + 1)) = leF n (L.take i) ++ (if nth L i ≤ n then [nth L i] else []) := by
  unfold leF
  rw [take_snoc L i h, List.filter_append]
  congr 1
  by_cases c : nth L i ≤ n <;> simp [c]
theorem lt_drop (L : List Int) (n : Int) (i : Nat) (h : i < L.length) : ltF n (L.drop i) = (if nth L i < n then [nth L i] else []) ++ ltF n (L.drop (i + 1)) := by
  unfold ltF
  rw [drop_cons L i h, List.filter_cons]
  by_cases c : nth L i < n <;> simp [c]
theorem Fl_same {L : List Int} {n : Int} {i : Nat} (h : i < L.length) (hc : nth L i ≠ n) : Fl L n (i + 1) = Fl L n i := by
  unfold Fl
  rw [le_snoc L n i h, lt_drop L n i h]
  by_cases c : nth L i < n
  · rw [if_pos c, if_pos (by omega), List.append_assoc]
  · rw [if_neg c, if_neg (by omega)]
    simp
theorem Fl_new {L : List Int} {n : Int} {i : Nat} (h : i < L.length) (hc : nth L i = n) : Fl L n (i + 1) = leF n (L.take i) ++ n :: ltF n (L.drop (i + 1)) ∧ Fl L n i = leF n (L.take i) ++ ltF n (L.drop (i + 1)) := by
  unfold Fl
  rw [le_snoc L n i h, lt_drop L n i h, hc, if_pos (by omega), if_neg (by omega)]
  simp
theorem Fl_start (L : List Int) (n : Int) : Fl L n 0 = ltF n L := by unfold Fl leF; simp
theorem Fl_end (L : List Int) (n : Int) : Fl L n L.length = Fl L (n + 1) 0 := by
  rw [Fl_start]
  unfold Fl leF ltF
  simp only [List.take_length, List.drop_length, List.filter_nil, List.append_nil]
  apply List.filter_congr
  intro x _
  rw [decide_eq_decide]
  omega
theorem Fl_jump {L : List Int} {n : Int} (hn : n ≤ 1114111) : Fl L n 0 = Fl L (lst L n) 0 := by
  rw [Fl_start, Fl_start]
  obtain ⟨h1, _, h3⟩ := lsK_bd L n hn L.length (Nat.le_refl _)
  have h1' : n ≤ lst L n := h1
  unfold ltF
  apply List.filter_congr
  intro x hx
  obtain ⟨j, hj, rfl⟩ := mem_nth hx
  have h4 : nth L j < n ∨ lst L n ≤ nth L j := h3 j hj
  rw [decide_eq_decide]
  omega
theorem Fl_len (L : List Int) (n : Int) (i : Nat) : (Fl L n i).length ≤ L.length := by
  unfold Fl leF ltF
  rw [List.length_append]
  have h1 := List.length_filter_le (fun p => decide (p ≤ n)) (L.take i)
  have h2 := List.length_filter_le (fun p => decide (p < n)) (L.drop i)
  rw [List.length_take] at h1
  rw [List.length_drop] at h2
  omega
theorem insert_mid (A B : List Int) (x : Int) : (A ++ B).insertIdx A.length x = A ++ x :: B := by
  induction A with
  | nil => rfl
  | cons a A ih => simp [ih]
def D0 (L : List Int) : Dc := ⟨pl L, 128, 0, 72, false⟩
/-- What is read keeps step with what is written: the numbers so far are Q; r of the written points stand ahead of place i. -/
structure Sy (ok : Int → Bool) (L : List Int) (n : Int) (i : Nat) (s : St) (Q : List Int) : Prop where
  out : s.out = (st0 L).out ++ outs (D0 L) Q
  oks : oks ok (D0 L) Q
  F : (fin (D0 L) Q).F = Fl L n i
  h : s.h = (Fl L n i).length
  bias : (fin (D0 L) Q).bias = s.bias
  anew : (fin (D0 L) Q).anew = s.anew
  p0 : 128 ≤ (fin (D0 L) Q).p
  p1 : (fin (D0 L) Q).p ≤ n
  pl0 : 0 ≤ (fin (D0 L) Q).place
  pl1 : (fin (D0 L) Q).place ≤ (Fl L n i).length
  sum : (fin (D0 L) Q).place + s.delta = (n - (fin (D0 L) Q).p) * ((Fl L n i).length + 1) + (leF n (L.take i)).length
theorem le_len (L : List Int) (n : Int) (i : Nat) : (leF n (L.take i)).length ≤ (Fl L n i).length := by unfold Fl; rw [List.length_append]; omega
theorem Sy.start (ok : Int → Bool) (L : List Int) : Sy ok L 128 0 (st0 L) [] := by
  have e : pl L = Fl L 128 0 := by
    rw [Fl_start]
    unfold pl plK ltF
    rw [List.take_length]
  refine ⟨by simp [outs], trivial, e, ?_, rfl, rfl, by show (128 : Int) ≤ 128; omega, by show (128 : Int) ≤ 128; omega, by show (0 : Int) ≤ 0; omega, by show (0 : Int) ≤ _; omega, ?_⟩
  · show ((pl L).length : Int) = _
    rw [e]
  · show (0 : Int) + 0 = (128 - 128) * _ + _
    unfold leF
    simp
theorem Sy.jump {ok : Int → Bool} {L : List Int} {n : Int} {s : St} {Q : List Int} (h : Sy ok L n 0 s Q) (hn : n ≤ 1114111) : Sy ok L (lst L n) 0 { s with delta := s.delta + (lst L n - n) * (s.h + 1) } Q := by
  obtain ⟨h1, _, _⟩ := lsK_bd L n hn L.length (Nat.le_refl _)
  have h1' : n ≤ lst L n := h1
  have ej := Fl_jump (L := L) hn
  have e0 : ∀ m, (leF m (L.take 0)).length = 0 := fun m => by unfold leF; simp
  refine ⟨h.out, h.oks, by rw [← ej]; exact h.F, by rw [← ej]; exact h.h, h.bias, h.anew, h.p0, by have := h.p1; omega, h.pl0, by rw [← ej]; exact h.pl1, ?_⟩
  have hs := h.sum
  have hh := h.h
  rw [← ej]
  show (fin (D0 L) Q).place + (s.delta + (lst L n - n) * (s.h + 1)) = _
  rw [e0] at hs ⊢
  rw [hh, ← Int.add_assoc, hs]
  rw [show lst L n - (fin (D0 L) Q).p = (n - (fin (D0 L) Q).p) + (lst L n - n) by omega, Int.add_mul]
  omega
theorem Sy.step {ok : Int → Bool} {L : List Int} {m : Int} {i : Nat} {s : St} {Q : List Int} (hs : Sy ok L m i s Q) (hk : Ik L m i s) (hi : i < L.length) (hL : L.length ≤ 1000) (hm0 : 128 ≤ m) (hm1 : m ≤ 1114111) (hok : ∀ x ∈ L, ok x = true) :
    ∃ Q', Sy ok L m (i + 1) (inn m s (nth L i)) Q' := by
  by_cases c1 : nth L i < m
  · refine ⟨Q, ?_⟩
    rw [inn_lt c1]
    have ef := Fl_same hi (show nth L i ≠ m by omega)
    have el := le_snoc L m i hi
    rw [if_pos (by omega)] at el
    refine ⟨hs.out, hs.oks, by rw [ef]; exact hs.F, by rw [ef]; exact hs.h, hs.bias, hs.anew, hs.p0, hs.p1, hs.pl0, by rw [ef]; exact hs.pl1, ?_⟩
    rw [ef, el, List.length_append]
    show (fin (D0 L) Q).place + (s.delta + 1) = _
    have := hs.sum
    simp
    omega
  · by_cases c2 : nth L i = m
    · rw [inn_eq c2]
      obtain ⟨ea, eb⟩ := Fl_new hi c2
      have el := le_snoc L m i hi
      rw [c2, if_pos (by omega)] at el
      have hsum := hs.sum
      have hle := le_len L m i
      have hln := Fl_len L m i
      have hln2 : (Fl L m i).length + 1 = (Fl L m (i + 1)).length := by rw [ea, eb]; simp; omega
      have hln3 := Fl_len L m (i + 1)
      generalize hD : fin (D0 L) Q = D at *
      have hF : D.F = Fl L m i := by rw [← hD]; exact hs.F
      have hc : cntD D = ((Fl L m i).length : Int) + 1 := by unfold cntD; rw [hF]
      have hcp : 0 < cntD D := by rw [hc]; omega
      have hr0 : 0 ≤ ((leF m (L.take i)).length : Int) := by omega
      have hr1 : ((leF m (L.take i)).length : Int) < cntD D := by rw [hc]; omega
      have hsum' : D.place + s.delta = (m - D.p) * cntD D + (leF m (L.take i)).length := by rw [hc]; exact hsum
      have hdiv : (D.place + s.delta) / cntD D = m - D.p := by
        rw [hsum', Int.add_comm, Int.add_mul_ediv_right _ _ (by omega), Int.ediv_eq_zero_of_lt hr0 hr1]
        omega
      have hmod : (D.place + s.delta) % cntD D = (leF m (L.take i)).length := by
        rw [hsum', Int.add_comm, Int.add_mul_emod_self_right]
        exact Int.emod_eq_of_lt hr0 hr1
      have hds : dst D s.delta = { F := Fl L m (i + 1), p := m, place := (leF m (L.take i)).length + 1, bias := bsn s.delta (cntD D) D.anew, anew := true } := by
        unfold dst
        rw [hdiv, hmod, show D.p + (m - D.p) = m by omega, hF, eb, ea]
        congr 1
        rw [Int.toNat_natCast]
        exact insert_mid _ _ _
      have hbias : D.bias = s.bias := by rw [← hD]; exact hs.bias
      have hanew : D.anew = s.anew := by rw [← hD]; exact hs.anew
      have hd1 := hk.d1
      refine ⟨Q ++ [s.delta], ?_, ?_, ?_, ?_, ?_, ?_, ?_, ?_, ?_, ?_, ?_⟩
      · show s.out ++ num s.delta s.bias 36 = _
        rw [outs_snoc, hD, hbias, hs.out, List.append_assoc]
      · refine oks_snoc _ Q _ hs.oks ?_
        rw [hD]
        refine ⟨hk.d0, by omega, by rw [← hD]; exact hs.pl0, by rw [hF]; have := hs.pl1; rw [hD] at this; exact this, by rw [hF]; omega, by rw [hbias]; exact hk.b0, by rw [hbias]; exact hk.b1, by rw [← hD]; exact hs.p0, ?_⟩
        rw [hdiv, show D.p + (m - D.p) = m by omega, ← c2]
        exact hok _ (nth_mem hi)
      all_goals (try rw [fin_snoc, hD, hds])
      · show s.h + 1 = _
        rw [hs.h]
        omega
      · show bsn s.delta (cntD D) D.anew = bsn s.delta (s.h + 1) s.anew
        rw [hc, hanew, hs.h]
      · show (128 : Int) ≤ m
        exact hm0
      · show m ≤ m
        omega
      · show (0 : Int) ≤ ((leF m (L.take i)).length : Int) + 1
        omega
      · show ((leF m (L.take i)).length : Int) + 1 ≤ _
        omega
      · show ((leF m (L.take i)).length : Int) + 1 + 0 = (m - m) * _ + _
        rw [el, List.length_append]
        simp
    · refine ⟨Q, ?_⟩
      rw [inn_gt (by omega)]
      have ef := Fl_same hi c2
      have el := le_snoc L m i hi
      rw [if_neg (by omega), List.append_nil] at el
      exact ⟨hs.out, hs.oks, by rw [ef]; exact hs.F, by rw [ef]; exact hs.h, hs.bias, hs.anew, hs.p0, hs.p1, hs.pl0, by rw [ef]; exact hs.pl1, by rw [ef, el]; exact hs.sum⟩
theorem Sy.at {ok : Int → Bool} {L : List Int} {m : Int} {s : St} {Q : List Int} (hs : Sy ok L m 0 s Q) (hk : Ik L m 0 s) (hL : L.length ≤ 1000) (hm0 : 128 ≤ m) (hm1 : m ≤ 1114111) (hok : ∀ x ∈ L, ok x = true) : ∀ i, i ≤ L.length → ∃ Q', Sy ok L m i (inK L m s i) Q'
  | 0, _ => ⟨Q, by simpa [inK] using hs⟩
  | i + 1, h => by
    obtain ⟨Q', h'⟩ := Sy.at hs hk hL hm0 hm1 hok i (by omega)
    rw [inK_succ L m s i (by omega)]
    exact h'.step (hk.at hL hm0 hm1 i (by omega)) (by omega) hL hm0 hm1 hok
theorem Sy.next {ok : Int → Bool} {L : List Int} {n : Int} {s : St} {Q : List Int} (hs : Sy ok L n 0 s Q) (hk : Ok L n s) (hL : L.length ≤ 1000) (hn : n ≤ 1114111) (hok : ∀ x ∈ L, ok x = true) : ∃ Q', Sy ok L (lst L n + 1) 0 (nxt L n s) Q' := by
  obtain ⟨h1, h2, _⟩ := lsK_bd L n hn L.length (Nat.le_refl _)
  have h1' : n ≤ lst L n := h1
  have h2' : lst L n ≤ 1114111 := h2
  have hn0 := hk.n0
  obtain ⟨Q', h'⟩ := (hs.jump hn).at (Ik.start hk hL hn) hL (by omega) h2' hok L.length (Nat.le_refl _)
  refine ⟨Q', ?_⟩
  have ee := Fl_end L (lst L n)
  have eq0 : (leF (lst L n + 1) (L.take 0)).length = 0 := by unfold leF; simp
  have hfull : (leF (lst L n) (L.take L.length)).length = (Fl L (lst L n) L.length).length := by
    unfold Fl ltF
    rw [List.drop_length]
    simp
  have hsum := h'.sum
  rw [hfull] at hsum
  unfold nxt
  refine ⟨h'.out, h'.oks, by rw [← ee]; exact h'.F, by rw [← ee]; exact h'.h, h'.bias, h'.anew, h'.p0, by have := h'.p1; omega, h'.pl0, by rw [← ee]; exact h'.pl1, ?_⟩
  rw [← ee, eq0]
  dsimp only
  rw [← Int.add_assoc, hsum, show lst L n + 1 - (fin (D0 L) Q').p = (lst L n - (fin (D0 L) Q').p) + 1 by omega, Int.add_mul]
  omega
theorem Sy.run {ok : Int → Bool} {L : List Int} (hL : L.length ≤ 1000) (hP : ∀ x ∈ L, x ≤ 1114111) (hok : ∀ x ∈ L, ok x = true) : ∀ (f : Nat) (n : Int) (s : St) (Q : List Int), Sy ok L n 0 s Q → Ok L n s → (L.length : Int) ≤ s.h + f → ∃ n' Q', Sy ok L n' 0 (run L f n s) Q' ∧ (L.length : Int) ≤ (run L f n s).h
  | 0, n, s, Q, h, hk, hf => ⟨n, Q, h, by show (L.length : Int) ≤ s.h; simpa using hf⟩
  | f + 1, n, s, Q, h, hk, hf => by
    by_cases c : s.h < L.length
    · obtain ⟨hn, hg⟩ := hk.grow hL hP c
      rw [run_more c]
      obtain ⟨Q', h'⟩ := h.next hk hL hn hok
      exact Sy.run hL hP hok f _ _ Q' h' (hk.next hL hn) (by omega)
    · rw [run_last c]
      exact ⟨n, Q, h, by omega⟩
/-- A label is its plain points and numbers that, read one by one, give the points. -/
theorem lab_read (ok : Int → Bool) {L : List Int} (hL : L.length ≤ 1000) (hP : ∀ x ∈ L, x ≤ 1114111) (hok : ∀ x ∈ L, ok x = true) :
    ∃ Q, lab L = (st0 L).out ++ outs (D0 L) Q ∧ oks ok (D0 L) Q ∧ (fin (D0 L) Q).F = L := by
  obtain ⟨n, Q, h, hl⟩ := Sy.run hL hP hok L.length 128 (st0 L) [] (Sy.start ok L) (st0_ok L hL) (by show (L.length : Int) ≤ ((pl L).length : Int) + L.length; omega)
  refine ⟨Q, h.out, h.oks, ?_⟩
  rw [h.F, Fl_start]
  have hh := h.h
  rw [Fl_start] at hh
  have hle : (ltF n L).length ≤ L.length := List.length_filter_le _ _
  unfold ltF at hh hle ⊢
  rw [List.filter_eq_self]
  intro x hx
  have : (L.filter (fun p => decide (p < n))).length = L.length := by omega
  exact (List.length_filter_eq_length_iff.1 this) x hx
end Go.Proofs.YthjjojkabbepdaaDoor.Lab
