/- Several texts in one. -/
import Derived.Test.YtlhoeoeapkjegaaDoorMQ
import Derived.Test.YtlhoeoeapkjegaaDoorMFd
import Derived.Test.YtlhoeoeapkjegaaDoorNTextW
import Derived.Test.YtlhoeoeapkjegaaDoorDSource
import Derived.Test.YtlhoeoeapkjegaaDoorMD
import Derived.Deep.RegionHeld3
import Derived.Deep.Cut
import Derived.Deep.CutRange
/- A text fed in pieces: what is held, what is told. No Go in sight. -/
namespace Go.Proofs.YtlhoeoeapkjegaaDoor
open Go.RowKit
set_option linter.unusedVariables false
/-- Nothing passes a starter. -/
theorem ins_x {x : Int} (hx : clsZ x = 0) (Q : List Int) (y : Int) : ∃ Q2, ∀ P, insO (P ++ x :: Q) y = P ++ x :: Q2 := by
  by_cases hy : clsZ y = 0
  · exact ⟨Q ++ [y], fun P => by rw [insO_zero _ hy]; simp⟩
  · obtain ⟨Z1, Z2, e, h2, h1⟩ := split_last y _ (x :: Q) rfl
    rcases h1 with rfl | ⟨Z, z, rfl, hz⟩
    · have := h2 x (by rw [List.nil_append] at e; rw [← e]; simp)
      rw [not_below_zero hx] at this
      cases this
    · match Z, e with
      | [], e =>
        simp only [List.nil_append, List.singleton_append, List.cons.injEq] at e
        obtain ⟨rfl, rfl⟩ := e
        refine ⟨y :: Q, fun P => ?_⟩
        have := insO_at (Z1 := P ++ [x]) (Z2 := Q) hy h2 (.inr ⟨P, x, rfl, hz⟩)
        simpa using this
      | a :: R, e =>
        simp only [List.cons_append, List.append_assoc, List.nil_append, List.cons.injEq] at e
        obtain ⟨rfl, rfl⟩ := e
        refine ⟨R ++ z :: y :: Z2, fun P => ?_⟩
        have := insO_at (Z1 := P ++ x :: (R ++ [z])) (Z2 := Z2) hy h2 (.inr ⟨P ++ x :: R, z, by simp, hz⟩)
        simpa using this
theorem ord_cut {x : Int} (hx : clsZ x = 0) (A : List Int) : ∀ (n : Nat) (B : List Int), B.length = n → ∃ Q, ordL (x :: B) = x :: Q ∧ ordL (A ++ x :: B) = ordL A ++ x :: Q
  | 0, B, h => by
    obtain rfl := List.length_eq_zero_iff.1 h
    exact ⟨[], (ord_zero [] hx).trans rfl, ord_zero A hx⟩
  | n + 1, B, h => by
    rcases snoc_cases B with rfl | ⟨B', y, rfl⟩
    · simp at h
    · obtain ⟨Q, e1, e2⟩ := ord_cut hx A n B' (by simpa using h)
      obtain ⟨Q2, hq⟩ := ins_x hx Q y
      refine ⟨Q2, ?_, ?_⟩
      · rw [show x :: (B' ++ [y]) = (x :: B') ++ [y] from rfl, ordL_snoc, e1]
        exact hq []
      · rw [show A ++ x :: (B' ++ [y]) = (A ++ x :: B') ++ [y] by simp, ordL_snoc, e2]
        exact hq _
theorem nth_behind (P D : List Int) (s : Nat) : nth (P ++ D) (P.length + s) = nth D s := by
  simp [nth, List.getD, List.getElem?_append_right]
theorem step_shift (P D : List Int) (s : Nat) (hs : s < D.length) (z : Int) : ∃ (D' : List Int) (s' : Nat), s' < D'.length ∧ stepC (D, (s : Int)) z = (D', (s' : Int)) ∧ stepC (P ++ D, ((P.length + s : Nat) : Int)) z = (P ++ D', ((P.length + s' : Nat) : Int)) := by
  have e1 : opn (P ++ D) ((P.length + s : Nat) : Int) z = opn D (s : Int) z := by
    unfold opn
    have d1 : (((P.length + s : Nat) : Int) + 1).toNat = P.length + (s + 1) := by omega
    have d2 : ((s : Int) + 1).toNat = s + 1 := by omega
    rw [d1, d2, decide_eq_true (by omega : (0 : Int) ≤ ((P.length + s : Nat) : Int)), decide_eq_true (by omega : (0 : Int) ≤ (s : Int))]
    congr 2
    rw [List.drop_append, List.drop_eq_nil_of_le (by omega), List.nil_append]
    congr 1
    omega
  have e2 : nth (P ++ D) ((P.length + s : Nat) : Int).toNat = nth D ((s : Int)).toNat := by
    rw [Int.toNat_natCast, Int.toNat_natCast]
    exact nth_behind P D s
  by_cases h : opn D (s : Int) z = true ∧ 0 ≤ pairP (nth D ((s : Int)).toNat) z
  · refine ⟨D.set s (pairP (nth D ((s : Int)).toNat) z), s, by simpa using hs, ?_, ?_⟩
    · rw [step_yes h]
      rfl
    · rw [step_yes (by rw [e1, e2]; exact h), e2, Int.toNat_natCast, List.set_append_right _ _ (by omega)]
      congr 3
      omega
  · refine ⟨D ++ [z], if clsZ z = 0 then D.length else s, ?_, ?_, ?_⟩
    · split <;> simp <;> omega
    · rw [step_no h]
      congr 1
      split <;> rfl
    · rw [step_no (by rw [e1, e2]; exact h), List.append_assoc]
      congr 1
      split
      · rw [List.length_append]
      · rfl
theorem fc_shift (P : List Int) : ∀ (Z D : List Int) (s : Nat), s < D.length → (fc (P ++ D, ((P.length + s : Nat) : Int)) Z).1 = P ++ (fc (D, (s : Int)) Z).1
  | [], _, _, _ => rfl
  | z :: t, D, s, hs => by
    obtain ⟨D', s', h1, h2, h3⟩ := step_shift P D s hs z
    rw [fc_cons, fc_cons, h2, h3]
    exact fc_shift P t D' s' h1
theorem cmp_cut {x : Int} (hx : clsZ x = 0) (hs : isSec x = false) (A Q : List Int) : (cmpQ (A ++ x :: Q)).1 = (cmpQ A).1 ++ (cmpQ (x :: Q)).1 := by
  have hno : ∀ (D : List Int) (s : Int), ¬ (opn D s x = true ∧ 0 ≤ pairP (nth D s.toNat) x) := fun D s h => by
    have h2 := h.2
    rw [pair_sec hs] at h2
    omega
  have e2 : cmpQ (x :: Q) = fc ([x], ((0 : Nat) : Int)) Q := by
    show fc (stepC ([], -1) x) Q = _
    rw [step_no (hno _ _), if_pos hx]
    rfl
  rw [cmp_app, e2]
  generalize cmpQ A = q
  obtain ⟨D, s⟩ := q
  rw [fc_cons, step_no (hno _ _), if_pos hx]
  exact fc_shift D Q [x] 0 (by simp)
theorem safe_first {k : Bool} {p : Int} (h : safB k p = true) : ∃ x R, allF k 2 p = x :: R ∧ clsZ x = 0 ∧ isSec x = false := by
  have hl := (allF_len k 2 p).1
  unfold safB fstB at h
  match e : allF k 2 p, hl with
  | [], hl => simp at hl
  | x :: R, _ =>
    rw [e] at h
    rw [Bool.and_eq_true] at h
    refine ⟨x, R, rfl, of_decide_eq_true h.1, ?_⟩
    have h2 := h.2
    rw [Bool.not_eq_true'] at h2
    exact h2
/-- Ahead of a safe point a text may be cut. -/
theorem nrm_cut (f : Int) {p : Int} (h : safB (isK f) p = true) (A B : List Int) : nrmL f (A ++ p :: B) = nrmL f A ++ nrmL f (p :: B) := by
  obtain ⟨x, R, e, hx, hs⟩ := safe_first h
  have e1 : nrmA (isK f) (p :: B) = x :: (R ++ nrmA (isK f) B) := by rw [nrmA_cons, e]; rfl
  have e2 : nrmA (isK f) (A ++ p :: B) = nrmA (isK f) A ++ x :: (R ++ nrmA (isK f) B) := by rw [nrmA_app, e1]
  obtain ⟨Q, q1, q2⟩ := ord_cut hx (nrmA (isK f) A) _ (R ++ nrmA (isK f) B) rfl
  unfold nrmL
  rw [e1, e2, q1, q2]
  split
  · exact cmp_cut hx hs _ _
  · rfl
theorem nrm_nil (f : Int) : nrmL f [] = [] := by
  unfold nrmL
  split <;> rfl
theorem last_spec (k : Bool) (L : List Int) : ∀ n, (0 ≤ lastTo k L n → safB k (nth L (lastTo k L n).toNat) = true) ∧ ∀ i : Nat, lastTo k L n < i → i < n → safB k (nth L i) = false
  | 0 => ⟨fun h => by simp [lastTo] at h, fun i _ h => by omega⟩
  | n + 1 => by
    obtain ⟨h1, h2⟩ := last_spec k L n
    unfold lastTo
    by_cases h : safB k (nth L n) = true
    · rw [if_pos h]
      exact ⟨fun _ => by rw [Int.toNat_natCast]; exact h, fun i a b => by omega⟩
    · rw [if_neg h]
      refine ⟨h1, fun i a b => ?_⟩
      by_cases e : i = n
      · subst e
        simpa using h
      · exact h2 i a (by omega)
/-- What is held, and what is told. -/
def Hd (L : List Int) (c j : Nat) : ByteArray := strOfNums (textL ((L.take j).drop c))
def Ot (f : Int) (L : List Int) (c : Nat) : ByteArray := strOfNums (textL (nrmL f (L.take c)))
structure NIv (f : Int) (L : List Int) (c j : Nat) : Prop where
  le : c ≤ j
  lj : j ≤ L.length
  st : c = 0 ∨ (c < L.length ∧ safB (isK f) (nth L c) = true)
  un : ∀ i, c < i → i < j → safB (isK f) (nth L i) = false
theorem nth_mid {L : List Int} {c j i : Nat} (h : c + i < j) (hj : j ≤ L.length) : nth ((L.take j).drop c) i = nth L (c + i) := by
  simp [nth, List.getD, h]
theorem cut_all {f : Int} {L : List Int} {c : Nat} (h : c = 0 ∨ (c < L.length ∧ safB (isK f) (nth L c) = true)) : nrmL f L = nrmL f (L.take c) ++ nrmL f (L.drop c) := by
  rcases h with rfl | ⟨h1, h2⟩
  · rw [List.take_zero, nrm_nil]
    rfl
  · have e := nth_split h1
    have e2 : L.drop c = nth L c :: L.drop (c + 1) := by
      rw [List.drop_eq_getElem_cons h1]
      simp [nth, List.getD, h1]
    rw [e2, ← nrm_cut f h2, ← e]
theorem cut_mid {f : Int} {L : List Int} {c d : Nat} (h : c = 0 ∨ (c < L.length ∧ safB (isK f) (nth L c) = true)) (hd : c < d) (hl : d ≤ L.length) : nrmL f (L.take d) = nrmL f (L.take c) ++ nrmL f ((L.take d).drop c) := by
  have h' : c = 0 ∨ (c < (L.take d).length ∧ safB (isK f) (nth (L.take d) c) = true) := by
    rcases h with h | ⟨h1, h2⟩
    · exact .inl h
    · refine .inr ⟨by simp; omega, ?_⟩
      rw [show nth (L.take d) c = nth L c by simp [nth, List.getD, hd]]
      exact h2
  have := cut_all h'
  rw [List.take_take, Nat.min_eq_left (by omega)] at this
  exact this
theorem textL_app (a b : List Int) : textL (a ++ b) = textL a ++ textL b := List.flatMap_append
theorem mid_pt {L : List Int} (hP : ∀ x ∈ L, isPt x = true) (c j : Nat) : ∀ x ∈ (L.take j).drop c, isPt x = true := fun x hx => hP x (List.mem_of_mem_take (List.mem_of_mem_drop hx))
theorem hd_pts {L : List Int} (hP : ∀ x ∈ L, isPt x = true) (c j : Nat) : pts (Hd L c j) = (L.take j).drop c := pts_text _ (mid_pt hP c j)
theorem NIv.good {f : Int} {L : List Int} {c j : Nat} (h : NIv f L c j) (hf : isF f = true) (hP : ∀ x ∈ L, isPt x = true) (hs : (Hd L c j).size ≤ 1000) : nfB f (Hd L c j) = false := by
  have hv : vB (Hd L c j) = true := wel_back (by rw [hd_pts hP]; rfl)
  have hl : ¬ 0 < lastTo (isK f) (pts (Hd L c j)) (pts (Hd L c j)).length := by
    rw [hd_pts hP]
    refine last_none (fun i h1 h2 => ?_)
    simp only [List.length_drop, List.length_take] at h2
    have := h.lj
    rw [nth_mid (by omega) h.lj]
    exact h.un _ (by omega) (by omega)
  unfold nfB
  rw [hf, hv, decide_eq_false (by omega), decide_eq_false hl]
  rfl
theorem nums_app2 (x y : List Int) : strOfNums x ++ strOfNums y = strOfNums (x ++ y) := by
  unfold strOfNums
  apply ByteArray.ext
  simp [ByteArray.data_append]
theorem feed_step {f : Int} {L : List Int} {c j m : Nat} (h : NIv f L c j) (hf : isF f = true) (hP : ∀ x ∈ L, isPt x = true) (hs : (Hd L c j).size ≤ 1000) (hw : (textL (nrmL f L)).length ≤ 65536) (hm : j + m ≤ L.length) (hm4 : m ≤ 1000) :
    feedV f (Hd L c j) (strOfNums (textL ((L.drop j).take m))) = badV 8 ∨ ∃ c' T, NIv f L c' (j + m) ∧ (Hd L c' (j + m)).size ≤ 1000 ∧ feedV f (Hd L c j) (strOfNums (textL ((L.drop j).take m))) = .agg #[.int .i64 0, .int .i64 f, .string (Hd L c' (j + m)), .string T] ∧ Ot f L c ++ T = Ot f L c' := by
  have hg := h.good hf hP hs
  have hX : ∀ x ∈ (L.drop j).take m, isPt x = true := fun x hx => hP x (List.mem_of_mem_drop (List.mem_of_mem_take hx))
  have hsz : ¬ 65536 < (strOfNums (textL ((L.drop j).take m))).size := by
    rw [strOfNums_size]
    have := textL_le ((L.drop j).take m)
    simp only [List.length_take, List.length_drop] at this
    omega
  have eY : pts (Hd L c j) ++ pts (strOfNums (textL ((L.drop j).take m))) = (L.take (j + m)).drop c := by
    rw [hd_pts hP, pts_text _ hX]
    have := h.le
    have := h.lj
    rw [List.take_add, List.drop_append]
    congr 1
    rw [List.length_take, show c - min j L.length = 0 by omega, List.drop_zero]
  unfold feedV
  rw [if_neg hsz, if_neg (by rw [hg]; simp), eY]
  have hYl : ((L.take (j + m)).drop c).length = j + m - c := by
    simp only [List.length_drop, List.length_take]
    omega
  obtain ⟨l1, l2⟩ := last_spec (isK f) ((L.take (j + m)).drop c) ((L.take (j + m)).drop c).length
  have l3 := lastTo_bd (isK f) ((L.take (j + m)).drop c) ((L.take (j + m)).drop c).length
  have hcz : cutZ (isK f) ((L.take (j + m)).drop c) = (lastTo (isK f) ((L.take (j + m)).drop c) ((L.take (j + m)).drop c).length).toNat := rfl
  have hle := h.le
  have eH : fedH f ((L.take (j + m)).drop c) = Hd L (c + cutZ (isK f) ((L.take (j + m)).drop c)) (j + m) := by
    unfold fedH Hd
    rw [List.drop_drop]
  have eT : fedT f ((L.take (j + m)).drop c) = strOfNums (textL (nrmL f (((L.take (c + cutZ (isK f) ((L.take (j + m)).drop c)))).drop c))) := by
    unfold fedT
    rw [List.take_drop, List.take_take, Nat.min_eq_left (by omega)]
  generalize lastTo (isK f) ((L.take (j + m)).drop c) ((L.take (j + m)).drop c).length = z at *
  generalize cutZ (isK f) ((L.take (j + m)).drop c) = q at *
  subst hcz
  have hst : c + z.toNat = 0 ∨ (c + z.toNat < L.length ∧ safB (isK f) (nth L (c + z.toNat)) = true) := by
    by_cases h0 : 0 < z
    · have := l1 (by omega)
      rw [nth_mid (by omega) hm] at this
      exact .inr ⟨by omega, this⟩
    · rw [show z.toNat = 0 by omega, Nat.add_zero]
      exact h.st
  have hiv : NIv f L (c + z.toNat) (j + m) := by
    refine ⟨by omega, hm, hst, fun i a b => ?_⟩
    have := l2 (i - c) (by omega) (by omega)
    rw [nth_mid (by omega) hm, show c + (i - c) = i by omega] at this
    exact this
  have eO : Ot f L c ++ fedT f ((L.take (j + m)).drop c) = Ot f L (c + z.toNat) := by
    rw [eT]
    unfold Ot
    rw [nums_app2, ← textL_app]
    by_cases h0 : 0 < z
    · rw [← cut_mid h.st (by omega) (by omega)]
    · rw [show z.toNat = 0 by omega, Nat.add_zero, List.drop_eq_nil_of_le (by simp; omega), nrm_nil, List.append_nil]
  have hT : ¬ 65536 < (fedT f ((L.take (j + m)).drop c)).size := by
    have h1 := congrArg ByteArray.size eO
    rw [ByteArray.size_append] at h1
    have h2 := cut_all hst
    have h3 : (Ot f L (c + z.toNat)).size ≤ (textL (nrmL f L)).length := by
      unfold Ot
      rw [strOfNums_size, h2, textL_app, List.length_append]
      omega
    omega
  rw [if_neg hT, eH]
  by_cases hh : 1000 < (Hd L (c + z.toNat) (j + m)).size
  · rw [if_pos hh]
    exact .inl rfl
  · rw [if_neg hh]
    exact .inr ⟨c + z.toNat, _, hiv, by omega, rfl, eO⟩
theorem feed_end {f : Int} {L : List Int} {c : Nat} (h : NIv f L c L.length) (hf : isF f = true) (hP : ∀ x ∈ L, isPt x = true) (hs : (Hd L c L.length).size ≤ 1000) :
    ∃ T, endV f (Hd L c L.length) = .agg #[.int .i64 0, .int .i64 f, .string ⟨#[]⟩, .string T] ∧ Ot f L c ++ T = strOfNums (textL (nrmL f L)) := by
  refine ⟨strOfNums (nrmT f (Hd L c L.length)), ?_, ?_⟩
  · unfold endV
    rw [if_neg (by rw [h.good hf hP hs]; simp)]
  · unfold nrmT Ot
    rw [hd_pts hP, nums_app2, ← textL_app, List.take_length, ← cut_all h.st]
theorem feed_start (f : Int) (L : List Int) : NIv f L 0 0 ∧ Hd L 0 0 = ⟨#[]⟩ ∧ Ot f L 0 = ⟨#[]⟩ := by
  refine ⟨⟨Nat.le_refl _, Nat.zero_le _, .inl rfl, fun i a b => by omega⟩, rfl, ?_⟩
  unfold Ot
  rw [List.take_zero, nrm_nil]
  rfl
end Go.Proofs.YtlhoeoeapkjegaaDoor
/- TextOf of the specification, of one point. -/
namespace Go.Proofs.YtlhoeoeapkjegaaDoor
open Go.RowKit
set_option maxRecDepth 100000 in
theorem specTextFew (v : Value) (l : List Int) (w : World) (h : IntsAt w v l) (hb : l.length ≤ 1000) :
    Calls Tryd.prog 10 #[v] w fun e w' => e = .returned (.string (strOfNums (textL l))) ∧ Below w.heap.size w w' := by
  have H := hide h
  obtain ⟨a, cap, rfl, _⟩ := h
  have hsz : (strOfNums (textL l)).size ≤ 65536 := by rw [strOfNums_size]; have := textL_le l; omega
  have HL : Hid (l.length ≤ 600000) := hide (by omega)
  go_enter Tryd.func10, Tryd.ntmps10
  go_wp2_with (first | (go_at_call 31; refine (l01Text _ l _ (unhide H) (unhide HL)).mono ?_; rintro e w2 ⟨rfl, hb2⟩) | (go_at_call 22; refine (small_any _ _ hsz).mono ?_; rintro e w3 ⟨rfl, rfl⟩))
  go_ret
  exact ⟨rfl, hb2⟩
end Go.Proofs.YtlhoeoeapkjegaaDoor
/- A number below 4 out of a code, as the laws ask it. -/
namespace Go.Proofs.YtlhoeoeapkjegaaDoor
open Go.RowKit
set_option linter.unusedVariables false
set_option maxHeartbeats 2000000 in
theorem lwAt4 (a : Option Addr) (len cap i : Nat) (w : World) (hc : Dr.CodeIn w a len) (hl : len ≤ 1048576) (hi : i ≤ 1000000) :
    Calls Tryd.prog 8 #[.slice a len cap, .int .i64 (i : Int), .int .i64 4] w fun e w' => ∃ z : Nat, e = .returned (.int .i64 (z : Int)) ∧ z < 4 ∧ w' = w := by
  rcases hc with h0 | ⟨cb, off, rfl, hcb, hc⟩
  · subst h0
    go_enter Tryd.func8, Tryd.ntmps8
    go_wp2
    go_ret
    exact ⟨0, rfl, by omega, rfl⟩
  · by_cases h0 : len = 0
    · subst h0
      go_enter Tryd.func8, Tryd.ntmps8
      go_wp2
      go_ret
      exact ⟨0, rfl, by omega, rfl⟩
    · have hz : ((len : Int) == 0) = false := by rw [beq_eq_false_iff_ne]; omega
      obtain ⟨z, hcell, hz0, hz1⟩ := hc (i % len) (Nat.mod_lt _ (by omega))
      have hm : (i : Int).tmod (len : Int) = ((i % len : Nat) : Int) := by rw [Int.tmod_eq_emod_of_nonneg (by omega)]; omega
      have hml := Nat.mod_lt i (show 0 < len by omega)
      generalize i % len = m at *
      have hm1 : (m : Int) < (len : Int) := by omega
      have hzm : z.tmod 4 = ((z.toNat % 4 : Nat) : Int) := by rw [Int.tmod_eq_emod_of_nonneg hz0]; omega
      have hz4 : z.toNat % 4 < 4 := Nat.mod_lt _ (by omega)
      generalize z.toNat % 4 = y at *
      have hne : ¬ (len : Int) = 0 := by omega
      go_enter Tryd.func8, Tryd.ntmps8
      go_wp2
      go_ret
      exact ⟨y, rfl, hz4, rfl⟩
end Go.Proofs.YtlhoeoeapkjegaaDoor
/- What the law of the normer keeps: the normer's box, the row of points that is left, the answer's box. -/
namespace Go.Proofs.YtlhoeoeapkjegaaDoor
open Go.RowKit
set_option linter.unusedVariables false
/-- Take number i first; its temporary is told. -/
theorem tkN {P : Program} {ops : Array Oper} {Q : Exit → Act → World → Prop} {md : Region.Mode} {S : World → Prop} {i : Nat} {oi : Oper} {d : Option Tmp} {v : Value} {fuel : Nat} {listed : Array Bool} {a : Act} {w : World} (hi : ops[i]? = some oi) (hd : oi.dst = d)
    (hs : Region.noSelect ops = true) (hf : Region.free md ops listed i = true) (hr : (Region.ready md ops listed).contains i = true)
    (hQ : ∀ c a w, Q (.panic c) (a.put d v) w → Q (.panic c) a w) (hy : YieldsIf P ops S oi v a) (hS : S w)
    (h : wpAnyH P md ops Q S fuel (listed.setIfInBounds i true) (a.put d v) w) : wpAnyH P md ops Q S (fuel + 1) listed a w := by
  subst hd
  exact wpAnyH_take hi hs hf hr hQ hy hS h
theorem code_onN {w W : World} {a : Option Addr} {len : Nat} (h : Dr.CodeIn w a len) (hb : Below w.heap.size w W) : Dr.CodeIn W a len := by
  rcases h with h | ⟨cb, off, e, hl, hc⟩
  · exact .inl h
  · refine .inr ⟨cb, off, e, Nat.lt_of_lt_of_le hl hb.size, fun i hi => ?_⟩
    obtain ⟨z, h1, h2⟩ := hc i hi
    exact ⟨z, (hb.cell (p := ⟨cb, off + i, none⟩) hl).trans h1, h2⟩
/-- The points that are left: those behind the first j. -/
def Lv (w : World) (L : List Int) (j n : Nat) (a : Option Addr) (cap : Nat) : Prop :=
  j + n = L.length ∧ n ≤ cap ∧ cap ≤ 9223372036854775807 ∧ (n = 0 ∨ ∃ g off, a = some ⟨g, off, none⟩ ∧ g < w.heap.size ∧ ∀ i, i < n → w.cell? ⟨g, off + i, none⟩ = some (.int .i64 (nth L (j + i))))
theorem Lv.below {w w' : World} {L : List Int} {j n : Nat} {a : Option Addr} {cap : Nat} (h : Lv w L j n a cap) (hb : Below w.heap.size w w') : Lv w' L j n a cap := by
  obtain ⟨h1, h2, h3, h4⟩ := h
  refine ⟨h1, h2, h3, h4.imp_right ?_⟩
  rintro ⟨g, off, e, hl, hc⟩
  exact ⟨g, off, e, Nat.lt_of_lt_of_le hl hb.size, fun i hi => (hb.cell (p := ⟨g, off + i, none⟩) hl).trans (hc i hi)⟩
theorem Lv.head {w : World} {L : List Int} {j n : Nat} {a : Option Addr} {cap : Nat} (h : Lv w L j n a cap) {m : Nat} (hm : m ≤ n) (c' : Nat) : IntsAt w (.slice a m c') ((L.drop j).take m) := by
  obtain ⟨h1, h2, h3, h4⟩ := h
  have hl : ((L.drop j).take m).length = m := by simp; omega
  refine ⟨a, c', by rw [hl], ?_⟩
  rcases h4 with h4 | ⟨g, off, e, hg, hc⟩
  · exact .inl (List.length_eq_zero_iff.1 (by omega))
  · refine .inr ⟨g, off, e, hg, fun i hi => ?_⟩
    rw [hl] at hi
    rw [hc i (by omega)]
    simp [nth, List.getD, hi]
theorem Lv.tail {w : World} {L : List Int} {j n : Nat} {g off : Nat} {cap : Nat} (h : Lv w L j n (some ⟨g, off, none⟩) cap) {m n' c' : Nat} (hm : m + n' = n) (hc' : c' + m = cap) : Lv w L (j + m) n' (some ⟨g, off + m, none⟩) c' := by
  obtain ⟨h1, h2, h3, h4⟩ := h
  refine ⟨by omega, by omega, by omega, ?_⟩
  rcases h4 with h4 | ⟨g', off', e, hg, hc⟩
  · exact .inl (by omega)
  · injection e with e
    injection e with e1 e2 _
    subst e1 e2
    refine .inr ⟨g, off + m, rfl, hg, fun i hi => ?_⟩
    rw [Nat.add_assoc, hc (m + i) (by omega), Nat.add_assoc]
theorem Lv.over {w : World} {L : List Int} {j n : Nat} {a : Option Addr} {cap : Nat} (h : Lv w L j n a cap) (a' : Option Addr) (c' : Nat) (hc' : c' + n = cap) : Lv w L (j + n) 0 a' c' := by
  obtain ⟨h1, h2, h3, h4⟩ := h
  exact ⟨by omega, by omega, by omega, .inl rfl⟩
/-- A box of two cells. -/
def Nb (w : World) (g : Nat) (f : Int) (h : ByteArray) : Prop := w.heap[g]? = some (.cells #[.int .i64 f, .string h] 27 (0, 0))
theorem Nb.below {w w' : World} {g : Nat} {f : Int} {h : ByteArray} (H : Nb w g f h) (hb : Below w.heap.size w w') : Nb w' g f h := (hb.block g (Array.getElem?_eq_some_iff.1 H).1).trans H
theorem Nb.cells {w : World} {g : Nat} {f : Int} {h : ByteArray} (H : Nb w g f h) : w.cell? ⟨g, 0, none⟩ = some (.int .i64 f) ∧ w.cell? ⟨g, 1, none⟩ = some (.string h) ∧ w.frozen? ⟨g, 0, none⟩ = false ∧ w.frozen? ⟨g, 1, none⟩ = false := by
  unfold Nb at H
  refine ⟨?_, ?_, ?_, ?_⟩ <;> simp [World.cell?, World.frozen?, H]
theorem Nb.put {w : World} {g : Nat} {f : Int} {h : ByteArray} (H : Nb w g f h) (h' : ByteArray) : Nb ((w.setCell ⟨g, 0, none⟩ (.int .i64 f)).setCell ⟨g, 1, none⟩ (.string h')) g f h' :=
  heap_setCell_same _ g 1 _ 27 _ (heap_setCell_same w g 0 _ 27 _ H)
theorem four_heap {w : World} {g : Nat} {x y z u : Value} {T : TypeId} (h : w.heap[g]? = some (.cells #[x, y, z, u] T (0, 0))) (a b c d : Value) :
    ((((w.setCell ⟨g, 0, none⟩ a).setCell ⟨g, 1, none⟩ b).setCell ⟨g, 2, none⟩ c).setCell ⟨g, 3, none⟩ d).heap[g]? = some (.cells #[a, b, c, d] T (0, 0)) :=
  heap_setCell_same _ g 3 _ T _ (heap_setCell_same _ g 2 _ T _ (heap_setCell_same _ g 1 _ T _ (heap_setCell_same w g 0 _ T _ h)))
/-- The answer's box in a new block. -/
def Ob (w0 w : World) (g : Nat) (c f : Int) (h t : ByteArray) : Prop := w.heap[g]? = some (.cells #[.int .i64 c, .int .i64 f, .string h, .string t] 32 (0, 0)) ∧ w0.heap.size ≤ g ∧ Below w0.heap.size w0 w
theorem Ob.below {w0 w w' : World} {g : Nat} {c f : Int} {h t : ByteArray} (H : Ob w0 w g c f h t) (hb : Below w.heap.size w w') : Ob w0 w' g c f h t :=
  ⟨(hb.block g (Array.getElem?_eq_some_iff.1 H.1).1).trans H.1, H.2.1, H.2.2.trans (hb.mono H.2.2.size)⟩
theorem Ob.new {w0 w : World} (hb : Below w0.heap.size w0 w) : Ob w0 (w.alloc (.cells #[.int .i64 0, .int .i64 0, .string ⟨#[]⟩, .string ⟨#[]⟩] 32)) w.heap.size 0 0 ⟨#[]⟩ ⟨#[]⟩ :=
  ⟨heap_alloc_new w _, hb.size, hb.alloc hb.size _⟩
theorem Ob.put {w0 w : World} {g : Nat} {c f : Int} {h t : ByteArray} (H : Ob w0 w g c f h t) (c' f' : Int) (h' t' : ByteArray) :
    Ob w0 ((((w.setCell ⟨g, 0, none⟩ (.int .i64 c')).setCell ⟨g, 1, none⟩ (.int .i64 f')).setCell ⟨g, 2, none⟩ (.string h')).setCell ⟨g, 3, none⟩ (.string t')) g c' f' h' t' :=
  ⟨four_heap H.1 _ _ _ _, H.2.1, four_below H.2.2 H.2.1 _ _ _ _⟩
theorem drewBN (W : World) : Below W.heap.size W W.drew := ⟨rfl, rfl, rfl, Nat.le_refl _, fun _ _ => rfl⟩
/-- The row does not lie in the normer's box. -/
def LvN (gn n : Nat) (a : Option Addr) : Prop := n = 0 ∨ ∃ g off, a = some ⟨g, off, none⟩ ∧ g ≠ gn
theorem lv_put {w : World} {L : List Int} {j n cap gn : Nat} {a : Option Addr} {f : Int} {h : ByteArray} (H : Lv w L j n a cap) (hN : LvN gn n a) (B : Nb w gn f h) (h' : ByteArray) :
    Lv ((w.setCell ⟨gn, 0, none⟩ (.int .i64 f)).setCell ⟨gn, 1, none⟩ (.string h')) L j n a cap := by
  obtain ⟨h1, h2, h3, h4⟩ := H
  refine ⟨h1, h2, h3, ?_⟩
  rcases h4 with h4 | ⟨g, off, e, hg, hc⟩
  · exact .inl h4
  · rcases hN with hN | ⟨g', off', e', hne⟩
    · exact .inl hN
    · rw [e] at e'
      injection e' with e'
      injection e' with e1 _ _
      subst e1
      refine .inr ⟨g, off, e, by simpa using hg, fun i hi => ?_⟩
      have k1 : ((w.setCell ⟨gn, 0, none⟩ (.int .i64 f)).setCell ⟨gn, 1, none⟩ (.string h')).heap[g]? = w.heap[g]? := (heap_setCell_other _ ⟨gn, 1, none⟩ g _ hne).trans (heap_setCell_other w ⟨gn, 0, none⟩ g _ hne)
      rw [World.cell?_of_block k1]
      exact hc i hi
theorem lv_start {w0 w : World} {v : Value} {L : List Int} {gn : Nat} (h : w.ownsRow w0.heap.size 2 1 v L.length (L.map (Value.int .i64))) (hg : gn < w0.heap.size) : ∃ a cap, v = .slice a L.length cap ∧ Lv w L 0 L.length a cap ∧ LvN gn L.length a := by
  by_cases h0 : L.length = 0
  · obtain ⟨a, cap, rfl⟩ := form_ownI h
    have hc := own_cap0 h
    rcases h.2 with ⟨hv, _⟩ | ⟨g, cap', cur, hv, _, _, _, h5, _⟩
    · injection hv with _ _ hv
      exact ⟨a, cap, rfl, ⟨by omega, by omega, by omega, .inl h0⟩, .inl h0⟩
    · injection hv with _ _ hv
      unfold maxLen at h5
      exact ⟨a, cap, rfl, ⟨by omega, by omega, by omega, .inl h0⟩, .inl h0⟩
  · obtain ⟨g, cap, hv⟩ := own_pos h (by omega)
    subst hv
    obtain ⟨c1, c2⟩ := own_cap h
    obtain ⟨l1, l2⟩ := h.lt g rfl
    refine ⟨_, cap, rfl, ⟨by omega, c1, c2, .inr ⟨g, 0, rfl, l2, fun i hi => ?_⟩⟩, .inr ⟨g, 0, rfl, by omega⟩⟩
    rw [Nat.zero_add]
    exact cell_at h i hi
theorem byt_neN {X : ByteArray} (h : X ≠ ⟨#[]⟩) : ¬ X.toList = [] := fun e => h (by
  rw [Go.ByteArray.toList_eq] at e
  obtain ⟨d⟩ := X
  have : d = #[] := by simpa using e
  rw [this])
theorem fieldN (c f : Int) (h t : ByteArray) (W : World) : (Instr.field 32 (.agg #[.int .i64 c, .int .i64 f, .string h, .string t]) 0).run Tryd.prog W = .ok (.int .i64 c) W := by kernel_rfl
theorem ot_size {f : Int} {L : List Int} {c j : Nat} (h : NIv f L c j) (hw : (textL (nrmL f L)).length ≤ 65536) : (Ot f L c).size ≤ 65536 := by
  have h2 := cut_all h.st
  unfold Ot
  rw [strOfNums_size]
  rw [h2, textL_app, List.length_append] at hw
  omega
theorem two_size {a b c : ByteArray} (h : a ++ b = c) (hc : c.size ≤ 65536) : a.size + b.size ≤ 65536 := by
  have := congrArg ByteArray.size h
  rw [ByteArray.size_append] at this
  omega
/-- What the normer's law asks of a text. -/
theorem nml_pos {f : Int} {s : ByteArray} (h : strOfNums (nmlOut f s) ≠ ⟨#[]⟩) : isF f = true ∧ s.size ≤ 65536 ∧ (textL (nrmL f (pts s))).length ≤ 65536 ∧ nmlOut f s = textL (nrmL f (pts s)) := by
  unfold nmlOut at h ⊢
  by_cases c : 65536 < s.size ∨ isF f = false
  · rw [if_pos c] at h
    exact absurd rfl h
  · rw [if_neg c] at h ⊢
    have c1 : s.size ≤ 65536 := by
      rcases Nat.lt_or_ge 65536 s.size with h' | h'
      · exact absurd (.inl h') c
      · exact h'
    have c2 : isF f = true := by
      cases e : isF f with
      | true => rfl
      | false => exact absurd (.inr e) c
    unfold small nrmT at h ⊢
    by_cases d : 65536 < (textL (nrmL f (pts s))).length
    · rw [if_pos d] at h
      exact absurd rfl h
    · rw [if_neg d]
      exact ⟨c2, c1, by omega, rfl⟩
end Go.Proofs.YtlhoeoeapkjegaaDoor
