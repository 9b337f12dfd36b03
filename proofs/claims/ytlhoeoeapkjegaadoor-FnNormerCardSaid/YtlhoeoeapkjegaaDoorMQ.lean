/- Several texts in one. -/
import Derived.Test.YtlhoeoeapkjegaaDoorEqvL
import Derived.Test.YtlhoeoeapkjegaaDoorWelP
/- A text in the form D or C has the same form D as the text: no Go in sight. -/
namespace Go.Proofs.YtlhoeoeapkjegaaDoor
open Go.RowKit
theorem ins_adj {L : List Int} {x : Int} (hA : Adj (L ++ [x])) : insO L x = L ++ [x] := by
  by_cases hx : clsZ x = 0
  · exact insO_zero _ hx
  · have h1 : L = [] ∨ ∃ Z z, L = Z ++ [z] ∧ clsLt x z = false := by
      rcases snoc_cases L with e | ⟨Z, z, e⟩
      · exact .inl e
      · refine .inr ⟨Z, z, e, ?_⟩
        rw [e, List.append_assoc] at hA
        rcases (adj_parts hA).2.1 with h | h
        · exact absurd h hx
        · exact decide_eq_false (by omega)
    have := insO_at (Z1 := L) (Z2 := []) hx (by simp) h1
    rwa [List.append_nil] at this
/-- What is in order stays. -/
theorem ord_adj : ∀ (n : Nat) (L : List Int), L.length = n → Adj L → ordL L = L
  | 0, L, h, _ => by
    obtain rfl := List.length_eq_zero_iff.1 h
    rfl
  | n + 1, L, h, hA => by
    rcases snoc_cases L with rfl | ⟨L', x, rfl⟩
    · simp at h
    · have ih := ord_adj n L' (by simpa using h) (adj_parts hA).1
      rw [ordL_snoc, ih]
      exact ins_adj hA
theorem allF_eq (k : Bool) (m : Nat) (q : Int) : allF k (m + 1) q = if partsZ k q = [] then [q] else (partsZ k q).flatMap (allF k m) := rfl
theorem deep_last {k : Bool} : ∀ (n : Nat) (p : Int), deep k n p → ∀ y ∈ allF k n p, partsZ k y = []
  | 0, p, h, y, hy => by
    rw [allF, List.mem_singleton] at hy
    rw [hy]
    exact h
  | n + 1, p, h, y, hy => by
    rw [allF_eq] at hy
    by_cases e : partsZ k p = []
    · rw [if_pos e, List.mem_singleton] at hy
      rw [hy]
      exact e
    · rw [if_neg e] at hy
      obtain ⟨x, hx, hy⟩ := List.mem_flatMap.1 hy
      exact deep_last n x (h x hx) y hy
theorem flat_congr {f g : Int → List Int} : ∀ {l : List Int}, (∀ x ∈ l, f x = g x) → l.flatMap f = l.flatMap g
  | [], _ => rfl
  | y :: l, h => by rw [List.flatMap_cons, List.flatMap_cons, h y (by simp), flat_congr (fun x hx => h x (by simp [hx]))]
theorem allF_deep {k : Bool} : ∀ (n : Nat) (p : Int), deep k n p → allF k (n + 1) p = allF k n p
  | 0, p, h => allF_none h 1
  | n + 1, p, h => by
    rw [allF_eq, allF_eq k n]
    by_cases e : partsZ k p = []
    · rw [if_pos e, if_pos e]
    · rw [if_neg e, if_neg e]
      exact flat_congr (fun x hx => allF_deep n x (h x hx))
theorem nrmA_last {k : Bool} {l : List Int} : ∀ y ∈ nrmA k l, partsZ k y = [] := fun y hy => by
  obtain ⟨p, _, hy⟩ := List.mem_flatMap.1 hy
  exact deep_last 2 p (all_deep k p) y hy
theorem nrmA_cons (k : Bool) (y : Int) (l : List Int) : nrmA k (y :: l) = allF k 2 y ++ nrmA k l := List.flatMap_cons
theorem nrmA_app (k : Bool) (a b : List Int) : nrmA k (a ++ b) = nrmA k a ++ nrmA k b := List.flatMap_append
theorem nrmA_bare {k : Bool} : ∀ {l : List Int}, (∀ y ∈ l, partsZ k y = []) → nrmA k l = l
  | [], _ => rfl
  | y :: l, h => by
    rw [nrmA_cons, allF_none (h y (by simp)), nrmA_bare (fun z hz => h z (by simp [hz]))]
    rfl
/-- Marks have no parts. -/
theorem mark_none {m : Int} (h : clsZ m ≠ 0) : partsZ false m = [] := by
  have hm : m = 1584 ∨ m = 1585 ∨ (4096 ≤ m ∧ m < 4152) := by
    unfold clsZ at h
    by_cases h1 : m = 1584
    · exact .inl h1
    by_cases h2 : m = 1585
    · exact .inr (.inl h2)
    rw [if_neg h1, if_neg h2] at h
    by_cases h3 : m < 4096
    · rw [if_pos h3] at h
      exact absurd rfl h
    by_cases h4 : m < 4152
    · exact .inr (.inr ⟨by omega, h4⟩)
    rw [if_neg h3, if_neg (by omega), if_neg (by omega), if_neg (by omega), if_neg (by omega), if_neg h4] at h
    exact absurd rfl h
  unfold partsZ
  rw [if_neg (by omega), if_neg (by omega), if_neg (by omega), if_neg (by omega), if_neg (by omega), if_neg (by simp)]
/-- Two marks of which the second is below the first: their order does not matter. -/
theorem ins_swap (Z : List Int) {c m : Int} (hm : clsZ m ≠ 0) (h : clsZ m < clsZ c) : insO (insO Z c) m = insO (insO Z m) c := by
  have hm0 := cls_nonneg m
  have hc : clsZ c ≠ 0 := by omega
  obtain ⟨A, B, rfl, hB, hA⟩ := split_last m _ Z rfl
  obtain ⟨B1, B2, rfl, hB2, hB1⟩ := split_last c _ B rfl
  have hA' : ∀ {x : Int}, clsZ m ≤ clsZ x → (A = [] ∨ ∃ Z z, A = Z ++ [z] ∧ clsLt x z = false) := fun {x} hx => by
    rcases hA with hA | ⟨Z, z, e, hz⟩
    · exact .inl hA
    · refine .inr ⟨Z, z, e, decide_eq_false ?_⟩
      have := of_decide_eq_false hz
      omega
  have hn : ¬ clsLt c m = true := by
    intro hh
    have := of_decide_eq_true hh
    omega
  have hcm : clsLt m c = true := decide_eq_true h
  have hcm' : clsLt c m = false := by
    cases e : clsLt c m with
    | false => rfl
    | true => exact absurd e hn
  have s1 : insO (A ++ (B1 ++ B2)) c = A ++ B1 ++ c :: B2 := by
    rw [← List.append_assoc]
    refine insO_at hc hB2 ?_
    rcases hB1 with rfl | ⟨Y, y, rfl, hy⟩
    · rw [List.append_nil]
      exact hA' (by omega)
    · exact .inr ⟨A ++ Y, y, by rw [List.append_assoc], hy⟩
  have s2 : insO (A ++ (B1 ++ c :: B2)) m = A ++ m :: (B1 ++ c :: B2) := by
    refine insO_at hm (fun z hz => ?_) (hA' (Int.le_refl _))
    rcases List.mem_append.1 hz with hz | hz
    · exact hB z (List.mem_append.2 (.inl hz))
    · rcases List.mem_cons.1 hz with rfl | hz
      · exact hcm
      · exact hB z (List.mem_append.2 (.inr hz))
  have s3 : insO (A ++ (B1 ++ B2)) m = A ++ m :: (B1 ++ B2) := insO_at hm hB (hA' (Int.le_refl _))
  have s4 : insO ((A ++ m :: B1) ++ B2) c = (A ++ m :: B1) ++ c :: B2 := by
    refine insO_at hc hB2 ?_
    rcases hB1 with rfl | ⟨Y, y, rfl, hy⟩
    · exact .inr ⟨A, m, rfl, hcm'⟩
    · exact .inr ⟨A ++ m :: Y, y, by simp, hy⟩
  rw [s1, List.append_assoc, s2, s3]
  have e : A ++ m :: (B1 ++ B2) = (A ++ m :: B1) ++ B2 := by simp
  rw [e, s4]
  simp
theorem ord_app (X Y : List Int) : ordL (X ++ Y) = Y.foldl insO (ordL X) := by rw [ordL, ordL, List.foldl_append]
/-- A mark ahead of lower ones comes behind them. -/
theorem ord_swap (c : Int) : ∀ (M X : List Int), (∀ m ∈ M, clsZ m ≠ 0 ∧ clsZ m < clsZ c) → ordL (X ++ c :: M) = ordL (X ++ M ++ [c])
  | [], X, _ => by simp
  | m :: M, X, h => by
    have hm := h m (by simp)
    have ih := ord_swap c M (X ++ [m]) (fun y hy => h y (by simp [hy]))
    have e1 : ordL (X ++ c :: m :: M) = ordL (X ++ [m] ++ c :: M) := by
      rw [ord_app, List.append_assoc, ord_app]
      show List.foldl insO (insO (insO (ordL X) c) m) M = List.foldl insO (insO (insO (ordL X) m) c) M
      rw [ins_swap _ hm.1 hm.2]
    rw [e1, ih]
    simp
/-- The parts of a point that two come to are theirs. -/
theorem all_pair {a c : Int} (h : 0 ≤ pairP a c) (hc : partsZ false c = []) : allF false 2 (pairP a c) = allF false 2 a ++ [c] := by
  have hp := pair_parts h
  have ha : deep false 1 a := by
    rcases parts_cases false (pairP a c) with e | ⟨x, e, _, _⟩ | ⟨x, y, e, _, hx, _⟩
    · rw [hp] at e
      cases e
    · rw [hp] at e
      cases e
    · rw [hp] at e
      injection e with e1 e2
      rw [e1]
      exact near_deep hx
  rw [allF_two hp, allF_deep 1 a ha, allF_none hc]
theorem nth_split {D : List Int} {s : Nat} (h : s < D.length) : D = D.take s ++ nth D s :: D.drop (s + 1) := by
  have e : nth D s = D[s] := by simp [nth, List.getD, h]
  rw [e, List.getElem_cons_drop h, List.take_append_drop]
/-- What is composed comes back. -/
theorem cmp_back : ∀ (n : Nat) (L : List Int), L.length = n → Adj L → (∀ y ∈ L, partsZ false y = []) → ordL (nrmA false (cmpQ L).1) = L
  | 0, L, h, _, _ => by
    obtain rfl := List.length_eq_zero_iff.1 h
    rfl
  | n + 1, L, h, hA, hL => by
    rcases snoc_cases L with rfl | ⟨L', c, rfl⟩
    · simp at h
    · have hl : L'.length = n := by simpa using h
      have ih := cmp_back n L' hl (adj_parts hA).1 (fun y hy => hL y (by simp [hy]))
      have hb := cmpQ_bd n L' hl
      have hc := hL c (by simp)
      have hi := ins_adj hA
      rw [cmpQ_snoc]
      generalize cmpQ L' = q at *
      obtain ⟨D, s⟩ := q
      obtain ⟨b1, b2, b3⟩ := hb
      simp only at b1 b2 b3 ih
      unfold stepC
      simp only
      by_cases ho : opn D s c = true ∧ 0 ≤ pairP (nth D s.toNat) c
      · rw [if_pos ho]
        simp only
        obtain ⟨ho, hp⟩ := ho
        unfold opn at ho
        rw [Bool.and_eq_true] at ho
        have h0 := of_decide_eq_true ho.1
        have hM : ∀ m ∈ D.drop (s.toNat + 1), clsZ m ≠ 0 ∧ clsZ m < clsZ c := fun m hm => by
          have e : (s + 1).toNat = s.toNat + 1 := by omega
          have := ho.2
          rw [e] at this
          have := List.all_eq_true.1 this m hm
          unfold okM at this
          rw [Bool.and_eq_true] at this
          exact ⟨of_decide_eq_true this.1, of_decide_eq_true this.2⟩
        have hs : s.toNat < D.length := by omega
        have eM : nrmA false (D.drop (s.toNat + 1)) = D.drop (s.toNat + 1) := nrmA_bare (fun y hy => mark_none (hM y hy).1)
        have eD : nrmA false D = nrmA false (D.take s.toNat) ++ allF false 2 (nth D s.toNat) ++ D.drop (s.toNat + 1) := by
          conv => lhs; rw [nth_split hs]
          rw [nrmA_app, nrmA_cons, eM, List.append_assoc]
        rw [eD] at ih
        rw [List.set_eq_take_append_cons_drop, if_pos hs, nrmA_app, nrmA_cons, eM, all_pair hp hc]
        have e2 : nrmA false (D.take s.toNat) ++ (allF false 2 (nth D s.toNat) ++ [c] ++ D.drop (s.toNat + 1)) = (nrmA false (D.take s.toNat) ++ allF false 2 (nth D s.toNat)) ++ c :: D.drop (s.toNat + 1) := by simp
        rw [e2, ord_swap c _ _ hM, ordL_snoc, ih, hi]
      · rw [if_neg ho]
        simp only
        rw [nrmA_app, nrmA_cons, allF_none hc]
        show ordL (nrmA false D ++ ([c] ++ nrmA false [])) = _
        rw [show ([c] ++ nrmA false [] : List Int) = [c] from rfl, ordL_snoc, ih, hi]
theorem ord_last {l : List Int} : ∀ y ∈ ordL (nrmA false l), partsZ false y = [] := fun y hy => nrmA_last y (ord_mem _ _ rfl y hy)
/-- D of D is D; D of C is D. -/
theorem dd (l : List Int) : nrmL 1 (nrmL 1 l) = nrmL 1 l := by
  show ordL (nrmA false (ordL (nrmA false l))) = ordL (nrmA false l)
  rw [nrmA_bare ord_last]
  exact ord_adj _ _ rfl (adj_ord _ _ rfl)
theorem dc (l : List Int) : nrmL 1 (nrmL 2 l) = nrmL 1 l := by
  show ordL (nrmA false (cmpQ (ordL (nrmA false l))).1) = ordL (nrmA false l)
  exact cmp_back _ _ rfl (adj_ord _ _ rfl) ord_last
theorem cc_iff (a b : List Int) : nrmL 2 a = nrmL 2 b ↔ nrmL 1 a = nrmL 1 b := by
  constructor
  · intro h
    rw [← dc a, ← dc b, h]
  · intro h
    show (cmpQ (nrmL 1 a)).1 = (cmpQ (nrmL 1 b)).1
    rw [h]
end Go.Proofs.YtlhoeoeapkjegaaDoor
/- The quick check: no Go in sight. -/
namespace Go.Proofs.YtlhoeoeapkjegaaDoor
open Go.RowKit
/-- A point by itself in its own form, as the program asks it. -/
def ownB (f p : Int) : Bool := decide ((pairZ (isK f) p).1 = p) || (isC f && decide (pairP (pairZ (isK f) p).1 (pairZ (isK f) p).2 = p))
theorem pairZ_none {k : Bool} {p : Int} (h : partsZ k p = []) : pairZ k p = (p, -1) := by unfold pairZ; rw [h]
theorem pairZ_one {k : Bool} {p a : Int} (h : partsZ k p = [a]) : pairZ k p = (a, -1) := by unfold pairZ; rw [h]
theorem pairZ_two {k : Bool} {p a b : Int} (h : partsZ k p = [a, b]) : pairZ k p = (a, b) := by unfold pairZ; rw [h]
theorem cmp_one (x : Int) : cmpQ [x] = ([x], if clsZ x = 0 then 0 else -1) := by
  have e : cmpQ [x] = stepC ([], -1) x := rfl
  rw [e, stepC, if_neg (by intro h; have := h.1; simp [opn] at this)]
  rfl
theorem cmp_more {L : List Int} {a b : Int} (h : cmpQ L = ([a], 0)) (hp : 0 ≤ pairP a b) : cmpQ (L ++ [b]) = ([pairP a b], 0) := by
  rw [cmpQ_snoc, h, stepC]
  have e : nth ([a], (0 : Int)).1 ([a], (0 : Int)).2.toNat = a := rfl
  rw [e, if_pos ⟨rfl, hp⟩]
  rfl
theorem letNo_letter {i : Int} (h : 0 ≤ i ∧ i ≤ 51) : letNo (letterZ i) = i := by
  unfold letNo letterZ
  by_cases h1 : i < 26
  · rw [if_pos h1, if_pos (by omega)]
    omega
  · rw [if_neg h1, if_neg (by omega), if_pos (by omega)]
    omega
theorem cls_low {x : Int} (h : x ≤ 1583 ∨ (1586 ≤ x ∧ x < 4096) ∨ 4152 ≤ x) : clsZ x = 0 := by
  unfold clsZ
  rw [if_neg (by omega), if_neg (by omega)]
  by_cases h1 : x < 4096
  · rw [if_pos h1]
  · rw [if_neg h1, if_neg (by omega), if_neg (by omega), if_neg (by omega), if_neg (by omega), if_neg (by omega)]
theorem pair_a {p : Int} (h : 8192 ≤ p ∧ p ≤ 8607) : pairP (letterZ ((p - 8192) / 8)) (4096 + (p - 8192) % 8) = p := by
  unfold pairP
  rw [letNo_letter (by omega), if_pos (by omega)]
  omega
theorem pair_b {p : Int} (h : 8704 ≤ p ∧ p ≤ 9119) : pairP (letterZ ((p - 8704) / 8)) (4112 + (p - 8704) % 8) = p := by
  unfold pairP
  rw [letNo_letter (by omega), if_neg (by omega), if_pos (by omega)]
  omega
theorem no_letter {a : Int} (h : 122 < a) : letNo a = -1 := by
  unfold letNo
  rw [if_neg (by omega), if_neg (by omega)]
theorem pair_c {p : Int} (h : 9216 ≤ p ∧ p ≤ 9631) : pairP (p - 512) 4096 = p := by
  unfold pairP
  rw [no_letter (by omega), if_neg (by omega), if_neg (by omega), if_pos (by omega)]
  omega
theorem pair_d {p : Int} (h : 12288 ≤ p ∧ p ≤ 23459) (h0 : (p - 12288) % 28 = 0) : pairP (1792 + (p - 12288) / 588) (1824 + (p - 12288) / 28 % 21) = p := by
  unfold pairP
  rw [no_letter (by omega), if_neg (by omega), if_neg (by omega), if_neg (by omega), if_pos (by omega)]
  omega
theorem pair_e {p : Int} (h : 12288 ≤ p ∧ p ≤ 23459) (h0 : 0 < (p - 12288) % 28) : pairP (p - (p - 12288) % 28) (1856 + (p - 12288) % 28) = p := by
  unfold pairP
  rw [no_letter (by omega), if_neg (by omega), if_neg (by omega), if_neg (by omega), if_neg (by omega), if_pos (by omega)]
  omega
theorem parts_b {p : Int} (h : 8704 ≤ p ∧ p ≤ 9119) : partsZ false p = [letterZ ((p - 8704) / 8), 4112 + (p - 8704) % 8] := by
  unfold partsZ
  rw [if_neg (by omega), if_pos (by omega)]
theorem parts_d {p : Int} (h : 12288 ≤ p ∧ p ≤ 23459) (h0 : (p - 12288) % 28 = 0) : partsZ false p = [1792 + (p - 12288) / 588, 1824 + (p - 12288) / 28 % 21] := by
  unfold partsZ
  rw [if_neg (by omega), if_neg (by omega), if_neg (by omega), if_neg (by omega), if_pos (by omega), if_neg (by omega)]
/-- What is known of the first part. -/
def FstP (a b : Int) : Prop := Bare a ∨ ∃ x y, partsZ false a = [x, y] ∧ pairP x y = a ∧ clsZ x = 0 ∧ Bare x ∧ Bare y ∧ (clsZ b = 0 ∨ clsZ y ≤ clsZ b)
/-- The parts of a point by the table come to it. -/
theorem parts_pair {p a b : Int} (h : partsZ false p = [a, b]) : pairP a b = p ∧ clsZ a = 0 ∧ FstP a b := by
  unfold partsZ at h
  by_cases h1 : 8192 ≤ p ∧ p ≤ 8607
  · rw [if_pos h1] at h
    injection h with e1 h
    injection h with e2 _
    have hl := letterZ_bd ((p - 8192) / 8) (by omega)
    rw [← e1, ← e2]
    exact ⟨pair_a h1, cls_low (by omega), .inl (.inl (by omega))⟩
  rw [if_neg h1] at h
  by_cases h2 : 8704 ≤ p ∧ p ≤ 9119
  · rw [if_pos h2] at h
    injection h with e1 h
    injection h with e2 _
    have hl := letterZ_bd ((p - 8704) / 8) (by omega)
    rw [← e1, ← e2]
    exact ⟨pair_b h2, cls_low (by omega), .inl (.inl (by omega))⟩
  rw [if_neg h2] at h
  by_cases h3 : 9216 ≤ p ∧ p ≤ 9631
  · rw [if_pos h3] at h
    injection h with e1 h
    injection h with e2 _
    rw [← e1, ← e2]
    have hl := letterZ_bd ((p - 512 - 8704) / 8) (by omega)
    refine ⟨pair_c h3, cls_low (by omega), .inr ⟨_, _, parts_b (by omega), pair_b (by omega), cls_low (by omega), .inl (by omega), .inr (.inr (by omega)), .inr ?_⟩⟩
    have e : clsZ (4112 + (p - 512 - 8704) % 8) = 220 := by
      unfold clsZ
      rw [if_neg (by omega), if_neg (by omega), if_neg (by omega), if_neg (by omega), if_pos (by omega)]
    rw [e]
    decide
  rw [if_neg h3] at h
  by_cases h4 : 9728 ≤ p ∧ p ≤ 9753
  · rw [if_pos h4] at h
    injection h with e1 h
    cases h
  rw [if_neg h4] at h
  by_cases h5 : 12288 ≤ p ∧ p ≤ 23459
  · rw [if_pos h5] at h
    by_cases h6 : 0 < (p - 12288) % 28
    · rw [if_pos h6] at h
      injection h with e1 h
      injection h with e2 _
      rw [← e1, ← e2]
      have h7 : (p - (p - 12288) % 28 - 12288) % 28 = 0 := by omega
      exact ⟨pair_e h5 h6, cls_low (by omega), .inr ⟨_, _, parts_d (by omega) h7, pair_d (by omega) h7, cls_low (by omega), .inr (.inl (by omega)), .inr (.inl (by omega)), .inl (cls_low (by omega))⟩⟩
    · rw [if_neg h6] at h
      injection h with e1 h
      injection h with e2 _
      rw [← e1, ← e2]
      exact ⟨pair_d h5 (by omega), cls_low (by omega), .inl (.inr (.inl (by omega)))⟩
  rw [if_neg h5, if_neg (by simp)] at h
  cases h
/-- With K: the table first. -/
theorem parts_k (k : Bool) (p : Int) : partsZ k p = partsZ false p ∨ (partsZ false p = [] ∧ partsZ k p = wideZ p) := by
  cases k with
  | false => exact .inl rfl
  | true =>
    unfold partsZ
    by_cases h1 : 8192 ≤ p ∧ p ≤ 8607
    · rw [if_pos h1, if_pos h1]
      exact .inl rfl
    by_cases h2 : 8704 ≤ p ∧ p ≤ 9119
    · rw [if_neg h1, if_neg h1, if_pos h2, if_pos h2]
      exact .inl rfl
    by_cases h3 : 9216 ≤ p ∧ p ≤ 9631
    · rw [if_neg h1, if_neg h1, if_neg h2, if_neg h2, if_pos h3, if_pos h3]
      exact .inl rfl
    by_cases h4 : 9728 ≤ p ∧ p ≤ 9753
    · rw [if_neg h1, if_neg h1, if_neg h2, if_neg h2, if_neg h3, if_neg h3, if_pos h4, if_pos h4]
      exact .inl rfl
    by_cases h5 : 12288 ≤ p ∧ p ≤ 23459
    · rw [if_neg h1, if_neg h1, if_neg h2, if_neg h2, if_neg h3, if_neg h3, if_neg h4, if_neg h4, if_pos h5, if_pos h5]
      exact .inl rfl
    · rw [if_neg h1, if_neg h1, if_neg h2, if_neg h2, if_neg h3, if_neg h3, if_neg h4, if_neg h4, if_neg h5, if_neg h5, if_pos rfl, if_neg (by simp)]
      exact .inr ⟨rfl, rfl⟩
theorem parts_full {k : Bool} {p : Int} (h : partsZ false p ≠ []) : partsZ k p = partsZ false p := by
  rcases parts_k k p with e | ⟨e, _⟩
  · exact e
  · exact absurd e h
theorem adj_one (a : Int) : Adj [a] := trivial
theorem adj_two {a b : Int} (h : clsZ a = 0) : Adj [a, b] := ⟨.inr (by have := cls_nonneg b; omega), trivial⟩
theorem nrmA_one (k : Bool) (p : Int) : nrmA k [p] = allF k 2 p := by rw [nrmA_cons]; exact List.append_nil _
theorem nrm_c {f : Int} {l : List Int} (h : isC f = true) : nrmL f l = (cmpQ (ordL (nrmA (isK f) l))).1 := by unfold nrmL; rw [if_pos h]
theorem nrm_d {f : Int} {l : List Int} (h : isC f = false) : nrmL f l = ordL (nrmA (isK f) l) := by unfold nrmL; rw [if_neg (by rw [h]; simp)]
/-- A point of two parts by the table is its own form, composed. -/
theorem own_two {f p a b : Int} (hc : isC f = true) (h : partsZ false p = [a, b]) (hb : Bare b) (hp : 0 ≤ p) : nrmL f [p] = [p] := by
  obtain ⟨h1, h2, h3⟩ := parts_pair h
  have hk : partsZ (isK f) p = [a, b] := by rw [parts_full (by rw [h]; simp), h]
  rw [nrm_c hc, nrmA_one, allF_two hk, allF_none (bare_none hb)]
  rcases h3 with h3 | ⟨x, y, e, h4, h5, h6, h7, h8⟩
  · rw [allF_none (bare_none h3)]
    show (cmpQ (ordL [a, b])).1 = _
    rw [ord_adj _ _ rfl (adj_two h2), show [a, b] = [a] ++ [b] from rfl, cmp_more (by rw [cmp_one, if_pos h2]) (by omega), h1]
  · have hk2 : partsZ (isK f) a = [x, y] := by rw [parts_full (by rw [e]; simp), e]
    rw [allF_two hk2, allF_none (bare_none h6), allF_none (bare_none h7)]
    show (cmpQ (ordL [x, y, b])).1 = _
    have ha : 0 ≤ pairP x y := by
      by_cases q : 0 ≤ pairP x y
      · exact q
      · have h9 := pairP_neg q
        rw [h4] at h9
        rw [h9, show partsZ false (-1) = [] by decide] at e
        cases e
    have hA : Adj [x, y, b] := ⟨.inr (by have := cls_nonneg y; omega), h8, trivial⟩
    rw [ord_adj _ _ rfl hA, show [x, y, b] = [x] ++ [y] ++ [b] from rfl, cmp_more (a := a) (by rw [cmp_more (by rw [cmp_one, if_pos h5]) ha, h4]) (by omega), h1]
theorem wide_two {p a b : Int} (h : wideZ p = [a, b]) : Bare a ∧ Bare b ∧ isSec b = false ∧ clsZ a = 0 := by
  rcases wide_cases p with e | ⟨x, e, _⟩ | ⟨x, y, e, _, h1, h2, h3, h4⟩
  · rw [e] at h
    cases h
  · rw [e] at h
    cases h
  · rw [e] at h
    injection h with e1 h
    injection h with e2 _
    rw [← e1, ← e2]
    exact ⟨.inl ⟨h1, h2⟩, .inl ⟨h3, h4⟩, decide_eq_false (by omega), cls_low (by omega)⟩
theorem own_iff (f p : Int) (hp : 0 ≤ p) : nrmL f [p] = [p] ↔ ownB f p = true := by
  rcases parts_cases (isK f) p with e | ⟨a, e, hne, ha⟩ | ⟨a, b, e, hne, ha, hb⟩
  · have h1 : nrmL f [p] = [p] := by
      have e2 : nrmA (isK f) [p] = [p] := by rw [nrmA_one, allF_none e]
      cases hc : isC f with
      | false => rw [nrm_d hc, e2]; exact ord_adj _ _ rfl (adj_one _)
      | true => rw [nrm_c hc, e2, ord_adj _ _ rfl (adj_one _), cmp_one]
    have h2 : ownB f p = true := by unfold ownB; rw [pairZ_none e]; simp
    exact ⟨fun _ => h2, fun _ => h1⟩
  · have h1 : nrmL f [p] = [a] := by
      have e2 : nrmA (isK f) [p] = [a] := by rw [nrmA_one, allF_one e, allF_none (bare_none ha)]
      cases hc : isC f with
      | false => rw [nrm_d hc, e2]; exact ord_adj _ _ rfl (adj_one _)
      | true => rw [nrm_c hc, e2, ord_adj _ _ rfl (adj_one _), cmp_one]
    have h2 : ownB f p = false := by
      unfold ownB
      rw [pairZ_one e]
      simp only
      rw [pair_sec (show isSec (-1) = false by decide), decide_eq_false hne, decide_eq_false (show ¬ (-1 : Int) = p by omega)]
      simp
    rw [h1, h2]
    exact ⟨fun h => by injection h with h _; exact absurd h hne, fun h => by cases h⟩
  · cases hc : isC f with
    | false =>
      have h1 : ¬ nrmL f [p] = [p] := by
        intro h
        have := congrArg List.length h
        rw [nrm_d hc, ordL_len, nrmA_one, allF_two e, List.length_append, List.length_singleton] at this
        have h3 := (allF_len (isK f) 1 a).1
        have h4 := (allF_len (isK f) 1 b).1
        omega
      have h2 : ownB f p = false := by
        unfold ownB
        rw [pairZ_two e, hc]
        simp only
        rw [decide_eq_false hne]
        simp
      rw [h2]
      exact ⟨fun h => absurd h h1, fun h => by cases h⟩
    | true =>
      rcases parts_k (isK f) p with e2 | ⟨_, e2⟩
      · rw [e2] at e
        have h1 := own_two hc e hb hp
        have h2 : ownB f p = true := by
          unfold ownB
          rw [pairZ_two (e2.trans e), hc]
          simp only
          rw [(parts_pair e).1]
          simp
        exact ⟨fun _ => h2, fun _ => h1⟩
      · have e3 := e
        rw [e2] at e3
        obtain ⟨w1, w2, w3, w4⟩ := wide_two e3
        have h2 : ownB f p = false := by
          unfold ownB
          rw [pairZ_two e]
          simp only
          rw [pair_sec w3, decide_eq_false hne, decide_eq_false (show ¬ (-1 : Int) = p by omega)]
          simp
        have ca : clsZ a = 0 := w4
        have h1 : nrmL f [p] = [a, b] := by
          rw [nrm_c hc, nrmA_one, allF_two e, allF_none (bare_none w1), allF_none (bare_none w2)]
          show (cmpQ (ordL [a, b])).1 = _
          have hn : ¬ (opn [a] 0 b = true ∧ 0 ≤ pairP (nth [a] (0 : Int).toNat) b) := by
            intro h
            have h3 := h.2
            rw [pair_sec w3] at h3
            omega
          rw [ord_adj _ _ rfl (adj_two ca), show [a, b] = [a] ++ [b] from rfl, cmpQ_snoc, cmp_one, if_pos ca, stepC, if_neg hn]
        rw [h1, h2]
        exact ⟨fun h => (by injection h with _ h; cases h), fun h => (by cases h)⟩
/-- One point more. -/
def qStep (f : Int) (q : Option (Int × Int)) (p : Int) : Option (Int × Int) :=
  match q with
  | none => none
  | some (a, o) => if (clsZ p ≠ 0 ∧ clsZ p < a) ∨ ownB f p = false then none else some (clsZ p, if isC f = true ∧ isSec p = true then 3 else o)
def qS (f : Int) (l : List Int) : Option (Int × Int) := l.foldl (qStep f) (some (0, 1))
def qOut : Option (Int × Int) → Int
  | none => 2
  | some (_, o) => o
theorem q_none (f : Int) : ∀ l : List Int, l.foldl (qStep f) none = none
  | [] => rfl
  | _ :: l => q_none f l
theorem qS_snoc (f : Int) (l : List Int) (p : Int) : qS f (l ++ [p]) = qStep f (qS f l) p := by rw [qS, List.foldl_append]; rfl
theorem qS_pre {f : Int} {l : List Int} (m : List Int) (h : qS f l = none) : qS f (l ++ m) = none := by
  unfold qS at h ⊢
  rw [List.foldl_append, h, q_none]
theorem steps_pre (s : ByteArray) (n : Nat) : ∀ m, ∃ l, (steps s (n + m)).1 = (steps s n).1 ++ l
  | 0 => ⟨[], by simp⟩
  | m + 1 => by
    obtain ⟨l, e⟩ := steps_pre s n m
    by_cases hs : (steps s (n + m)).2 < s.size
    · rw [← Nat.add_assoc, steps_next s _ hs]
      exact ⟨l ++ [(dP s (steps s (n + m)).2 : Int)], by rw [e, List.append_assoc]⟩
    · have e2 : steps s (n + m + 1) = steps s (n + m) := by
        show (if (steps s (n + m)).2 < s.size then _ else _) = _
        rw [if_neg hs]
      rw [← Nat.add_assoc, e2]
      exact ⟨l, e⟩
theorem pts_pre (s : ByteArray) (n : Nat) : ∃ l, pts s = (steps s n).1 ++ l := by
  have h1 := steps_go s (s.size + n)
  have h2 : s.size ≤ (steps s (n + s.size)).2 := by rw [Nat.add_comm]; omega
  obtain ⟨l, e⟩ := steps_pre s n s.size
  exact ⟨l, by rw [← steps_pts s _ h2, e]⟩
def qckOut (f : Int) (s : ByteArray) : Int := if 65536 < s.size ∨ isF f = false then 0 else if vB s = false then 2 else qOut (qS f (pts s))
theorem qck_no {f : Int} {s : ByteArray} (h1 : s.size ≤ 65536) (h2 : isF f = true) (h : vB s = false ∨ qS f (pts s) = none) : qckOut f s = 2 := by
  unfold qckOut
  rw [if_neg (by rw [h2]; rintro (h | h); omega; cases h)]
  rcases h with h | h
  · rw [if_pos h]
  · rw [h]
    split <;> rfl
theorem qck_yes {f : Int} {s : ByteArray} {a o : Int} (h1 : s.size ≤ 65536) (h2 : isF f = true) (h : vB s = true) (h3 : qS f (pts s) = some (a, o)) : qckOut f s = o := by
  unfold qckOut
  rw [if_neg (by rw [h2]; rintro (h | h); omega; cases h), if_neg (by rw [h]; simp), h3]
  rfl
end Go.Proofs.YtlhoeoeapkjegaaDoor
/- Sizes of texts in a form, and what FnEquivalent asks of two texts: no Go in sight. -/
namespace Go.Proofs.YtlhoeoeapkjegaaDoor
open Go.RowKit
def wid (l : List Int) : Nat := (textL l).length
theorem wid_app (a b : List Int) : wid (a ++ b) = wid a + wid b := by
  unfold wid textL
  rw [List.flatMap_append, List.length_append]
theorem wid_cons (p : Int) (l : List Int) : wid (p :: l) = (Lib.encodeRuneZ p).length + wid l := by
  unfold wid textL
  rw [List.flatMap_cons, List.length_append]
theorem wid_nil : wid [] = 0 := rfl
theorem wid_ord : ∀ (n : Nat) (L : List Int), L.length = n → wid (ordL L) = wid L
  | 0, L, h => by
    obtain rfl := List.length_eq_zero_iff.1 h
    rfl
  | n + 1, L, h => by
    rcases snoc_cases L with rfl | ⟨L', x, rfl⟩
    · simp at h
    · have ih := wid_ord n L' (by simpa using h)
      rw [ordL_snoc, wid_app]
      by_cases hx : clsZ x = 0
      · rw [insO_zero _ hx, wid_app, ih]
      · obtain ⟨Z1, Z2, e, h2, h1⟩ := split_last x _ (ordL L') rfl
        rw [e] at ih
        rw [e, insO_at hx h2 h1, wid_app, wid_cons, ← ih, wid_app, wid_cons, wid_nil]
        omega
theorem enc3 {p : Int} (h0 : 2048 ≤ p) (h1 : p < 55296) : (Lib.encodeRuneZ p).length = 3 := by rw [Lib.encodeRuneZ_three (.inl ⟨h0, h1⟩)]; rfl
theorem enc_le3 {p : Int} (h : p < 65536) : (Lib.encodeRuneZ p).length ≤ 3 := by
  by_cases h0 : p < 0
  · rw [Lib.encodeRuneZ_bad (.inl h0)]; simp
  by_cases h1 : p ≤ 127
  · rw [Lib.encodeRuneZ_one (by omega) h1]; simp
  by_cases h2 : p ≤ 2047
  · rw [Lib.encodeRuneZ_two (by omega) h2]; simp
  by_cases h3 : p < 55296
  · rw [enc3 (by omega) h3]; simp
  by_cases h4 : p ≤ 57343
  · rw [Lib.encodeRuneZ_bad (.inr (.inl ⟨by omega, h4⟩))]; simp
  · rw [Lib.encodeRuneZ_three (.inr ⟨by omega, by omega⟩)]; simp
theorem pairP_bd {a b : Int} (h : 0 ≤ pairP a b) : 2048 ≤ pairP a b ∧ pairP a b < 55296 ∧ 128 ≤ b ∧ b < 65536 := by
  have hs : isSec b = true := by
    cases hb : isSec b with
    | true => rfl
    | false =>
      rw [pair_sec hb] at h
      omega
  have hb := of_decide_eq_true hs
  have hw := pair_whole h
  generalize pairP a b = x at *
  unfold wholesL at hw
  have hl := letNo_bd a
  by_cases h1 : 0 ≤ letNo a
  · rw [if_pos h1, List.mem_append] at hw
    rcases hw with hw | hw <;> (obtain ⟨i, hi, rfl⟩ := rowL_mem.1 hw; omega)
  rw [if_neg h1] at hw
  by_cases h2 : 8704 ≤ a ∧ a ≤ 9119
  · rw [if_pos h2] at hw
    obtain ⟨i, hi, rfl⟩ := rowL_mem.1 hw
    omega
  rw [if_neg h2] at hw
  by_cases h3 : 1792 ≤ a ∧ a ≤ 1810
  · rw [if_pos h3] at hw
    obtain ⟨i, hi, rfl⟩ := rowL_mem.1 hw
    omega
  rw [if_neg h3] at hw
  by_cases h4 : 12288 ≤ a ∧ a ≤ 23459 ∧ (a - 12288) % 28 = 0
  · rw [if_pos h4] at hw
    obtain ⟨i, hi, rfl⟩ := rowL_mem.1 hw
    omega
  rw [if_neg h4] at hw
  simp at hw
theorem enc_ge2 {p : Int} (h : 128 ≤ p) : 2 ≤ (Lib.encodeRuneZ p).length := by
  by_cases h2 : p ≤ 2047
  · rw [Lib.encodeRuneZ_two h h2]; simp
  by_cases h3 : p < 55296
  · rw [enc3 (by omega) h3]; simp
  by_cases h4 : p ≤ 57343
  · rw [Lib.encodeRuneZ_bad (.inr (.inl ⟨by omega, h4⟩))]; simp
  by_cases h5 : p ≤ 65535
  · rw [Lib.encodeRuneZ_three (.inr ⟨by omega, by omega⟩)]; simp
  by_cases h6 : p ≤ 1114111
  · rw [Lib.encodeRuneZ_four (by omega) h6]; simp
  · rw [Lib.encodeRuneZ_bad (.inr (.inr (by omega)))]; simp
/-- Composing makes no text longer, and no point worse. -/
theorem cmp_wid : ∀ (n : Nat) (L : List Int), L.length = n → wid (cmpQ L).1 ≤ wid L ∧ ((∀ x ∈ L, isPt x = true) → ∀ x ∈ (cmpQ L).1, isPt x = true)
  | 0, L, h => by
    obtain rfl := List.length_eq_zero_iff.1 h
    exact ⟨Nat.le_refl _, fun _ x hx => by cases hx⟩
  | n + 1, L, h => by
    rcases snoc_cases L with rfl | ⟨L', c, rfl⟩
    · simp at h
    · have hl : L'.length = n := by simpa using h
      obtain ⟨ih, ip⟩ := cmp_wid n L' hl
      have hb := cmpQ_bd n L' hl
      rw [cmpQ_snoc]
      generalize cmpQ L' = q at *
      obtain ⟨D, s⟩ := q
      obtain ⟨b1, b2, b3⟩ := hb
      simp only at b1 b2 b3 ih ip
      unfold stepC
      simp only
      by_cases ho : opn D s c = true ∧ 0 ≤ pairP (nth D s.toNat) c
      · rw [if_pos ho]
        simp only
        obtain ⟨ho, hp⟩ := ho
        unfold opn at ho
        rw [Bool.and_eq_true] at ho
        have h0 := of_decide_eq_true ho.1
        have hs : s.toNat < D.length := by omega
        obtain ⟨p1, p2, p3, p4⟩ := pairP_bd hp
        have e1 := enc3 p1 p2
        have e2 := enc_ge2 p3
        have e3 := (Lib.encodeRuneZ_length (nth D s.toNat)).1
        refine ⟨?_, fun hL x hx => ?_⟩
        · have eD : wid D = wid (D.take s.toNat) + ((Lib.encodeRuneZ (nth D s.toNat)).length + wid (D.drop (s.toNat + 1))) := by
            conv => lhs; rw [nth_split hs]
            rw [wid_app, wid_cons]
          rw [List.set_eq_take_append_cons_drop, if_pos hs, wid_app, wid_cons, wid_app, wid_cons, wid_nil]
          omega
        · rw [List.set_eq_take_append_cons_drop, if_pos hs] at hx
          have ip' := ip (fun y hy => hL y (by simp [hy]))
          rcases List.mem_append.1 hx with hx | hx
          · exact ip' x (List.mem_of_mem_take hx)
          · rcases List.mem_cons.1 hx with rfl | hx
            · exact (isPt_iff _).2 (by omega)
            · exact ip' x (List.mem_of_mem_drop hx)
      · rw [if_neg ho]
        simp only
        refine ⟨by rw [wid_app, wid_app]; omega, fun hL x hx => ?_⟩
        rcases List.mem_append.1 hx with hx | hx
        · exact ip (fun y hy => hL y (by simp [hy])) x hx
        · exact hL x (by simp at hx; simp [hx])
theorem parts_low {k : Bool} {p x : Int} (h : x ∈ partsZ k p) : x < 65536 := by
  rcases parts_cases k p with e | ⟨a, e, _, ha⟩ | ⟨a, b, e, _, ha, hb⟩
  · rw [e] at h; simp at h
  · rw [e] at h
    simp at h
    subst h
    unfold Bare at ha
    omega
  · rw [e] at h
    simp at h
    rcases h with rfl | rfl
    · unfold Near Bare at ha
      omega
    · unfold Bare at hb
      omega
theorem allF_low (k : Bool) : ∀ (n : Nat) (p : Int), p < 65536 → ∀ x ∈ allF k n p, x < 65536
  | 0, p, hp, x, hx => by
    rw [allF, List.mem_singleton] at hx
    rw [hx]
    exact hp
  | n + 1, p, hp, x, hx => by
    rw [allF_eq] at hx
    split at hx
    · rw [List.mem_singleton] at hx
      rw [hx]
      exact hp
    · obtain ⟨y, hy, hx⟩ := List.mem_flatMap.1 hx
      exact allF_low k n y (parts_low hy) x hx
theorem wid_low : ∀ (l : List Int), (∀ x ∈ l, x < 65536) → wid l ≤ 3 * l.length
  | [], _ => Nat.le_refl _
  | x :: l, h => by
    have h1 := wid_low l (fun y hy => h y (by simp [hy]))
    have h2 := enc_le3 (h x (by simp))
    rw [wid_cons, List.length_cons]
    omega
theorem parts_no {p : Int} (h : p < 8192 ∨ 23459 < p) : partsZ false p = [] := by
  unfold partsZ
  rw [if_neg (by omega), if_neg (by omega), if_neg (by omega), if_neg (by omega), if_neg (by omega), if_neg (by simp)]
/-- What is read of some bytes is at most four times as long with its parts. -/
theorem wid_dec {size pos b0 b1 b2 b3 p n : Nat} (h0 : b0 < 256) (hd : dec size pos b0 b1 b2 b3 = (p, n)) : wid (allF false 2 p) ≤ 4 * n := by
  have big : ∀ q : Nat, q < 65536 → wid (allF false 2 q) ≤ 12 := fun q hq => by
    have h1 := wid_low _ (allF_low false 2 q (by omega))
    have h2 : (allF false 2 (q : Int)).length ≤ 4 := (allF_len false 2 q).2
    omega
  have one : ∀ q : Nat, (q < 8192 ∨ 23459 < q) → wid (allF false 2 q) = (Lib.encodeRuneZ q).length := fun q hq => by
    rw [allF_none (parts_no (by omega)), wid_cons, wid_nil]
    omega
  have bad : wid (allF false 2 (65533 : Nat)) ≤ 4 * 1 := by
    rw [one 65533 (by omega)]
    decide
  unfold dec at hd
  split at hd
  · injection hd with e1 e2
    subst e1
    subst e2
    rw [one b0 (by omega), Lib.encodeRuneZ_one (by omega) (by omega)]
    simp
  split at hd
  · split at hd
    · injection hd with e1 e2
      rw [← e2, ← e1, one _ (by omega)]
      have := (Lib.encodeRuneZ_length ((b0 % 32 * 64 + b1 % 64 : Nat) : Int)).2
      omega
    · injection hd with e1 e2
      rw [← e2, ← e1]
      exact bad
  split at hd
  · split at hd
    · injection hd with e1 e2
      rw [← e2, ← e1]
      exact big _ (by omega)
    · injection hd with e1 e2
      rw [← e2, ← e1]
      exact bad
  split at hd
  · split at hd
    · injection hd with e1 e2
      rw [← e2, ← e1, one _ (by omega)]
      have := (Lib.encodeRuneZ_length ((b0 % 8 * 262144 + b1 % 64 * 4096 + b2 % 64 * 64 + b3 % 64 : Nat) : Int)).2
      omega
    · injection hd with e1 e2
      rw [← e2, ← e1]
      exact bad
  · injection hd with e1 e2
    rw [← e2, ← e1]
    exact bad
theorem wid_steps (s : ByteArray) : ∀ n, wid (nrmA false (steps s n).1) ≤ 4 * (steps s n).2
  | 0 => Nat.le_refl _
  | n + 1 => by
    have ih := wid_steps s n
    by_cases hs : (steps s n).2 < s.size
    · rw [steps_next s n hs]
      simp only
      have hd : dec s.size (steps s n).2 (bt s (steps s n).2) (bt s ((steps s n).2 + 1)) (bt s ((steps s n).2 + 2)) (bt s ((steps s n).2 + 3)) = (dP s (steps s n).2, dN s (steps s n).2) := (decode_dec s _).symm
      have h1 := wid_dec (bt_lt _ _) hd
      have e : nrmA false [(dP s (steps s n).2 : Int)] = allF false 2 (dP s (steps s n).2) := by rw [nrmA_cons]; exact List.append_nil _
      rw [nrmA_app, wid_app, e]
      omega
    · have e : steps s (n + 1) = steps s n := by
        show (if (steps s n).2 < s.size then _ else _) = _
        rw [if_neg hs]
      rw [e]
      exact ih
theorem wid_d (s : ByteArray) : wid (nrmL 1 (pts s)) ≤ 4 * s.size := by
  have h := wid_steps s s.size
  have h2 := (steps_le s s.size).1
  have e : wid (nrmL 1 (pts s)) = wid (nrmA false (pts s)) := wid_ord _ _ rfl
  have e2 : pts s = (steps s s.size).1 := rfl
  rw [e, e2]
  omega
theorem wid_c (s : ByteArray) : wid (nrmL 2 (pts s)) ≤ 4 * s.size := by
  have h := wid_d s
  have h2 : wid (nrmL 2 (pts s)) ≤ wid (nrmL 1 (pts s)) := (cmp_wid _ (nrmL 1 (pts s)) rfl).1
  omega
theorem nrm2_pt (s : ByteArray) : ∀ x ∈ nrmL 2 (pts s), isPt x = true := (cmp_wid _ (nrmL 1 (pts s)) rfl).2 (nrm1_pt s)
theorem nml_small {f : Int} {s : ByteArray} (hf : isF f = true) (h : s.size ≤ 10000) (hw : wid (nrmL f (pts s)) ≤ 4 * s.size) : nmlOut f s = textL (nrmL f (pts s)) := by
  unfold nmlOut
  rw [if_neg (by rw [hf]; rintro (h | h); omega; cases h)]
  have e : (nrmT f s).length = wid (nrmL f (pts s)) := rfl
  unfold small
  rw [if_neg (by omega)]
  rfl
theorem eqv_d {s : ByteArray} (h : s.size ≤ 10000) : eqvB s (strOfNums (nmlOut 1 s)) = true ∧ (strOfNums (nmlOut 1 s)).size ≤ 65536 := by
  have hw := wid_d s
  have e := nml_small (f := 1) (by decide) h hw
  have hz : (strOfNums (nmlOut 1 s)).size ≤ 65536 := by
    rw [e, strOfNums_size]
    unfold wid at hw
    omega
  refine ⟨?_, hz⟩
  have hz' := hz
  rw [e] at hz' ⊢
  unfold eqvB
  rw [decide_eq_true (show s.size ≤ 65536 by omega), decide_eq_true hz', pts_text _ (nrm1_pt s), dd]
  simp [sameB]
theorem eqv_c {s : ByteArray} (h : s.size ≤ 10000) : eqvB s (strOfNums (nmlOut 2 s)) = true ∧ (strOfNums (nmlOut 2 s)).size ≤ 65536 := by
  have hw := wid_c s
  have e := nml_small (f := 2) (by decide) h hw
  have hz : (strOfNums (nmlOut 2 s)).size ≤ 65536 := by
    rw [e, strOfNums_size]
    unfold wid at hw
    omega
  refine ⟨?_, hz⟩
  have hz' := hz
  rw [e] at hz' ⊢
  unfold eqvB
  rw [decide_eq_true (show s.size ≤ 65536 by omega), decide_eq_true hz', pts_text _ (nrm2_pt s), dc]
  simp [sameB]
/-- Two texts are equivalent just if their C are one text. -/
theorem eqv_iff {s t : ByteArray} (h : s.size ≤ 10000) (g : t.size ≤ 10000) : eqvB s t = decide (strOfNums (nmlOut 2 s) = strOfNums (nmlOut 2 t)) := by
  rw [nml_small (f := 2) (by decide) h (wid_c s), nml_small (f := 2) (by decide) g (wid_c t)]
  unfold eqvB sameB
  rw [decide_eq_true (show s.size ≤ 65536 by omega), decide_eq_true (show t.size ≤ 65536 by omega), Bool.true_and, Bool.true_and]
  refine decide_eq_decide.2 ?_
  rw [← cc_iff]
  constructor
  · intro e
    rw [e]
  · intro e
    have := congrArg pts e
    rwa [pts_text _ (nrm2_pt s), pts_text _ (nrm2_pt t)] at this
theorem eqv_comm (s t : ByteArray) : eqvB s t = eqvB t s := by
  unfold eqvB sameB
  have e : decide (nrmL 1 (pts s) = nrmL 1 (pts t)) = decide (nrmL 1 (pts t) = nrmL 1 (pts s)) := decide_eq_decide.2 ⟨fun h => h.symm, fun h => h.symm⟩
  rw [e]
  cases decide (s.size ≤ 65536) <;> cases decide (t.size ≤ 65536) <;> rfl
end Go.Proofs.YtlhoeoeapkjegaaDoor
/- A normal form is its own one, and what is asked of the other form of it. No Go in sight. -/
namespace Go.Proofs.YtlhoeoeapkjegaaDoor
open Go.RowKit
set_option linter.unusedVariables false
/-- Marks have no parts, in the forms with K neither. -/
theorem mark_noneK {m : Int} (h : clsZ m ≠ 0) : partsZ true m = [] := by
  have hm : m = 1584 ∨ m = 1585 ∨ (4096 ≤ m ∧ m < 4152) := by
    unfold clsZ at h
    by_cases h1 : m = 1584
    · exact .inl h1
    by_cases h2 : m = 1585
    · exact .inr (.inl h2)
    rw [if_neg h1, if_neg h2] at h
    by_cases h3 : m < 4096
    · rw [if_pos h3] at h
      exact absurd rfl h
    by_cases h4 : m < 4152
    · exact .inr (.inr ⟨by omega, h4⟩)
    rw [if_neg h3, if_neg (by omega), if_neg (by omega), if_neg (by omega), if_neg (by omega), if_neg h4] at h
    exact absurd rfl h
  unfold partsZ
  rw [if_neg (by omega), if_neg (by omega), if_neg (by omega), if_neg (by omega), if_neg (by omega), if_pos rfl]
  unfold wideZ
  rw [if_neg (by omega), if_neg (by omega), if_neg (by omega), if_neg (by omega), if_neg (by omega), if_neg (by omega), if_neg (by omega)]
theorem parts_more {p : Int} (h : partsZ false p ≠ []) : partsZ true p = partsZ false p := by
  unfold partsZ at h ⊢
  by_cases h1 : 8192 ≤ p ∧ p ≤ 8607
  · rw [if_pos h1, if_pos h1]
  rw [if_neg h1] at h ⊢
  rw [if_neg h1]
  by_cases h2 : 8704 ≤ p ∧ p ≤ 9119
  · rw [if_pos h2, if_pos h2]
  rw [if_neg h2] at h ⊢
  rw [if_neg h2]
  by_cases h3 : 9216 ≤ p ∧ p ≤ 9631
  · rw [if_pos h3, if_pos h3]
  rw [if_neg h3] at h ⊢
  rw [if_neg h3]
  by_cases h4 : 9728 ≤ p ∧ p ≤ 9753
  · rw [if_pos h4, if_pos h4]
  rw [if_neg h4] at h ⊢
  rw [if_neg h4]
  by_cases h5 : 12288 ≤ p ∧ p ≤ 23459
  · rw [if_pos h5, if_pos h5]
  rw [if_neg h5] at h
  exact absurd (if_neg (by simp)) h
theorem all_pairK {a c : Int} (h : 0 ≤ pairP a c) (hc : partsZ true c = []) : allF true 2 (pairP a c) = allF true 2 a ++ [c] := by
  have hp : partsZ true (pairP a c) = [a, c] := by
    rw [parts_more (by rw [pair_parts h]; simp)]
    exact pair_parts h
  have ha : deep true 1 a := by
    rcases parts_cases true (pairP a c) with e | ⟨x, e, _, _⟩ | ⟨x, y, e, _, hx, _⟩
    · rw [hp] at e
      cases e
    · rw [hp] at e
      cases e
    · rw [hp] at e
      injection e with e1 e2
      rw [e1]
      exact near_deep hx
  rw [allF_two hp, allF_deep 1 a ha, allF_none hc]
/-- What is composed comes back. -/
theorem cmp_backK : ∀ (n : Nat) (L : List Int), L.length = n → Adj L → (∀ y ∈ L, partsZ true y = []) → ordL (nrmA true (cmpQ L).1) = L
  | 0, L, h, _, _ => by
    obtain rfl := List.length_eq_zero_iff.1 h
    rfl
  | n + 1, L, h, hA, hL => by
    rcases snoc_cases L with rfl | ⟨L', c, rfl⟩
    · simp at h
    · have hl : L'.length = n := by simpa using h
      have ih := cmp_backK n L' hl (adj_parts hA).1 (fun y hy => hL y (by simp [hy]))
      have hb := cmpQ_bd n L' hl
      have hc := hL c (by simp)
      have hi := ins_adj hA
      rw [cmpQ_snoc]
      generalize cmpQ L' = q at *
      obtain ⟨D, s⟩ := q
      obtain ⟨b1, b2, b3⟩ := hb
      simp only at b1 b2 b3 ih
      unfold stepC
      simp only
      by_cases ho : opn D s c = true ∧ 0 ≤ pairP (nth D s.toNat) c
      · rw [if_pos ho]
        simp only
        obtain ⟨ho, hp⟩ := ho
        unfold opn at ho
        rw [Bool.and_eq_true] at ho
        have h0 := of_decide_eq_true ho.1
        have hM : ∀ m ∈ D.drop (s.toNat + 1), clsZ m ≠ 0 ∧ clsZ m < clsZ c := fun m hm => by
          have e : (s + 1).toNat = s.toNat + 1 := by omega
          have := ho.2
          rw [e] at this
          have := List.all_eq_true.1 this m hm
          unfold okM at this
          rw [Bool.and_eq_true] at this
          exact ⟨of_decide_eq_true this.1, of_decide_eq_true this.2⟩
        have hs : s.toNat < D.length := by omega
        have eM : nrmA true (D.drop (s.toNat + 1)) = D.drop (s.toNat + 1) := nrmA_bare (fun y hy => mark_noneK (hM y hy).1)
        have eD : nrmA true D = nrmA true (D.take s.toNat) ++ allF true 2 (nth D s.toNat) ++ D.drop (s.toNat + 1) := by
          conv => lhs; rw [nth_split hs]
          rw [nrmA_app, nrmA_cons, eM, List.append_assoc]
        rw [eD] at ih
        rw [List.set_eq_take_append_cons_drop, if_pos hs, nrmA_app, nrmA_cons, eM, all_pairK hp hc]
        have e2 : nrmA true (D.take s.toNat) ++ (allF true 2 (nth D s.toNat) ++ [c] ++ D.drop (s.toNat + 1)) = (nrmA true (D.take s.toNat) ++ allF true 2 (nth D s.toNat)) ++ c :: D.drop (s.toNat + 1) := by simp
        rw [e2, ord_swap c _ _ hM, ordL_snoc, ih, hi]
      · rw [if_neg ho]
        simp only
        rw [nrmA_app, nrmA_cons, allF_none hc]
        show ordL (nrmA true D ++ ([c] ++ nrmA true [])) = _
        rw [show ([c] ++ nrmA true [] : List Int) = [c] from rfl, ordL_snoc, ih, hi]
theorem ord_lastK {l : List Int} : ∀ y ∈ ordL (nrmA true l), partsZ true y = [] := fun y hy => nrmA_last y (ord_mem _ _ rfl y hy)
theorem dd3 (l : List Int) : nrmL 3 (nrmL 3 l) = nrmL 3 l := by
  show ordL (nrmA true (ordL (nrmA true l))) = ordL (nrmA true l)
  rw [nrmA_bare ord_lastK]
  exact ord_adj _ _ rfl (adj_ord _ _ rfl)
theorem dc4 (l : List Int) : nrmL 3 (nrmL 4 l) = nrmL 3 l := by
  show ordL (nrmA true (cmpQ (ordL (nrmA true l))).1) = ordL (nrmA true l)
  exact cmp_backK _ _ rfl (adj_ord _ _ rfl) ord_lastK
theorem nrm_2 (l : List Int) : nrmL 2 l = (cmpQ (nrmL 1 l)).1 := rfl
theorem nrm_4 (l : List Int) : nrmL 4 l = (cmpQ (nrmL 3 l)).1 := rfl
/-- The other form of the same kind. -/
def oth (f : Int) : Int := if f = 1 then 2 else if f = 2 then 1 else if f = 3 then 4 else 3
theorem nrm_self {f : Int} (h : f = 1 ∨ f = 2 ∨ f = 3 ∨ f = 4) (l : List Int) : nrmL f (nrmL f l) = nrmL f l := by
  rcases h with rfl | rfl | rfl | rfl
  · exact dd l
  · rw [nrm_2 (nrmL 2 l), dc, ← nrm_2]
  · exact dd3 l
  · rw [nrm_4 (nrmL 4 l), dc4, ← nrm_4]
theorem nrm_oth {f : Int} (h : f = 1 ∨ f = 2 ∨ f = 3 ∨ f = 4) (l : List Int) : nrmL (oth f) (nrmL f l) = nrmL (oth f) l := by
  rcases h with rfl | rfl | rfl | rfl
  · show nrmL 2 (nrmL 1 l) = nrmL 2 l
    rw [nrm_2, dd, ← nrm_2]
  · show nrmL 1 (nrmL 2 l) = nrmL 1 l
    exact dc l
  · show nrmL 4 (nrmL 3 l) = nrmL 4 l
    rw [nrm_4, dd3, ← nrm_4]
  · show nrmL 3 (nrmL 4 l) = nrmL 3 l
    exact dc4 l
theorem nrm_pt (f : Int) (s : ByteArray) : ∀ x ∈ nrmL f (pts s), isPt x = true := by
  have h1 : ∀ x ∈ ordL (nrmA (isK f) (pts s)), isPt x = true := fun x hx => by
    obtain ⟨p, hp, hx⟩ := List.mem_flatMap.1 (ord_mem _ _ rfl x hx)
    exact allF_pt (isK f) 2 p (pts_pt s p hp) x hx
  unfold nrmL
  split
  · exact (cmp_wid _ _ rfl).2 h1
  · exact h1
/-- A form as a text. -/
def nf (f : Int) (s : ByteArray) : ByteArray := strOfNums (nmlOut f s)
theorem nf_cases {f : Int} (s : ByteArray) (hf : isF f = true) : nf f s = ⟨#[]⟩ ∨ (s.size ≤ 65536 ∧ (nrmT f s).length ≤ 65536 ∧ nmlOut f s = nrmT f s ∧ pts (nf f s) = nrmL f (pts s) ∧ (nf f s).size ≤ 65536) := by
  by_cases h : 65536 < s.size ∨ isF f = false
  · left
    unfold nf nmlOut
    rw [if_pos h]
    rfl
  · have hs : s.size ≤ 65536 := by
      by_cases h2 : 65536 < s.size
      · exact absurd (.inl h2) h
      · omega
    by_cases h3 : 65536 < (nrmT f s).length
    · left
      unfold nf nmlOut small
      rw [if_neg h, if_pos h3]
      rfl
    · have e : nmlOut f s = nrmT f s := by
        unfold nmlOut small
        rw [if_neg h, if_neg h3]
      refine .inr ⟨hs, by omega, e, ?_, ?_⟩
      · unfold nf
        rw [e]
        unfold nrmT
        exact pts_text _ (nrm_pt f s)
      · unfold nf
        rw [e, strOfNums_size]
        omega
/-- A normal form is its own one. -/
theorem nf_self {f : Int} (s : ByteArray) (h : f = 1 ∨ f = 2 ∨ f = 3 ∨ f = 4) (hn : nf f s ≠ ⟨#[]⟩ ∨ s.size = 0) : nf f (nf f s) = nf f s := by
  have hf : isF f = true := by rcases h with rfl | rfl | rfl | rfl <;> rfl
  rcases nf_cases s hf with e | ⟨_, h2, h3, h4, h5⟩
  · rcases hn with hn | hn
    · exact absurd e hn
    · rw [e]
      have es : s = ⟨#[]⟩ := by
        obtain ⟨d⟩ := s
        have : d.size = 0 := hn
        rw [Array.eq_empty_of_size_eq_zero this]
      rw [es] at e
      exact e
  · have e2 : nrmT f (nf f s) = nrmT f s := by
      unfold nrmT
      rw [h4, nrm_self h]
    have e3 : nmlOut f (nf f s) = nrmT f (nf f s) := by
      unfold nmlOut small
      rw [if_neg (by rw [hf]; simp; omega), if_neg (by rw [e2]; omega)]
    show strOfNums (nmlOut f (nf f s)) = strOfNums (nmlOut f s)
    rw [e3, e2, h3]
theorem nf_isN {f : Int} (s : ByteArray) (h : f = 1 ∨ f = 2 ∨ f = 3 ∨ f = 4) (hn : nf f s ≠ ⟨#[]⟩ ∨ s.size = 0) : isN f (nf f s) = true :=
  (nml_eq (by rcases h with rfl | rfl | rfl | rfl <;> rfl)).1 (nf_self s h hn)
/-- The other form of a form. -/
theorem nf_oth {f : Int} (s : ByteArray) (h : f = 1 ∨ f = 2 ∨ f = 3 ∨ f = 4) (hn : nf f s ≠ ⟨#[]⟩ ∨ s.size = 0) (h1 : nf (oth f) s ≠ ⟨#[]⟩) (h2 : nf (oth f) (nf f s) ≠ ⟨#[]⟩) : nf (oth f) (nf f s) = nf (oth f) s := by
  have hf : isF f = true := by rcases h with rfl | rfl | rfl | rfl <;> rfl
  have hg : isF (oth f) = true := by rcases h with rfl | rfl | rfl | rfl <;> rfl
  rcases nf_cases s hg with e | ⟨a1, a2, a3, a4, a5⟩
  · exact absurd e h1
  rcases nf_cases (nf f s) hg with e | ⟨b1, b2, b3, b4, b5⟩
  · exact absurd e h2
  rcases nf_cases s hf with e | ⟨_, _, c3, c4, _⟩
  · rcases hn with hn | hn
    · exact absurd e hn
    · have es : s = ⟨#[]⟩ := by
        obtain ⟨d⟩ := s
        have : d.size = 0 := hn
        rw [Array.eq_empty_of_size_eq_zero this]
      rw [e, es]
  · show strOfNums (nmlOut (oth f) (nf f s)) = strOfNums (nmlOut (oth f) s)
    rw [b3, a3]
    unfold nrmT
    rw [c4, nrm_oth h]
end Go.Proofs.YtlhoeoeapkjegaaDoor
/- The quick check tells no: the text is not in the form; in the forms D and KD it tells yes of none else. No Go in sight. -/
namespace Go.Proofs.YtlhoeoeapkjegaaDoor
open Go.RowKit
/-- The class of the last point. -/
def lc (L : List Int) : Int := (L.map clsZ).getLastD 0
theorem lc_snoc (Z : List Int) (z : Int) : lc (Z ++ [z]) = clsZ z := by simp [lc]
theorem lc_nil : lc [] = 0 := rfl
theorem adj_congr : ∀ (A B : List Int), A.map clsZ = B.map clsZ → Adj A → Adj B
  | [], [], _, _ => trivial
  | [_], [_], _, _ => trivial
  | a :: b :: t, a' :: b' :: t', h, hA => by
    simp only [List.map_cons, List.cons.injEq] at h
    obtain ⟨h1, h2, h3⟩ := h
    refine ⟨by rw [← h1, ← h2]; exact hA.1, adj_congr (b :: t) (b' :: t') ?_ hA.2⟩
    simp only [List.map_cons, List.cons.injEq]
    exact ⟨h2, h3⟩
  | [], _ :: _, h, _ => by simp at h
  | [_], [], h, _ => by simp at h
  | [_], _ :: _ :: _, h, _ => by simp at h
  | _ :: _ :: _, [], h, _ => by simp at h
  | _ :: _ :: _, [_], h, _ => by simp at h
theorem adj_snoc {Z : List Int} {p : Int} (h : Adj (Z ++ [p])) : clsZ p = 0 ∨ lc Z ≤ clsZ p := by
  rcases snoc_cases Z with rfl | ⟨Z', z, rfl⟩
  · exact .inr (by rw [lc_nil]; exact cls_nonneg p)
  · rw [List.append_assoc] at h
    have := (adj_parts h).2
    rw [lc_snoc]
    exact this.1
theorem adj_more {Z : List Int} {p : Int} (h : Adj Z) (h2 : clsZ p = 0 ∨ lc Z ≤ clsZ p) : Adj (Z ++ [p]) := by
  rcases snoc_cases Z with rfl | ⟨Z', z, rfl⟩
  · exact trivial
  · rw [List.append_assoc]
    rw [lc_snoc] at h2
    exact adj_join h ⟨h2, trivial⟩
theorem cls_whole {a c : Int} (h : 0 ≤ pairP a c) : clsZ (pairP a c) = 0 := by
  have hp := pair_parts h
  by_cases h1 : pairP a c < 8192 ∨ 23459 < pairP a c
  · rw [parts_no h1] at hp
    cases hp
  · exact cls_low (by omega)
theorem set_same {D : List Int} {s : Nat} {x : Int} (hs : s < D.length) (h : clsZ x = clsZ (nth D s)) : (D.set s x).map clsZ = D.map clsZ := by
  rw [List.map_set, h]
  have e : nth D s = D[s] := by simp [nth, List.getD, hs]
  rw [e]
  apply List.ext_getElem
  · simp
  · intro i h1 h2
    rw [List.getElem_set]
    split
    · rename_i e2
      subst e2
      simp
    · rfl
/-- What is composed stays in order. -/
theorem adj_cmp : ∀ (n : Nat) (X : List Int), X.length = n → Adj X → Adj (cmpQ X).1 ∧ lc (cmpQ X).1 ≤ lc X ∧ (0 ≤ (cmpQ X).2 → clsZ (nth (cmpQ X).1 (cmpQ X).2.toNat) = 0)
  | 0, X, h, _ => by
    obtain rfl := List.length_eq_zero_iff.1 h
    exact ⟨trivial, Int.le_refl _, fun h => by have : (0 : Int) ≤ -1 := h; omega⟩
  | n + 1, X, h, hA => by
    rcases snoc_cases X with rfl | ⟨X', c, rfl⟩
    · simp at h
    · have hl : X'.length = n := by simpa using h
      obtain ⟨i1, i2, i3⟩ := adj_cmp n X' hl (adj_parts hA).1
      have hb := cmpQ_bd n X' hl
      rw [cmpQ_snoc, lc_snoc]
      generalize cmpQ X' = q at *
      obtain ⟨D, s⟩ := q
      obtain ⟨b1, b2, b3⟩ := hb
      simp only at i1 i2 i3 b1 b2 b3
      unfold stepC
      simp only
      by_cases ho : opn D s c = true ∧ 0 ≤ pairP (nth D s.toNat) c
      · rw [if_pos ho]
        simp only
        obtain ⟨ho, hp⟩ := ho
        unfold opn at ho
        rw [Bool.and_eq_true] at ho
        have h0 := of_decide_eq_true ho.1
        have hs : s.toNat < D.length := by omega
        have e := set_same (x := pairP (nth D s.toNat) c) hs (by rw [cls_whole hp, i3 h0])
        refine ⟨adj_congr _ _ e.symm i1, ?_, fun _ => ?_⟩
        · have e2 : lc (D.set s.toNat (pairP (nth D s.toNat) c)) = lc D := by unfold lc; rw [e]
          rw [e2]
          rcases snoc_cases (D.drop (s.toNat + 1)) with e3 | ⟨Z, z, e3⟩
          · have hD : D = D.take s.toNat ++ [nth D s.toNat] := by
              have := nth_split hs
              rw [e3] at this
              exact this
            rw [hD, lc_snoc, i3 h0]
            exact cls_nonneg c
          · have hD : D = (D.take s.toNat ++ nth D s.toNat :: Z) ++ [z] := by
              have := nth_split hs
              rw [e3] at this
              rw [List.append_assoc]
              exact this
            have hz := List.all_eq_true.1 ho.2 z (by rw [show (s + 1).toNat = s.toNat + 1 by omega, e3]; simp)
            unfold okM at hz
            rw [Bool.and_eq_true] at hz
            rw [hD, lc_snoc]
            have := of_decide_eq_true hz.2
            omega
        · have e4 : nth (D.set s.toNat (pairP (nth D s.toNat) c)) s.toNat = pairP (nth D s.toNat) c := by simp [nth, List.getD, hs]
          rw [e4]
          exact cls_whole hp
      · rw [if_neg ho]
        simp only
        have hc := adj_snoc hA
        refine ⟨adj_more i1 ?_, by rw [lc_snoc]; exact Int.le_refl _, ?_⟩
        · rcases hc with hc | hc
          · exact .inl hc
          · exact .inr (by omega)
        · intro hq
          by_cases hz : clsZ c = 0
          · rw [if_pos hz]
            have : nth (D ++ [c]) ((D.length : Int)).toNat = c := by simp [nth, List.getD]
            rw [this]
            exact hz
          · rw [if_neg hz] at hq ⊢
            have hs : s.toNat < D.length := by omega
            have : nth (D ++ [c]) s.toNat = nth D s.toNat := by simp [nth, List.getD, List.getElem?_append_left hs]
            rw [this]
            exact i3 hq
/-- What is composed was there, or is a whole. -/
theorem mem_cmp : ∀ (n : Nat) (X : List Int), X.length = n → ∀ y ∈ (cmpQ X).1, y ∈ X ∨ ∃ a c, y = pairP a c ∧ 0 ≤ pairP a c
  | 0, X, h, y, hy => by
    obtain rfl := List.length_eq_zero_iff.1 h
    have : y ∈ ([] : List Int) := hy
    simp at this
  | n + 1, X, h, y, hy => by
    rcases snoc_cases X with rfl | ⟨X', c, rfl⟩
    · simp at h
    · have hl : X'.length = n := by simpa using h
      have ih := mem_cmp n X' hl
      rw [cmpQ_snoc] at hy
      generalize cmpQ X' = q at *
      obtain ⟨D, s⟩ := q
      simp only at ih
      unfold stepC at hy
      simp only at hy
      by_cases ho : opn D s c = true ∧ 0 ≤ pairP (nth D s.toNat) c
      · rw [if_pos ho] at hy
        rcases List.mem_or_eq_of_mem_set hy with e | e
        · rcases ih y e with k | k
          · exact .inl (by simp [k])
          · exact .inr k
        · exact .inr ⟨_, _, e, ho.2⟩
      · rw [if_neg ho] at hy
        rcases List.mem_append.1 hy with e | e
        · rcases ih y e with k | k
          · exact .inl (by simp [k])
          · exact .inr k
        · exact .inl (by simp at e; simp [e])
theorem own_whole {f a c : Int} (hc : isC f = true) (h : 0 ≤ pairP a c) : ownB f (pairP a c) = true := by
  have hp := pair_parts h
  rcases parts_cases false (pairP a c) with e | ⟨x, e, _, _⟩ | ⟨x, y, e, _, _, hy⟩
  · rw [hp] at e; cases e
  · rw [hp] at e; cases e
  · rw [hp] at e
    injection e with e1 e
    injection e with e2 _
    exact (own_iff f _ h).1 (own_two hc hp (by rw [e2]; exact hy) h)
theorem own_bare {f p : Int} (h : partsZ (isK f) p = []) : ownB f p = true := by unfold ownB; rw [pairZ_none h]; simp
theorem q_some {f : Int} : ∀ (n : Nat) (L : List Int), L.length = n → Adj L → (∀ p ∈ L, ownB f p = true) → ∃ o, qS f L = some (lc L, o)
  | 0, L, h, _, _ => by
    obtain rfl := List.length_eq_zero_iff.1 h
    exact ⟨1, rfl⟩
  | n + 1, L, h, hA, ho => by
    rcases snoc_cases L with rfl | ⟨L', p, rfl⟩
    · simp at h
    · obtain ⟨o, e⟩ := q_some n L' (by simpa using h) (adj_parts hA).1 (fun q hq => ho q (by simp [hq]))
      rw [qS_snoc, e, lc_snoc]
      unfold qStep
      simp only
      have h1 := adj_snoc hA
      rw [if_neg (by
        rintro (⟨a, b⟩ | a)
        · rcases h1 with h1 | h1
          · exact a h1
          · omega
        · rw [ho p (by simp)] at a
          cases a)]
      exact ⟨_, rfl⟩
theorem q_back {f : Int} : ∀ (n : Nat) (L : List Int), L.length = n → ∀ r, qS f L = some r → Adj L ∧ (∀ p ∈ L, ownB f p = true) ∧ r.1 = lc L
  | 0, L, h, r, hr => by
    obtain rfl := List.length_eq_zero_iff.1 h
    have e : some ((0 : Int), (1 : Int)) = some r := hr
    injection e with e
    exact ⟨trivial, fun p hp => by simp at hp, by rw [← e]; rfl⟩
  | n + 1, L, h, r, hr => by
    rcases snoc_cases L with rfl | ⟨L', p, rfl⟩
    · simp at h
    · rw [qS_snoc] at hr
      cases hq : qS f L' with
      | none => rw [hq] at hr; cases hr
      | some q =>
        obtain ⟨i1, i2, i3⟩ := q_back n L' (by simpa using h) q hq
        rw [hq] at hr
        obtain ⟨a, o⟩ := q
        unfold qStep at hr
        simp only at hr i3
        by_cases hc : (clsZ p ≠ 0 ∧ clsZ p < a) ∨ ownB f p = false
        · rw [if_pos hc] at hr
          cases hr
        · rw [if_neg hc] at hr
          injection hr with hr
          refine ⟨adj_more i1 ?_, ?_, ?_⟩
          · by_cases h0 : clsZ p = 0
            · exact .inl h0
            · refine .inr ?_
              have : ¬ clsZ p < a := fun e => hc (.inl ⟨h0, e⟩)
              omega
          · intro q hq'
            rcases List.mem_append.1 hq' with e | e
            · exact i2 q e
            · simp at e
              subst e
              cases hw : ownB f q with
              | true => rfl
              | false => exact absurd (.inr hw) hc
          · rw [lc_snoc, ← hr]
/-- A row in its form is not told no. -/
theorem q_no {f : Int} {L : List Int} (h : nrmL f L = L) : qS f L ≠ none := by
  have hX := adj_ord _ (nrmA (isK f) L) rfl
  have hP : ∀ y ∈ ordL (nrmA (isK f) L), partsZ (isK f) y = [] := fun y hy => nrmA_last y (ord_mem _ _ rfl y hy)
  have key : Adj L ∧ ∀ p ∈ L, ownB f p = true := by
    cases hc : isC f with
    | false =>
      rw [nrm_d hc] at h
      rw [h] at hX hP
      exact ⟨hX, fun p hp => own_bare (hP p hp)⟩
    | true =>
      rw [nrm_c hc] at h
      have h1 := (adj_cmp _ _ rfl hX).1
      rw [h] at h1
      refine ⟨h1, fun p hp => ?_⟩
      rw [← h] at hp
      rcases mem_cmp _ _ rfl p hp with e | ⟨a, c, rfl, e⟩
      · exact own_bare (hP p e)
      · exact own_whole hc e
  obtain ⟨o, e⟩ := q_some _ L rfl key.1 key.2
  rw [e]
  simp
/-- In the forms D and KD a row that is not told no is in its form. -/
theorem q_yes_d {f : Int} {L : List Int} {r : Int × Int} (hc : isC f = false) (h : qS f L = some r) : nrmL f L = L := by
  obtain ⟨h1, h2, _⟩ := q_back _ L rfl r h
  have h3 : ∀ p ∈ L, partsZ (isK f) p = [] := fun p hp => by
    have ho := h2 p hp
    unfold ownB at ho
    rw [hc] at ho
    simp only [Bool.false_and, Bool.or_false, decide_eq_true_eq] at ho
    rcases parts_cases (isK f) p with e | ⟨a, e, hne, _⟩ | ⟨a, b, e, hne, _, _⟩
    · exact e
    · rw [pairZ_one e] at ho
      exact absurd ho hne
    · rw [pairZ_two e] at ho
      exact absurd ho hne
  rw [nrm_d hc, nrmA_bare h3]
  exact ord_adj _ _ rfl h1
end Go.Proofs.YtlhoeoeapkjegaaDoor
/- The quick check tells yes: the text is in the form. No Go in sight. -/
namespace Go.Proofs.YtlhoeoeapkjegaaDoor
open Go.RowKit
def fc (q : List Int × Int) (Z : List Int) : List Int × Int := Z.foldl stepC q
theorem cmp_app (A B : List Int) : cmpQ (A ++ B) = fc (cmpQ A) B := by unfold cmpQ fc; rw [List.foldl_append]
theorem fc_cons (q : List Int × Int) (z : Int) (t : List Int) : fc q (z :: t) = fc (stepC q z) t := rfl
theorem step_yes {D : List Int} {s c : Int} (h : opn D s c = true ∧ 0 ≤ pairP (nth D s.toNat) c) : stepC (D, s) c = (D.set s.toNat (pairP (nth D s.toNat) c), s) := if_pos h
theorem step_no {D : List Int} {s c : Int} (h : ¬ (opn D s c = true ∧ 0 ≤ pairP (nth D s.toNat) c)) : stepC (D, s) c = (D ++ [c], if clsZ c = 0 then (D.length : Int) else s) := if_neg h
theorem opn_pos {D : List Int} {s c : Int} (h : opn D s c = true) : 0 ≤ s := by
  unfold opn at h
  rw [Bool.and_eq_true] at h
  exact of_decide_eq_true h.1
theorem drop_set {D : List Int} {s : Int} {x : Int} (h : 0 ≤ s) : (D.set s.toNat x).drop (s + 1).toNat = D.drop (s + 1).toNat := List.drop_set_of_lt (by omega)
/-- Marks behind the last starter stay. -/
theorem keep_marks : ∀ (Z : List Int), (∀ z ∈ Z, clsZ z ≠ 0) → ∀ (D : List Int) (s : Int), (fc (D, s) Z).2 = s ∧ ∀ u ∈ D.drop (s + 1).toNat, u ∈ (fc (D, s) Z).1.drop (s + 1).toNat
  | [], _, D, s => ⟨rfl, fun u hu => hu⟩
  | z :: t, hz, D, s => by
    rw [fc_cons]
    by_cases h : opn D s z = true ∧ 0 ≤ pairP (nth D s.toNat) z
    · rw [step_yes h]
      obtain ⟨k1, k2⟩ := keep_marks t (fun y hy => hz y (by simp [hy])) (D.set s.toNat (pairP (nth D s.toNat) z)) s
      exact ⟨k1, fun u hu => k2 u (by rw [drop_set (opn_pos h.1)]; exact hu)⟩
    · rw [step_no h, if_neg (hz z (by simp))]
      obtain ⟨k1, k2⟩ := keep_marks t (fun y hy => hz y (by simp [hy])) (D ++ [z]) s
      exact ⟨k1, fun u hu => k2 u (by rw [List.drop_append]; exact List.mem_append.2 (.inl hu))⟩
/-- Each comes to the last starter. -/
def AllC : List Int → Int → List Int → Prop
  | _, _, [] => True
  | D, s, z :: t => (opn D s z = true ∧ 0 ≤ pairP (nth D s.toNat) z) ∧ AllC (D.set s.toNat (pairP (nth D s.toNat) z)) s t
theorem all_come : ∀ (Z : List Int), (∀ z ∈ Z, clsZ z ≠ 0) → ∀ (D : List Int) (s : Int), 0 ≤ s → s < D.length → (∀ u ∈ (fc (D, s) Z).1.drop (s + 1).toNat, ∀ z ∈ Z, clsZ u < clsZ z) → AllC D s Z
  | [], _, _, _, _, _, _ => trivial
  | z :: t, hz, D, s, h0, h1, hu => by
    by_cases h : opn D s z = true ∧ 0 ≤ pairP (nth D s.toNat) z
    · rw [fc_cons, step_yes h] at hu
      exact ⟨h, all_come t (fun y hy => hz y (by simp [hy])) _ s h0 (by simpa using h1) (fun u k y hy => hu u k y (by simp [hy]))⟩
    · rw [fc_cons, step_no h, if_neg (hz z (by simp))] at hu
      have k := (keep_marks t (fun y hy => hz y (by simp [hy])) (D ++ [z]) s).2 z (by
        rw [List.drop_append, show (s + 1).toNat - D.length = 0 by omega]
        simp)
      have := hu z k z (by simp)
      omega
theorem come_with {p : Int} (hp : clsZ p ≠ 0) : ∀ (Z : List Int) (D : List Int) (s : Int), s < D.length → (∀ z ∈ Z, clsZ p < clsZ z) → AllC D s Z → fc (D ++ [p], s) Z = ((fc (D, s) Z).1 ++ [p], s)
  | [], _, _, _, _, _ => rfl
  | z :: t, D, s, h1, hz, h => by
    obtain ⟨hc, ht⟩ := h
    have h0 := opn_pos hc.1
    have hs : s.toNat < D.length := by omega
    have en : nth (D ++ [p]) s.toNat = nth D s.toNat := by simp [nth, List.getD, List.getElem?_append_left hs]
    have hc' : opn (D ++ [p]) s z = true ∧ 0 ≤ pairP (nth (D ++ [p]) s.toNat) z := by
      rw [en]
      refine ⟨?_, hc.2⟩
      have h2 := hc.1
      unfold opn at h2 ⊢
      rw [Bool.and_eq_true] at h2 ⊢
      refine ⟨h2.1, ?_⟩
      rw [List.drop_append, List.all_append, h2.2, show (s + 1).toNat - D.length = 0 by omega]
      have h3 : okM z p = true := by
        unfold okM
        rw [decide_eq_true hp, decide_eq_true (hz z (by simp))]
        rfl
      simp [h3]
    rw [fc_cons, fc_cons, step_yes hc', step_yes hc, en, List.set_append_left _ _ hs]
    exact come_with hp t _ s (by simpa using h1) (fun y hy => hz y (by simp [hy])) ht
/-- Behind the last starter there are marks alone. -/
theorem cmp_marks : ∀ (n : Nat) (X : List Int), X.length = n → ∀ u ∈ (cmpQ X).1.drop ((cmpQ X).2 + 1).toNat, clsZ u ≠ 0
  | 0, X, h, u, hu => by
    obtain rfl := List.length_eq_zero_iff.1 h
    have : u ∈ ([] : List Int) := hu
    simp at this
  | n + 1, X, h, u, hu => by
    rcases snoc_cases X with rfl | ⟨X', c, rfl⟩
    · simp at h
    · have hl : X'.length = n := by simpa using h
      have ih := cmp_marks n X' hl
      have hb := cmpQ_bd n X' hl
      rw [cmpQ_snoc] at hu
      generalize cmpQ X' = q at *
      obtain ⟨D, s⟩ := q
      obtain ⟨b1, b2, b3⟩ := hb
      simp only at ih b1 b2
      by_cases ho : opn D s c = true ∧ 0 ≤ pairP (nth D s.toNat) c
      · rw [step_yes ho] at hu
        simp only at hu
        rw [drop_set (opn_pos ho.1)] at hu
        exact ih u hu
      · rw [step_no ho] at hu
        simp only at hu
        by_cases hz : clsZ c = 0
        · rw [if_pos hz, List.drop_eq_nil_of_le (by first | (simp; done) | (simp; omega))] at hu
          simp at hu
        · rw [if_neg hz, List.drop_append] at hu
          rcases List.mem_append.1 hu with e | e
          · exact ih u e
          · have e2 : u ∈ [c] := List.mem_of_mem_drop e
            simp at e2
            rw [e2]
            exact hz
theorem le_last : ∀ (n : Nat) (M : List Int), M.length = n → Adj M → (∀ u ∈ M, clsZ u ≠ 0) → ∀ u ∈ M, clsZ u ≤ lc M
  | 0, M, h, _, _, u, hu => by
    obtain rfl := List.length_eq_zero_iff.1 h
    simp at hu
  | n + 1, M, h, hA, hm, u, hu => by
    rcases snoc_cases M with rfl | ⟨M', z, rfl⟩
    · simp at h
    · rw [lc_snoc]
      rcases List.mem_append.1 hu with e | e
      · have ih := le_last n M' (by simpa using h) (adj_parts hA).1 (fun y hy => hm y (by simp [hy])) u e
        rcases adj_snoc hA with k | k
        · exact absurd k (hm z (by simp))
        · omega
      · simp at e
        rw [e]
        exact Int.le_refl _
theorem lc_drop {D : List Int} {n : Nat} (h : D.drop n ≠ []) : lc (D.drop n) = lc D := by
  rcases snoc_cases (D.drop n) with e | ⟨Z, z, e⟩
  · exact absurd e h
  · have : D = (D.take n ++ Z) ++ [z] := by rw [List.append_assoc, ← e, List.take_append_drop]
    rw [e, lc_snoc]
    conv => rhs; rw [this]
    rw [lc_snoc]
theorem take_imp {P : Int → Bool} : ∀ {l : List Int} {z : Int}, z ∈ l.takeWhile P → P z = true
  | [], z, h => by simp at h
  | a :: t, z, h => by
    rw [List.takeWhile_cons] at h
    split at h
    · rename_i ha
      rcases List.mem_cons.1 h with e | e
      · rw [e]; exact ha
      · exact take_imp e
    · simp at h
/-- A mark more. -/
theorem yes_mark {X L : List Int} {p : Int} (hX : (cmpQ X).1 = L) (hA : Adj (L ++ [p])) (hp : clsZ p ≠ 0) (hs : isSec p = false) : (cmpQ (insO X p)).1 = L ++ [p] := by
  have hlc : lc L ≤ clsZ p := by
    rcases adj_snoc hA with k | k
    · exact absurd k hp
    · exact k
  unfold insO
  rw [if_neg hp]
  have hsp : X = (X.reverse.dropWhile (clsLt p)).reverse ++ (X.reverse.takeWhile (clsLt p)).reverse := by
    rw [← List.reverse_append, List.takeWhile_append_dropWhile, List.reverse_reverse]
  have hZ : ∀ z ∈ (X.reverse.takeWhile (clsLt p)).reverse, clsLt p z = true := fun z hz => by
    rw [List.mem_reverse] at hz
    exact take_imp hz
  generalize (X.reverse.dropWhile (clsLt p)).reverse = Z1 at *
  generalize (X.reverse.takeWhile (clsLt p)).reverse = Z2 at *
  subst hsp
  have hZ2 : ∀ z ∈ Z2, clsZ p < clsZ z := fun z hz => of_decide_eq_true (hZ z hz)
  have hZm : ∀ z ∈ Z2, clsZ z ≠ 0 := fun z hz => by
    have := hZ2 z hz
    have := cls_nonneg p
    omega
  have hM := cmp_marks _ (Z1 ++ Z2) rfl
  have hb := cmpQ_bd _ Z1 rfl
  rw [cmp_app] at hX hM
  rw [cmp_app, fc_cons]
  generalize cmpQ Z1 = q at *
  obtain ⟨D, s⟩ := q
  obtain ⟨b1, b2, _⟩ := hb
  simp only at b1 b2
  have k := keep_marks Z2 hZm D s
  rw [k.1, hX] at hM
  have hno : ¬ (opn D s p = true ∧ 0 ≤ pairP (nth D s.toNat) p) := fun h => by
    have h2 := h.2
    rw [pair_sec hs] at h2
    omega
  rw [step_no hno, if_neg hp]
  by_cases h0 : 0 ≤ s
  · have hc : AllC D s Z2 := all_come Z2 hZm D s h0 b2 (fun u hu z hz => by
      rw [hX] at hu
      have h1 := le_last _ (L.drop (s + 1).toNat) rfl (by
        have := (adj_parts hA).1
        rw [← List.take_append_drop (s + 1).toNat L] at this
        exact (adj_parts this).2) hM u hu
      rw [lc_drop (fun e => by rw [e] at hu; simp at hu)] at h1
      have := hZ2 z hz
      omega)
    rw [come_with hp Z2 D s b2 hZ2 hc, hX]
  · have hs1 : s = -1 := by omega
    rcases snoc_cases Z2 with e | ⟨Z, z, e⟩
    · subst e
      show D ++ [p] = L ++ [p]
      have : D = L := hX
      rw [this]
    · exfalso
      subst e
      have e1 : fc (D, s) (Z ++ [z]) = stepC (fc (D, s) Z) z := by unfold fc; rw [List.foldl_append]; rfl
      have k2 := (keep_marks Z (fun y hy => hZm y (by simp [hy])) D s).1
      rw [e1] at hX
      generalize fc (D, s) Z = q at *
      obtain ⟨D2, s2⟩ := q
      simp only at k2
      have hno2 : ¬ (opn D2 s2 z = true ∧ 0 ≤ pairP (nth D2 s2.toNat) z) := fun h => by
        have := opn_pos h.1
        omega
      rw [step_no hno2] at hX
      have h1 : lc L = clsZ z := by rw [← hX]; exact lc_snoc _ _
      have := hZ2 z (by simp)
      omega
/-- The first part of a point is no second one. -/
theorem first_sec {p a b : Int} (h : partsZ false p = [a, b]) : isSec a = false := by
  unfold partsZ at h
  refine decide_eq_false ?_
  by_cases h1 : 8192 ≤ p ∧ p ≤ 8607
  · rw [if_pos h1] at h
    injection h with e1 h
    have hl := letterZ_bd ((p - 8192) / 8) (by omega)
    omega
  rw [if_neg h1] at h
  by_cases h2 : 8704 ≤ p ∧ p ≤ 9119
  · rw [if_pos h2] at h
    injection h with e1 h
    have hl := letterZ_bd ((p - 8704) / 8) (by omega)
    omega
  rw [if_neg h2] at h
  by_cases h3 : 9216 ≤ p ∧ p ≤ 9631
  · rw [if_pos h3] at h
    injection h with e1 h
    omega
  rw [if_neg h3] at h
  by_cases h4 : 9728 ≤ p ∧ p ≤ 9753
  · rw [if_pos h4] at h
    injection h with e1 h
    cases h
  rw [if_neg h4] at h
  by_cases h5 : 12288 ≤ p ∧ p ≤ 23459
  · rw [if_pos h5] at h
    by_cases h6 : 0 < (p - 12288) % 28
    · rw [if_pos h6] at h
      injection h with e1 h
      omega
    · rw [if_neg h6] at h
      injection h with e1 h
      omega
  rw [if_neg h5, if_neg (by simp)] at h
  cases h
theorem own_cases {f p : Int} (hp : 0 ≤ p) (h : ownB f p = true) : partsZ (isK f) p = [] ∨ ∃ a b, partsZ false p = [a, b] ∧ Bare b := by
  rcases parts_cases (isK f) p with e | ⟨a, e, hne, _⟩ | ⟨a, b, e, hne, _, hb⟩
  · exact .inl e
  · unfold ownB at h
    rw [pairZ_one e] at h
    simp only at h
    rw [pair_sec (show isSec (-1) = false by decide), decide_eq_false hne, decide_eq_false (show ¬ (-1 : Int) = p by omega)] at h
    simp at h
  · rcases parts_k (isK f) p with e2 | ⟨_, e2⟩
    · rw [e2] at e
      exact .inr ⟨a, b, e, hb⟩
    · have e3 := e
      rw [e2] at e3
      obtain ⟨_, _, w3, _⟩ := wide_two e3
      unfold ownB at h
      rw [pairZ_two e] at h
      simp only at h
      rw [pair_sec w3, decide_eq_false hne, decide_eq_false (show ¬ (-1 : Int) = p by omega)] at h
      simp at h
/-- Points that rise are laid behind. -/
theorem ins_all : ∀ (Y Z : List Int), Adj (Z ++ Y) → Y.foldl insO Z = Z ++ Y
  | [], Z, _ => by simp
  | y :: t, Z, h => by
    have e : Z ++ y :: t = (Z ++ [y]) ++ t := by simp
    rw [e] at h
    show t.foldl insO (insO Z y) = _
    rw [ins_adj (adj_parts h).1, ins_all t (Z ++ [y]) h, e]
theorem step_at {D : List Int} {a b : Int} (h : 0 ≤ pairP a b) : stepC (D ++ [a], (D.length : Int)) b = (D ++ [pairP a b], (D.length : Int)) := by
  have en : nth (D ++ [a]) ((D.length : Int)).toNat = a := by simp [nth, List.getD]
  have ho : opn (D ++ [a]) (D.length : Int) b = true ∧ 0 ≤ pairP (nth (D ++ [a]) ((D.length : Int)).toNat) b := by
    rw [en]
    refine ⟨?_, h⟩
    unfold opn
    rw [Bool.and_eq_true]
    refine ⟨decide_eq_true (by omega), ?_⟩
    rw [List.drop_eq_nil_of_le (by first | (simp; done) | (simp; omega))]
    rfl
  rw [step_yes ho, en]
  simp
theorem step_new {D : List Int} {s a : Int} (hs : isSec a = false) (h0 : clsZ a = 0) : stepC (D, s) a = (D ++ [a], (D.length : Int)) := by
  rw [step_no (fun h => by have h2 := h.2; rw [pair_sec hs] at h2; omega), if_pos h0]
/-- A starter more. -/
theorem yes_start {f : Int} {X L : List Int} {p : Int} (hX : (cmpQ X).1 = L) (hA : Adj X) (h0 : clsZ p = 0) (hs : isSec p = false) (hp : 0 ≤ p) (ho : ownB f p = true) : (cmpQ ((allF (isK f) 2 p).foldl insO X)).1 = L ++ [p] := by
  rcases own_cases hp ho with e | ⟨a, b, e, hb⟩
  · rw [allF_none e, ins_all [p] X (adj_more hA (.inl h0)), cmpQ_snoc]
    generalize cmpQ X = q at *
    obtain ⟨D, s⟩ := q
    simp only at hX
    subst hX
    rw [step_new hs h0]
  · obtain ⟨h1, h2, h3⟩ := parts_pair e
    have hk : partsZ (isK f) p = [a, b] := by rw [parts_full (by rw [e]; simp), e]
    rw [allF_two hk, allF_none (bare_none hb)]
    rcases h3 with h3 | ⟨x, y, e2, h4, h5, h6, h7, h8⟩
    · rw [allF_none (bare_none h3)]
      have hAd : Adj (X ++ ([a] ++ [b])) := by
        rw [← List.append_assoc]
        refine adj_more (adj_more hA (.inl h2)) (.inr ?_)
        rw [lc_snoc, h2]
        exact cls_nonneg b
      rw [ins_all ([a] ++ [b]) X hAd, ← List.append_assoc, cmpQ_snoc, cmpQ_snoc]
      generalize cmpQ X = q at *
      obtain ⟨D, s⟩ := q
      simp only at hX
      subst hX
      rw [step_new (first_sec e) h2, step_at (by omega), h1]
    · have hk2 : partsZ (isK f) a = [x, y] := by rw [parts_full (by rw [e2]; simp), e2]
      rw [allF_two hk2, allF_none (bare_none h6), allF_none (bare_none h7)]
      have ha : 0 ≤ pairP x y := by
        by_cases q : 0 ≤ pairP x y
        · exact q
        · have h9 := pairP_neg q
          rw [h4] at h9
          rw [h9, show partsZ false (-1) = [] by decide] at e2
          cases e2
      have hAd : Adj (X ++ ([x] ++ [y] ++ [b])) := by
        rw [← List.append_assoc, ← List.append_assoc]
        refine adj_more (adj_more (adj_more hA (.inl h5)) (.inr ?_)) ?_
        · rw [lc_snoc, h5]
          exact cls_nonneg y
        · rw [lc_snoc]
          exact h8
      rw [ins_all ([x] ++ [y] ++ [b]) X hAd, ← List.append_assoc, ← List.append_assoc, cmpQ_snoc, cmpQ_snoc, cmpQ_snoc]
      generalize cmpQ X = q at *
      obtain ⟨D, s⟩ := q
      simp only at hX
      subst hX
      rw [step_new (first_sec e2) h5, step_at ha, h4, step_at (by omega), h1]
/-- A row of points in their own form, in order, none of them a second part, is in its form. -/
theorem yes_all {f : Int} (hc : isC f = true) : ∀ (n : Nat) (L : List Int), L.length = n → Adj L → (∀ p ∈ L, 0 ≤ p ∧ ownB f p = true ∧ isSec p = false) → (cmpQ (ordL (nrmA (isK f) L))).1 = L
  | 0, L, h, _, _ => by
    obtain rfl := List.length_eq_zero_iff.1 h
    rfl
  | n + 1, L, h, hA, ho => by
    rcases snoc_cases L with rfl | ⟨L', p, rfl⟩
    · simp at h
    · have ih := yes_all hc n L' (by simpa using h) (adj_parts hA).1 (fun q hq => ho q (by simp [hq]))
      obtain ⟨o1, o2, o3⟩ := ho p (by simp)
      have e : nrmA (isK f) [p] = allF (isK f) 2 p := nrmA_one _ _
      rw [nrmA_app, e, ord_app]
      by_cases h0 : clsZ p = 0
      · exact yes_start ih (adj_ord _ _ rfl) h0 o3 o1 o2
      · have hm : partsZ (isK f) p = [] := by
          cases isK f with
          | false => exact mark_none h0
          | true => exact mark_noneK h0
        rw [allF_none hm]
        exact yes_mark ih hA h0 o3
end Go.Proofs.YtlhoeoeapkjegaaDoor
