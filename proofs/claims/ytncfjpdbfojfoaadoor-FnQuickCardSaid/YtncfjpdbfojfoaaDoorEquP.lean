/- A text in the form D or C has the same form D as the text: no Go in sight. -/
import Derived.Test.YtncfjpdbfojfoaaDoorEqvL
namespace Go.Proofs.YtncfjpdbfojfoaaDoor
open Go.RowKit
theorem ins_adj {L : List Int} {x : Int} (hA : Adj (L ++ [x])) : insO L x = L ++ [x] := by
  by_cases hx : clsZ x = 0
  · exact insO_zero _ hx
  · have h1 : L = [] ∨ ∃ Z z, L = Z ++ [z] ∧ clsLt x z = false := by
      rcases snoc_cases L with e | ⟨Z, z, e⟩
      · exact .inl e
      · refine .inr ⟨Z, z, e, ?_⟩
        rw [e, List.append_assoc] at hA
        rcases (adj_parts hA).2.1 with h | h
        · exact absurd h hx
        · exact decide_eq_false (by omega)
    have := insO_at (Z1 := L) (Z2 := []) hx (by simp) h1
    rwa [List.append_nil] at this
/-- What is in order stays. -/
theorem ord_adj : ∀ (n : Nat) (L : List Int), L.length = n → Adj L → ordL L = L
  | 0, L, h, _ => by
    obtain rfl := List.length_eq_zero_iff.1 h
    rfl
  | n + 1, L, h, hA => by
    rcases snoc_cases L with rfl | ⟨L', x, rfl⟩
    · simp at h
    · have ih := ord_adj n L' (by simpa using h) (adj_parts hA).1
      rw [ordL_snoc, ih]
      exact ins_adj hA
theorem allF_eq (k : Bool) (m : Nat) (q : Int) : allF k (m + 1) q = if partsZ k q = [] then [q] else (partsZ k q).flatMap (allF k m) := rfl
theorem deep_last {k : Bool} : ∀ (n : Nat) (p : Int), deep k n p → ∀ y ∈ allF k n p, partsZ k y = []
  | 0, p, h, y, hy => by
    rw [allF, List.mem_singleton] at hy
    rw [hy]
    exact h
  | n + 1, p, h, y, hy => by
    rw [allF_eq] at hy
    by_cases e : partsZ k p = []
    · rw [if_pos e, List.mem_singleton] at hy
      rw [hy]
      exact e
    · rw [if_neg e] at hy
      obtain ⟨x, hx, hy⟩ := List.mem_flatMap.1 hy
      exact deep_last n x (h x hx) y hy
theorem flat_congr {f g : Int → List Int} : ∀ {l : List Int}, (∀ x ∈ l, f x = g x) → l.flatMap f = l.flatMap g
  | [], _ => rfl
  | y :: l, h => by rw [List.flatMap_cons, List.flatMap_cons, h y (by simp), flat_congr (fun x hx => h x (by simp [hx]))]
theorem allF_deep {k : Bool} : ∀ (n : Nat) (p : Int), deep k n p → allF k (n + 1) p = allF k n p
  | 0, p, h => allF_none h 1
  | n + 1, p, h => by
    rw [allF_eq, allF_eq k n]
    by_cases e : partsZ k p = []
    · rw [if_pos e, if_pos e]
    · rw [if_neg e, if_neg e]
      exact flat_congr (fun x hx => allF_deep n x (h x hx))
theorem nrmA_last {k : Bool} {l : List Int} : ∀ y ∈ nrmA k l, partsZ k y = [] := fun y hy => by
  obtain ⟨p, _, hy⟩ := List.mem_flatMap.1 hy
  exact deep_last 2 p (all_deep k p) y hy
theorem nrmA_cons (k : Bool) (y : Int) (l : List Int) : nrmA k (y :: l) = allF k 2 y ++ nrmA k l := List.flatMap_cons
theorem nrmA_app (k : Bool) (a b : List Int) : nrmA k (a ++ b) = nrmA k a ++ nrmA k b := List.flatMap_append
theorem nrmA_bare {k : Bool} : ∀ {l : List Int}, (∀ y ∈ l, partsZ k y = []) → nrmA k l = l
  | [], _ => rfl
  | y :: l, h => by
    rw [nrmA_cons, allF_none (h y (by simp)), nrmA_bare (fun z hz => h z (by simp [hz]))]
    rfl
/-- Marks have no parts. -/
theorem mark_none {m : Int} (h : clsZ m ≠ 0) : partsZ false m = [] := by
  have hm : m = 1584 ∨ m = 1585 ∨ (4096 ≤ m ∧ m < 4152) := by
    unfold clsZ at h
    by_cases h1 : m = 1584
    · exact .inl h1
    by_cases h2 : m = 1585
    · exact .inr (.inl h2)
    rw [if_neg h1, if_neg h2] at h
    by_cases h3 : m < 4096
    · rw [if_pos h3] at h
      exact absurd rfl h
    by_cases h4 : m < 4152
    · exact .inr (.inr ⟨by omega, h4⟩)
    rw [if_neg h3, if_neg (by omega), if_neg (by omega), if_neg (by omega), if_neg (by omega), if_neg h4] at h
    exact absurd rfl h
  unfold partsZ
  rw [if_neg (by omega), if_neg (by omega), if_neg (by omega), if_neg (by omega), if_neg (by omega), if_neg (by simp)]
/-- Two marks of which the second is below the first: their order does not matter. -/
theorem ins_swap (Z : List Int) {c m : Int} (hm : clsZ m ≠ 0) (h : clsZ m < clsZ c) : insO (insO Z c) m = insO (insO Z m) c := by
  have hm0 := cls_nonneg m
  have hc : clsZ c ≠ 0 := by omega
  obtain ⟨A, B, rfl, hB, hA⟩ := split_last m _ Z rfl
  obtain ⟨B1, B2, rfl, hB2, hB1⟩ := split_last c _ B rfl
  have hA' : ∀ {x : Int}, clsZ m ≤ clsZ x → (A = [] ∨ ∃ Z z, A = Z ++ [z] ∧ clsLt x z = false) := fun {x} hx => by
    rcases hA with hA | ⟨Z, z, e, hz⟩
    · exact .inl hA
    · refine .inr ⟨Z, z, e, decide_eq_false ?_⟩
      have := of_decide_eq_false hz
      omega
  have hn : ¬ clsLt c m = true := by
    intro hh
    have := of_decide_eq_true hh
    omega
  have hcm : clsLt m c = true := decide_eq_true h
  have hcm' : clsLt c m = false := by
    cases e : clsLt c m with
    | false => rfl
    | true => exact absurd e hn
  have s1 : insO (A ++ (B1 ++ B2)) c = A ++ B1 ++ c :: B2 := by
    rw [← List.append_assoc]
    refine insO_at hc hB2 ?_
    rcases hB1 with rfl | ⟨Y, y, rfl, hy⟩
    · rw [List.append_nil]
      exact hA' (by omega)
    · exact .inr ⟨A ++ Y, y, by rw [List.append_assoc], hy⟩
  have s2 : insO (A ++ (B1 ++ c :: B2)) m = A ++ m :: (B1 ++ c :: B2) := by
    refine insO_at hm (fun z hz => ?_) (hA' (Int.le_refl _))
    rcases List.mem_append.1 hz with hz | hz
    · exact hB z (List.mem_append.2 (.inl hz))
    · rcases List.mem_cons.1 hz with rfl | hz
      · exact hcm
      · exact hB z (List.mem_append.2 (.inr hz))
  have s3 : insO (A ++ (B1 ++ B2)) m = A ++ m :: (B1 ++ B2) := insO_at hm hB (hA' (Int.le_refl _))
  have s4 : insO ((A ++ m :: B1) ++ B2) c = (A ++ m :: B1) ++ c :: B2 := by
    refine insO_at hc hB2 ?_
    rcases hB1 with rfl | ⟨Y, y, rfl, hy⟩
    · exact .inr ⟨A, m, rfl, hcm'⟩
    · exact .inr ⟨A ++ m :: Y, y, by simp, hy⟩
  rw [s1, List.append_assoc, s2, s3]
  have e : A ++ m :: (B1 ++ B2) = (A ++ m :: B1) ++ B2 := by simp
  rw [e, s4]
  simp
theorem ord_app (X Y : List Int) : ordL (X ++ Y) = Y.foldl insO (ordL X) := by rw [ordL, ordL, List.foldl_append]
/-- A mark ahead of lower ones comes behind them. -/
theorem ord_swap (c : Int) : ∀ (M X : List Int), (∀ m ∈ M, clsZ m ≠ 0 ∧ clsZ m < clsZ c) → ordL (X ++ c :: M) = ordL (X ++ M ++ [c])
  | [], X, _ => by simp
  | m :: M, X, h => by
    have hm := h m (by simp)
    have ih := ord_swap c M (X ++ [m]) (fun y hy => h y (by simp [hy]))
    have e1 : ordL (X ++ c :: m :: M) = ordL (X ++ [m] ++ c :: M) := by
      rw [ord_app, List.append_assoc, ord_app]
      show List.foldl insO (insO (insO (ordL X) c) m) M = List.foldl insO (insO (insO (ordL X) m) c) M
      rw [ins_swap _ hm.1 hm.2]
    rw [e1, ih]
    simp
/-- The parts of a point that two come to are theirs. -/
theorem all_pair {a c : Int} (h : 0 ≤ pairP a c) (hc : partsZ false c = []) : allF false 2 (pairP a c) = allF false 2 a ++ [c] := by
  have hp := pair_parts h
  have ha : deep false 1 a := by
    rcases parts_cases false (pairP a c) with e | ⟨x, e, _, _⟩ | ⟨x, y, e, _, hx, _⟩
    · rw [hp] at e
      cases e
    · rw [hp] at e
      cases e
    · rw [hp] at e
      injection e with e1 e2
      rw [e1]
      exact near_deep hx
  rw [allF_two hp, allF_deep 1 a ha, allF_none hc]
theorem nth_split {D : List Int} {s : Nat} (h : s < D.length) : D = D.take s ++ nth D s :: D.drop (s + 1) := by
  have e : nth D s = D[s] := by simp [nth, List.getD, h]
  rw [e, List.getElem_cons_drop h, List.take_append_drop]
/-- What is composed comes back. -/
theorem cmp_back : ∀ (n : Nat) (L : List Int), L.length = n → Adj L → (∀ y ∈ L, partsZ false y = []) → ordL (nrmA false (cmpQ L).1) = L
  | 0, L, h, _, _ => by
    obtain rfl := List.length_eq_zero_iff.1 h
    rfl
  | n + 1, L, h, hA, hL => by
    rcases snoc_cases L with rfl | ⟨L', c, rfl⟩
    · simp at h
    · have hl : L'.length = n := by simpa using h
      have ih := cmp_back n L' hl (adj_parts hA).1 (fun y hy => hL y (by simp [hy]))
      have hb := cmpQ_bd n L' hl
      have hc := hL c (by simp)
      have hi := ins_adj hA
      rw [cmpQ_snoc]
      generalize cmpQ L' = q at *
      obtain ⟨D, s⟩ := q
      obtain ⟨b1, b2, b3⟩ := hb
      simp only at b1 b2 b3 ih
      unfold stepC
      simp only
      by_cases ho : opn D s c = true ∧ 0 ≤ pairP (nth D s.toNat) c
      · rw [if_pos ho]
        simp only
        obtain ⟨ho, hp⟩ := ho
        unfold opn at ho
        rw [Bool.and_eq_true] at ho
        have h0 := of_decide_eq_true ho.1
        have hM : ∀ m ∈ D.drop (s.toNat + 1), clsZ m ≠ 0 ∧ clsZ m < clsZ c := fun m hm => by
          have e : (s + 1).toNat = s.toNat + 1 := by omega
          have := ho.2
          rw [e] at this
          have := List.all_eq_true.1 this m hm
          unfold okM at this
          rw [Bool.and_eq_true] at this
          exact ⟨of_decide_eq_true this.1, of_decide_eq_true this.2⟩
        have hs : s.toNat < D.length := by omega
        have eM : nrmA false (D.drop (s.toNat + 1)) = D.drop (s.toNat + 1) := nrmA_bare (fun y hy => mark_none (hM y hy).1)
        have eD : nrmA false D = nrmA false (D.take s.toNat) ++ allF false 2 (nth D s.toNat) ++ D.drop (s.toNat + 1) := by
          conv => lhs; rw [nth_split hs]
          rw [nrmA_app, nrmA_cons, eM, List.append_assoc]
        rw [eD] at ih
        rw [List.set_eq_take_append_cons_drop, if_pos hs, nrmA_app, nrmA_cons, eM, all_pair hp hc]
        have e2 : nrmA false (D.take s.toNat) ++ (allF false 2 (nth D s.toNat) ++ [c] ++ D.drop (s.toNat + 1)) = (nrmA false (D.take s.toNat) ++ allF false 2 (nth D s.toNat)) ++ c :: D.drop (s.toNat + 1) := by simp
        rw [e2, ord_swap c _ _ hM, ordL_snoc, ih, hi]
      · rw [if_neg ho]
        simp only
        rw [nrmA_app, nrmA_cons, allF_none hc]
        show ordL (nrmA false D ++ ([c] ++ nrmA false [])) = _
        rw [show ([c] ++ nrmA false [] : List Int) = [c] from rfl, ordL_snoc, ih, hi]
theorem ord_last {l : List Int} : ∀ y ∈ ordL (nrmA false l), partsZ false y = [] := fun y hy => nrmA_last y (ord_mem _ _ rfl y hy)
/-- D of D is D; D of C is D. -/
theorem dd (l : List Int) : nrmL 1 (nrmL 1 l) = nrmL 1 l := by
  show ordL (nrmA false (ordL (nrmA false l))) = ordL (nrmA false l)
  rw [nrmA_bare ord_last]
  exact ord_adj _ _ rfl (adj_ord _ _ rfl)
theorem dc (l : List Int) : nrmL 1 (nrmL 2 l) = nrmL 1 l := by
  show ordL (nrmA false (cmpQ (ordL (nrmA false l))).1) = ordL (nrmA false l)
  exact cmp_back _ _ rfl (adj_ord _ _ rfl) ord_last
theorem cc_iff (a b : List Int) : nrmL 2 a = nrmL 2 b ↔ nrmL 1 a = nrmL 1 b := by
  constructor
  · intro h
    rw [← dc a, ← dc b, h]
  · intro h
    show (cmpQ (nrmL 1 a)).1 = (cmpQ (nrmL 1 b)).1
    rw [h]
end Go.Proofs.YtncfjpdbfojfoaaDoor
