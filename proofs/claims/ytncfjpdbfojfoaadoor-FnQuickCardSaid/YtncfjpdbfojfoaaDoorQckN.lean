/- The quick check tells no: the text is not in the form; in the forms D and KD it tells yes of none else. No Go in sight. -/
import Derived.Test.YtncfjpdbfojfoaaDoorQckP
import Derived.Test.YtncfjpdbfojfoaaDoorStaP
namespace Go.Proofs.YtncfjpdbfojfoaaDoor
open Go.RowKit
/-- The class of the last point. -/
def lc (L : List Int) : Int := (L.map clsZ).getLastD 0
theorem lc_snoc (Z : List Int) (z : Int) : lc (Z ++ [z]) = clsZ z := by simp [lc]
theorem lc_nil : lc [] = 0 := rfl
theorem adj_congr : ∀ (A B : List Int), A.map clsZ = B.map clsZ → Adj A → Adj B
  | [], [], _, _ => trivial
  | [_], [_], _, _ => trivial
  | a :: b :: t, a' :: b' :: t', h, hA => by
    simp only [List.map_cons, List.cons.injEq] at h
    obtain ⟨h1, h2, h3⟩ := h
    refine ⟨by rw [← h1, ← h2]; exact hA.1, adj_congr (b :: t) (b' :: t') ?_ hA.2⟩
    simp only [List.map_cons, List.cons.injEq]
    exact ⟨h2, h3⟩
  | [], _ :: _, h, _ => by simp at h
  | [_], [], h, _ => by simp at h
  | [_], _ :: _ :: _, h, _ => by simp at h
  | _ :: _ :: _, [], h, _ => by simp at h
  | _ :: _ :: _, [_], h, _ => by simp at h
theorem adj_snoc {Z : List Int} {p : Int} (h : Adj (Z ++ [p])) : clsZ p = 0 ∨ lc Z ≤ clsZ p := by
  rcases snoc_cases Z with rfl | ⟨Z', z, rfl⟩
  · exact .inr (by rw [lc_nil]; exact cls_nonneg p)
  · rw [List.append_assoc] at h
    have := (adj_parts h).2
    rw [lc_snoc]
    exact this.1
theorem adj_more {Z : List Int} {p : Int} (h : Adj Z) (h2 : clsZ p = 0 ∨ lc Z ≤ clsZ p) : Adj (Z ++ [p]) := by
  rcases snoc_cases Z with rfl | ⟨Z', z, rfl⟩
  · exact trivial
  · rw [List.append_assoc]
    rw [lc_snoc] at h2
    exact adj_join h ⟨h2, trivial⟩
theorem cls_whole {a c : Int} (h : 0 ≤ pairP a c) : clsZ (pairP a c) = 0 := by
  have hp := pair_parts h
  by_cases h1 : pairP a c < 8192 ∨ 23459 < pairP a c
  · rw [parts_no h1] at hp
    cases hp
  · exact cls_low (by omega)
theorem set_same {D : List Int} {s : Nat} {x : Int} (hs : s < D.length) (h : clsZ x = clsZ (nth D s)) : (D.set s x).map clsZ = D.map clsZ := by
  rw [List.map_set, h]
  have e : nth D s = D[s] := by simp [nth, List.getD, hs]
  rw [e]
  apply List.ext_getElem
  · simp
  · intro i h1 h2
    rw [List.getElem_set]
    split
    · rename_i e2
      subst e2
      simp
    · rfl
/-- What is composed stays in order. -/
theorem adj_cmp : ∀ (n : Nat) (X : List Int), X.length = n → Adj X → Adj (cmpQ X).1 ∧ lc (cmpQ X).1 ≤ lc X ∧ (0 ≤ (cmpQ X).2 → clsZ (nth (cmpQ X).1 (cmpQ X).2.toNat) = 0)
  | 0, X, h, _ => by
    obtain rfl := List.length_eq_zero_iff.1 h
    exact ⟨trivial, Int.le_refl _, fun h => by have : (0 : Int) ≤ -1 := h; omega⟩
  | n + 1, X, h, hA => by
    rcases snoc_cases X with rfl | ⟨X', c, rfl⟩
    · simp at h
    · have hl : X'.length = n := by simpa using h
      obtain ⟨i1, i2, i3⟩ := adj_cmp n X' hl (adj_parts hA).1
      have hb := cmpQ_bd n X' hl
      rw [cmpQ_snoc, lc_snoc]
      generalize cmpQ X' = q at *
      obtain ⟨D, s⟩ := q
      obtain ⟨b1, b2, b3⟩ := hb
      simp only at i1 i2 i3 b1 b2 b3
      unfold stepC
      simp only
      by_cases ho : opn D s c = true ∧ 0 ≤ pairP (nth D s.toNat) c
      · rw [if_pos ho]
        simp only
        obtain ⟨ho, hp⟩ := ho
        unfold opn at ho
        rw [Bool.and_eq_true] at ho
        have h0 := of_decide_eq_true ho.1
        have hs : s.toNat < D.length := by omega
        have e := set_same (x := pairP (nth D s.toNat) c) hs (by rw [cls_whole hp, i3 h0])
        refine ⟨adj_congr _ _ e.symm i1, ?_, fun _ => ?_⟩
        · have e2 : lc (D.set s.toNat (pairP (nth D s.toNat) c)) = lc D := by unfold lc; rw [e]
          rw [e2]
          rcases snoc_cases (D.drop (s.toNat + 1)) with e3 | ⟨Z, z, e3⟩
          · have hD : D = D.take s.toNat ++ [nth D s.toNat] := by
              have := nth_split hs
              rw [e3] at this
              exact this
            rw [hD, lc_snoc, i3 h0]
            exact cls_nonneg c
          · have hD : D = (D.take s.toNat ++ nth D s.toNat :: Z) ++ [z] := by
              have := nth_split hs
              rw [e3] at this
              rw [List.append_assoc]
              exact this
            have hz := List.all_eq_true.1 ho.2 z (by rw [show (s + 1).toNat = s.toNat + 1 by omega, e3]; simp)
            unfold okM at hz
            rw [Bool.and_eq_true] at hz
            rw [hD, lc_snoc]
            have := of_decide_eq_true hz.2
            omega
        · have e4 : nth (D.set s.toNat (pairP (nth D s.toNat) c)) s.toNat = pairP (nth D s.toNat) c := by simp [nth, List.getD, hs]
          rw [e4]
          exact cls_whole hp
      · rw [if_neg ho]
        simp only
        have hc := adj_snoc hA
        refine ⟨adj_more i1 ?_, by rw [lc_snoc]; exact Int.le_refl _, ?_⟩
        · rcases hc with hc | hc
          · exact .inl hc
          · exact .inr (by omega)
        · intro hq
          by_cases hz : clsZ c = 0
          · rw [if_pos hz]
            have : nth (D ++ [c]) ((D.length : Int)).toNat = c := by simp [nth, List.getD]
            rw [this]
            exact hz
          · rw [if_neg hz] at hq ⊢
            have hs : s.toNat < D.length := by omega
            have : nth (D ++ [c]) s.toNat = nth D s.toNat := by simp [nth, List.getD, List.getElem?_append_left hs]
            rw [this]
            exact i3 hq
/-- What is composed was there, or is a whole. -/
theorem mem_cmp : ∀ (n : Nat) (X : List Int), X.length = n → ∀ y ∈ (cmpQ X).1, y ∈ X ∨ ∃ a c, y = pairP a c ∧ 0 ≤ pairP a c
  | 0, X, h, y, hy => by
    obtain rfl := List.length_eq_zero_iff.1 h
    have : y ∈ ([] : List Int) := hy
    simp at this
  | n + 1, X, h, y, hy => by
    rcases snoc_cases X with rfl | ⟨X', c, rfl⟩
    · simp at h
    · have hl : X'.length = n := by simpa using h
      have ih := mem_cmp n X' hl
      rw [cmpQ_snoc] at hy
      generalize cmpQ X' = q at *
      obtain ⟨D, s⟩ := q
      simp only at ih
      unfold stepC at hy
      simp only at hy
      by_cases ho : opn D s c = true ∧ 0 ≤ pairP (nth D s.toNat) c
      · rw [if_pos ho] at hy
        rcases List.mem_or_eq_of_mem_set hy with e | e
        · rcases ih y e with k | k
          · exact .inl (by simp [k])
          · exact .inr k
        · exact .inr ⟨_, _, e, ho.2⟩
      · rw [if_neg ho] at hy
        rcases List.mem_append.1 hy with e | e
        · rcases ih y e with k | k
          · exact .inl (by simp [k])
          · exact .inr k
        · exact .inl (by simp at e; simp [e])
theorem own_whole {f a c : Int} (hc : isC f = true) (h : 0 ≤ pairP a c) : ownB f (pairP a c) = true := by
  have hp := pair_parts h
  rcases parts_cases false (pairP a c) with e | ⟨x, e, _, _⟩ | ⟨x, y, e, _, _, hy⟩
  · rw [hp] at e; cases e
  · rw [hp] at e; cases e
  · rw [hp] at e
    injection e with e1 e
    injection e with e2 _
    exact (own_iff f _ h).1 (own_two hc hp (by rw [e2]; exact hy) h)
theorem own_bare {f p : Int} (h : partsZ (isK f) p = []) : ownB f p = true := by unfold ownB; rw [pairZ_none h]; simp
theorem q_some {f : Int} : ∀ (n : Nat) (L : List Int), L.length = n → Adj L → (∀ p ∈ L, ownB f p = true) → ∃ o, qS f L = some (lc L, o)
  | 0, L, h, _, _ => by
    obtain rfl := List.length_eq_zero_iff.1 h
    exact ⟨1, rfl⟩
  | n + 1, L, h, hA, ho => by
    rcases snoc_cases L with rfl | ⟨L', p, rfl⟩
    · simp at h
    · obtain ⟨o, e⟩ := q_some n L' (by simpa using h) (adj_parts hA).1 (fun q hq => ho q (by simp [hq]))
      rw [qS_snoc, e, lc_snoc]
      unfold qStep
      simp only
      have h1 := adj_snoc hA
      rw [if_neg (by
        rintro (⟨a, b⟩ | a)
        · rcases h1 with h1 | h1
          · exact a h1
          · omega
        · rw [ho p (by simp)] at a
          cases a)]
      exact ⟨_, rfl⟩
theorem q_back {f : Int} : ∀ (n : Nat) (L : List Int), L.length = n → ∀ r, qS f L = some r → Adj L ∧ (∀ p ∈ L, ownB f p = true) ∧ r.1 = lc L
  | 0, L, h, r, hr => by
    obtain rfl := List.length_eq_zero_iff.1 h
    have e : some ((0 : Int), (1 : Int)) = some r := hr
    injection e with e
    exact ⟨trivial, fun p hp => by simp at hp, by rw [← e]; rfl⟩
  | n + 1, L, h, r, hr => by
    rcases snoc_cases L with rfl | ⟨L', p, rfl⟩
    · simp at h
    · rw [qS_snoc] at hr
      cases hq : qS f L' with
      | none => rw [hq] at hr; cases hr
      | some q =>
        obtain ⟨i1, i2, i3⟩ := q_back n L' (by simpa using h) q hq
        rw [hq] at hr
        obtain ⟨a, o⟩ := q
        unfold qStep at hr
        simp only at hr i3
        by_cases hc : (clsZ p ≠ 0 ∧ clsZ p < a) ∨ ownB f p = false
        · rw [if_pos hc] at hr
          cases hr
        · rw [if_neg hc] at hr
          injection hr with hr
          refine ⟨adj_more i1 ?_, ?_, ?_⟩
          · by_cases h0 : clsZ p = 0
            · exact .inl h0
            · refine .inr ?_
              have : ¬ clsZ p < a := fun e => hc (.inl ⟨h0, e⟩)
              omega
          · intro q hq'
            rcases List.mem_append.1 hq' with e | e
            · exact i2 q e
            · simp at e
              subst e
              cases hw : ownB f q with
              | true => rfl
              | false => exact absurd (.inr hw) hc
          · rw [lc_snoc, ← hr]
/-- A row in its form is not told no. -/
theorem q_no {f : Int} {L : List Int} (h : nrmL f L = L) : qS f L ≠ none := by
  have hX := adj_ord _ (nrmA (isK f) L) rfl
  have hP : ∀ y ∈ ordL (nrmA (isK f) L), partsZ (isK f) y = [] := fun y hy => nrmA_last y (ord_mem _ _ rfl y hy)
  have key : Adj L ∧ ∀ p ∈ L, ownB f p = true := by
    cases hc : isC f with
    | false =>
      rw [nrm_d hc] at h
      rw [h] at hX hP
      exact ⟨hX, fun p hp => own_bare (hP p hp)⟩
    | true =>
      rw [nrm_c hc] at h
      have h1 := (adj_cmp _ _ rfl hX).1
      rw [h] at h1
      refine ⟨h1, fun p hp => ?_⟩
      rw [← h] at hp
      rcases mem_cmp _ _ rfl p hp with e | ⟨a, c, rfl, e⟩
      · exact own_bare (hP p e)
      · exact own_whole hc e
  obtain ⟨o, e⟩ := q_some _ L rfl key.1 key.2
  rw [e]
  simp
/-- In the forms D and KD a row that is not told no is in its form. -/
theorem q_yes_d {f : Int} {L : List Int} {r : Int × Int} (hc : isC f = false) (h : qS f L = some r) : nrmL f L = L := by
  obtain ⟨h1, h2, _⟩ := q_back _ L rfl r h
  have h3 : ∀ p ∈ L, partsZ (isK f) p = [] := fun p hp => by
    have ho := h2 p hp
    unfold ownB at ho
    rw [hc] at ho
    simp only [Bool.false_and, Bool.or_false, decide_eq_true_eq] at ho
    rcases parts_cases (isK f) p with e | ⟨a, e, hne, _⟩ | ⟨a, b, e, hne, _, _⟩
    · exact e
    · rw [pairZ_one e] at ho
      exact absurd ho hne
    · rw [pairZ_two e] at ho
      exact absurd ho hne
  rw [nrm_d hc, nrmA_bare h3]
  exact ord_adj _ _ rfl h1
end Go.Proofs.YtncfjpdbfojfoaaDoor
