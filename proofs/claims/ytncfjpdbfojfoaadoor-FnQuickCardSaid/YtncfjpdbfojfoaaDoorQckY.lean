/- The quick check tells yes: the text is in the form. No Go in sight. -/
import Derived.Test.YtncfjpdbfojfoaaDoorQckN
namespace Go.Proofs.YtncfjpdbfojfoaaDoor
open Go.RowKit
def fc (q : List Int × Int) (Z : List Int) : List Int × Int := Z.foldl stepC q
theorem cmp_app (A B : List Int) : cmpQ (A ++ B) = fc (cmpQ A) B := by unfold cmpQ fc; rw [List.foldl_append]
theorem fc_cons (q : List Int × Int) (z : Int) (t : List Int) : fc q (z :: t) = fc (stepC q z) t := rfl
theorem step_yes {D : List Int} {s c : Int} (h : opn D s c = true ∧ 0 ≤ pairP (nth D s.toNat) c) : stepC (D, s) c = (D.set s.toNat (pairP (nth D s.toNat) c), s) := if_pos h
theorem step_no {D : List Int} {s c : Int} (h : ¬ (opn D s c = true ∧ 0 ≤ pairP (nth D s.toNat) c)) : stepC (D, s) c = (D ++ [c], if clsZ c = 0 then (D.length : Int) else s) := if_neg h
theorem opn_pos {D : List Int} {s c : Int} (h : opn D s c = true) : 0 ≤ s := by
  unfold opn at h
  rw [Bool.and_eq_true] at h
  exact of_decide_eq_true h.1
theorem drop_set {D : List Int} {s : Int} {x : Int} (h : 0 ≤ s) : (D.set s.toNat x).drop (s + 1).toNat = D.drop (s + 1).toNat := List.drop_set_of_lt (by omega)
/-- Marks behind the last starter stay. -/
theorem keep_marks : ∀ (Z : List Int), (∀ z ∈ Z, clsZ z ≠ 0) → ∀ (D : List Int) (s : Int), (fc (D, s) Z).2 = s ∧ ∀ u ∈ D.drop (s + 1).toNat, u ∈ (fc (D, s) Z).1.drop (s + 1).toNat
  | [], _, D, s => ⟨rfl, fun u hu => hu⟩
  | z :: t, hz, D, s => by
    rw [fc_cons]
    by_cases h : opn D s z = true ∧ 0 ≤ pairP (nth D s.toNat) z
    · rw [step_yes h]
      obtain ⟨k1, k2⟩ := keep_marks t (fun y hy => hz y (by simp [hy])) (D.set s.toNat (pairP (nth D s.toNat) z)) s
      exact ⟨k1, fun u hu => k2 u (by rw [drop_set (opn_pos h.1)]; exact hu)⟩
    · rw [step_no h, if_neg (hz z (by simp))]
      obtain ⟨k1, k2⟩ := keep_marks t (fun y hy => hz y (by simp [hy])) (D ++ [z]) s
      exact ⟨k1, fun u hu => k2 u (by rw [List.drop_append]; exact List.mem_append.2 (.inl hu))⟩
/-- Each comes to the last starter. -/
def AllC : List Int → Int → List Int → Prop
  | _, _, [] => True
  | D, s, z :: t => (opn D s z = true ∧ 0 ≤ pairP (nth D s.toNat) z) ∧ AllC (D.set s.toNat (pairP (nth D s.toNat) z)) s t
theorem all_come : ∀ (Z : List Int), (∀ z ∈ Z, clsZ z ≠ 0) → ∀ (D : List Int) (s : Int), 0 ≤ s → s < D.length → (∀ u ∈ (fc (D, s) Z).1.drop (s + 1).toNat, ∀ z ∈ Z, clsZ u < clsZ z) → AllC D s Z
  | [], _, _, _, _, _, _ => trivial
  | z :: t, hz, D, s, h0, h1, hu => by
    by_cases h : opn D s z = true ∧ 0 ≤ pairP (nth D s.toNat) z
    · rw [fc_cons, step_yes h] at hu
      exact ⟨h, all_come t (fun y hy => hz y (by simp [hy])) _ s h0 (by simpa using h1) (fun u k y hy => hu u k y (by simp [hy]))⟩
    · rw [fc_cons, step_no h, if_neg (hz z (by simp))] at hu
      have k := (keep_marks t (fun y hy => hz y (by simp [hy])) (D ++ [z]) s).2 z (by
        rw [List.drop_append, show (s + 1).toNat - D.length = 0 by omega]
        simp)
      have := hu z k z (by simp)
      omega
theorem come_with {p : Int} (hp : clsZ p ≠ 0) : ∀ (Z : List Int) (D : List Int) (s : Int), s < D.length → (∀ z ∈ Z, clsZ p < clsZ z) → AllC D s Z → fc (D ++ [p], s) Z = ((fc (D, s) Z).1 ++ [p], s)
  | [], _, _, _, _, _ => rfl
  | z :: t, D, s, h1, hz, h => by
    obtain ⟨hc, ht⟩ := h
    have h0 := opn_pos hc.1
    have hs : s.toNat < D.length := by omega
    have en : nth (D ++ [p]) s.toNat = nth D s.toNat := by simp [nth, List.getD, List.getElem?_append_left hs]
    have hc' : opn (D ++ [p]) s z = true ∧ 0 ≤ pairP (nth (D ++ [p]) s.toNat) z := by
      rw [en]
      refine ⟨?_, hc.2⟩
      have h2 := hc.1
      unfold opn at h2 ⊢
      rw [Bool.and_eq_true] at h2 ⊢
      refine ⟨h2.1, ?_⟩
      rw [List.drop_append, List.all_append, h2.2, show (s + 1).toNat - D.length = 0 by omega]
      have h3 : okM z p = true := by
        unfold okM
        rw [decide_eq_true hp, decide_eq_true (hz z (by simp))]
        rfl
      simp [h3]
    rw [fc_cons, fc_cons, step_yes hc', step_yes hc, en, List.set_append_left _ _ hs]
    exact come_with hp t _ s (by simpa using h1) (fun y hy => hz y (by simp [hy])) ht
/-- Behind the last starter there are marks alone. -/
theorem cmp_marks : ∀ (n : Nat) (X : List Int), X.length = n → ∀ u ∈ (cmpQ X).1.drop ((cmpQ X).2 + 1).toNat, clsZ u ≠ 0
  | 0, X, h, u, hu => by
    obtain rfl := List.length_eq_zero_iff.1 h
    have : u ∈ ([] : List Int) := hu
    simp at this
  | n + 1, X, h, u, hu => by
    rcases snoc_cases X with rfl | ⟨X', c, rfl⟩
    · simp at h
    · have hl : X'.length = n := by simpa using h
      have ih := cmp_marks n X' hl
      have hb := cmpQ_bd n X' hl
      rw [cmpQ_snoc] at hu
      generalize cmpQ X' = q at *
      obtain ⟨D, s⟩ := q
      obtain ⟨b1, b2, b3⟩ := hb
      simp only at ih b1 b2
      by_cases ho : opn D s c = true ∧ 0 ≤ pairP (nth D s.toNat) c
      · rw [step_yes ho] at hu
        simp only at hu
        rw [drop_set (opn_pos ho.1)] at hu
        exact ih u hu
      · rw [step_no ho] at hu
        simp only at hu
        by_cases hz : clsZ c = 0
        · rw [if_pos hz, List.drop_eq_nil_of_le (by first | (simp; done) | (simp; omega))] at hu
          simp at hu
        · rw [if_neg hz, List.drop_append] at hu
          rcases List.mem_append.1 hu with e | e
          · exact ih u e
          · have e2 : u ∈ [c] := List.mem_of_mem_drop e
            simp at e2
            rw [e2]
            exact hz
theorem le_last : ∀ (n : Nat) (M : List Int), M.length = n → Adj M → (∀ u ∈ M, clsZ u ≠ 0) → ∀ u ∈ M, clsZ u ≤ lc M
  | 0, M, h, _, _, u, hu => by
    obtain rfl := List.length_eq_zero_iff.1 h
    simp at hu
  | n + 1, M, h, hA, hm, u, hu => by
    rcases snoc_cases M with rfl | ⟨M', z, rfl⟩
    · simp at h
    · rw [lc_snoc]
      rcases List.mem_append.1 hu with e | e
      · have ih := le_last n M' (by simpa using h) (adj_parts hA).1 (fun y hy => hm y (by simp [hy])) u e
        rcases adj_snoc hA with k | k
        · exact absurd k (hm z (by simp))
        · omega
      · simp at e
        rw [e]
        exact Int.le_refl _
theorem lc_drop {D : List Int} {n : Nat} (h : D.drop n ≠ []) : lc (D.drop n) = lc D := by
  rcases snoc_cases (D.drop n) with e | ⟨Z, z, e⟩
  · exact absurd e h
  · have : D = (D.take n ++ Z) ++ [z] := by rw [List.append_assoc, ← e, List.take_append_drop]
    rw [e, lc_snoc]
    conv => rhs; rw [this]
    rw [lc_snoc]
theorem take_imp {P : Int → Bool} : ∀ {l : List Int} {z : Int}, z ∈ l.takeWhile P → P z = true
  | [], z, h => by simp at h
  | a :: t, z, h => by
    rw [List.takeWhile_cons] at h
    split at h
    · rename_i ha
      rcases List.mem_cons.1 h with e | e
      · rw [e]; exact ha
      · exact take_imp e
    · simp at h
/-- A mark more. -/
theorem yes_mark {X L : List Int} {p : Int} (hX : (cmpQ X).1 = L) (hA : Adj (L ++ [p])) (hp : clsZ p ≠ 0) (hs : isSec p = false) : (cmpQ (insO X p)).1 = L ++ [p] := by
  have hlc : lc L ≤ clsZ p := by
    rcases adj_snoc hA with k | k
    · exact absurd k hp
    · exact k
  unfold insO
  rw [if_neg hp]
  have hsp : X = (X.reverse.dropWhile (clsLt p)).reverse ++ (X.reverse.takeWhile (clsLt p)).reverse := by
    rw [← List.reverse_append, List.takeWhile_append_dropWhile, List.reverse_reverse]
  have hZ : ∀ z ∈ (X.reverse.takeWhile (clsLt p)).reverse, clsLt p z = true := fun z hz => by
    rw [List.mem_reverse] at hz
    exact take_imp hz
  generalize (X.reverse.dropWhile (clsLt p)).reverse = Z1 at *
  generalize (X.reverse.takeWhile (clsLt p)).reverse = Z2 at *
  subst hsp
  have hZ2 : ∀ z ∈ Z2, clsZ p < clsZ z := fun z hz => of_decide_eq_true (hZ z hz)
  have hZm : ∀ z ∈ Z2, clsZ z ≠ 0 := fun z hz => by
    have := hZ2 z hz
    have := cls_nonneg p
    omega
  have hM := cmp_marks _ (Z1 ++ Z2) rfl
  have hb := cmpQ_bd _ Z1 rfl
  rw [cmp_app] at hX hM
  rw [cmp_app, fc_cons]
  generalize cmpQ Z1 = q at *
  obtain ⟨D, s⟩ := q
  obtain ⟨b1, b2, _⟩ := hb
  simp only at b1 b2
  have k := keep_marks Z2 hZm D s
  rw [k.1, hX] at hM
  have hno : ¬ (opn D s p = true ∧ 0 ≤ pairP (nth D s.toNat) p) := fun h => by
    have h2 := h.2
    rw [pair_sec hs] at h2
    omega
  rw [step_no hno, if_neg hp]
  by_cases h0 : 0 ≤ s
  · have hc : AllC D s Z2 := all_come Z2 hZm D s h0 b2 (fun u hu z hz => by
      rw [hX] at hu
      have h1 := le_last _ (L.drop (s + 1).toNat) rfl (by
        have := (adj_parts hA).1
        rw [← List.take_append_drop (s + 1).toNat L] at this
        exact (adj_parts this).2) hM u hu
      rw [lc_drop (fun e => by rw [e] at hu; simp at hu)] at h1
      have := hZ2 z hz
      omega)
    rw [come_with hp Z2 D s b2 hZ2 hc, hX]
  · have hs1 : s = -1 := by omega
    rcases snoc_cases Z2 with e | ⟨Z, z, e⟩
    · subst e
      show D ++ [p] = L ++ [p]
      have : D = L := hX
      rw [this]
    · exfalso
      subst e
      have e1 : fc (D, s) (Z ++ [z]) = stepC (fc (D, s) Z) z := by unfold fc; rw [List.foldl_append]; rfl
      have k2 := (keep_marks Z (fun y hy => hZm y (by simp [hy])) D s).1
      rw [e1] at hX
      generalize fc (D, s) Z = q at *
      obtain ⟨D2, s2⟩ := q
      simp only at k2
      have hno2 : ¬ (opn D2 s2 z = true ∧ 0 ≤ pairP (nth D2 s2.toNat) z) := fun h => by
        have := opn_pos h.1
        omega
      rw [step_no hno2] at hX
      have h1 : lc L = clsZ z := by rw [← hX]; exact lc_snoc _ _
      have := hZ2 z (by simp)
      omega
/-- The first part of a point is no second one. -/
theorem first_sec {p a b : Int} (h : partsZ false p = [a, b]) : isSec a = false := by
  unfold partsZ at h
  refine decide_eq_false ?_
  by_cases h1 : 8192 ≤ p ∧ p ≤ 8607
  · rw [if_pos h1] at h
    injection h with e1 h
    have hl := letterZ_bd ((p - 8192) / 8) (by omega)
    omega
  rw [if_neg h1] at h
  by_cases h2 : 8704 ≤ p ∧ p ≤ 9119
  · rw [if_pos h2] at h
    injection h with e1 h
    have hl := letterZ_bd ((p - 8704) / 8) (by omega)
    omega
  rw [if_neg h2] at h
  by_cases h3 : 9216 ≤ p ∧ p ≤ 9631
  · rw [if_pos h3] at h
    injection h with e1 h
    omega
  rw [if_neg h3] at h
  by_cases h4 : 9728 ≤ p ∧ p ≤ 9753
  · rw [if_pos h4] at h
    injection h with e1 h
    cases h
  rw [if_neg h4] at h
  by_cases h5 : 12288 ≤ p ∧ p ≤ 23459
  · rw [if_pos h5] at h
    by_cases h6 : 0 < (p - 12288) % 28
    · rw [if_pos h6] at h
      injection h with e1 h
      omega
    · rw [if_neg h6] at h
      injection h with e1 h
      omega
  rw [if_neg h5, if_neg (by simp)] at h
  cases h
theorem own_cases {f p : Int} (hp : 0 ≤ p) (h : ownB f p = true) : partsZ (isK f) p = [] ∨ ∃ a b, partsZ false p = [a, b] ∧ Bare b := by
  rcases parts_cases (isK f) p with e | ⟨a, e, hne, _⟩ | ⟨a, b, e, hne, _, hb⟩
  · exact .inl e
  · unfold ownB at h
    rw [pairZ_one e] at h
    simp only at h
    rw [pair_sec (show isSec (-1) = false by decide), decide_eq_false hne, decide_eq_false (show ¬ (-1 : Int) = p by omega)] at h
    simp at h
  · rcases parts_k (isK f) p with e2 | ⟨_, e2⟩
    · rw [e2] at e
      exact .inr ⟨a, b, e, hb⟩
    · have e3 := e
      rw [e2] at e3
      obtain ⟨_, _, w3, _⟩ := wide_two e3
      unfold ownB at h
      rw [pairZ_two e] at h
      simp only at h
      rw [pair_sec w3, decide_eq_false hne, decide_eq_false (show ¬ (-1 : Int) = p by omega)] at h
      simp at h
/-- Points that rise are laid behind. -/
theorem ins_all : ∀ (Y Z : List Int), Adj (Z ++ Y) → Y.foldl insO Z = Z ++ Y
  | [], Z, _ => by simp
  | y :: t, Z, h => by
    have e : Z ++ y :: t = (Z ++ [y]) ++ t := by simp
    rw [e] at h
    show t.foldl insO (insO Z y) = _
    rw [ins_adj (adj_parts h).1, ins_all t (Z ++ [y]) h, e]
theorem step_at {D : List Int} {a b : Int} (h : 0 ≤ pairP a b) : stepC (D ++ [a], (D.length : Int)) b = (D ++ [pairP a b], (D.length : Int)) := by
  have en : nth (D ++ [a]) ((D.length : Int)).toNat = a := by simp [nth, List.getD]
  have ho : opn (D ++ [a]) (D.length : Int) b = true ∧ 0 ≤ pairP (nth (D ++ [a]) ((D.length : Int)).toNat) b := by
    rw [en]
    refine ⟨?_, h⟩
    unfold opn
    rw [Bool.and_eq_true]
    refine ⟨decide_eq_true (by omega), ?_⟩
    rw [List.drop_eq_nil_of_le (by first | (simp; done) | (simp; omega))]
    rfl
  rw [step_yes ho, en]
  simp
theorem step_new {D : List Int} {s a : Int} (hs : isSec a = false) (h0 : clsZ a = 0) : stepC (D, s) a = (D ++ [a], (D.length : Int)) := by
  rw [step_no (fun h => by have h2 := h.2; rw [pair_sec hs] at h2; omega), if_pos h0]
/-- A starter more. -/
theorem yes_start {f : Int} {X L : List Int} {p : Int} (hX : (cmpQ X).1 = L) (hA : Adj X) (h0 : clsZ p = 0) (hs : isSec p = false) (hp : 0 ≤ p) (ho : ownB f p = true) : (cmpQ ((allF (isK f) 2 p).foldl insO X)).1 = L ++ [p] := by
  rcases own_cases hp ho with e | ⟨a, b, e, hb⟩
  · rw [allF_none e, ins_all [p] X (adj_more hA (.inl h0)), cmpQ_snoc]
    generalize cmpQ X = q at *
    obtain ⟨D, s⟩ := q
    simp only at hX
    subst hX
    rw [step_new hs h0]
  · obtain ⟨h1, h2, h3⟩ := parts_pair e
    have hk : partsZ (isK f) p = [a, b] := by rw [parts_full (by rw [e]; simp), e]
    rw [allF_two hk, allF_none (bare_none hb)]
    rcases h3 with h3 | ⟨x, y, e2, h4, h5, h6, h7, h8⟩
    · rw [allF_none (bare_none h3)]
      have hAd : Adj (X ++ ([a] ++ [b])) := by
        rw [← List.append_assoc]
        refine adj_more (adj_more hA (.inl h2)) (.inr ?_)
        rw [lc_snoc, h2]
        exact cls_nonneg b
      rw [ins_all ([a] ++ [b]) X hAd, ← List.append_assoc, cmpQ_snoc, cmpQ_snoc]
      generalize cmpQ X = q at *
      obtain ⟨D, s⟩ := q
      simp only at hX
      subst hX
      rw [step_new (first_sec e) h2, step_at (by omega), h1]
    · have hk2 : partsZ (isK f) a = [x, y] := by rw [parts_full (by rw [e2]; simp), e2]
      rw [allF_two hk2, allF_none (bare_none h6), allF_none (bare_none h7)]
      have ha : 0 ≤ pairP x y := by
        by_cases q : 0 ≤ pairP x y
        · exact q
        · have h9 := pairP_neg q
          rw [h4] at h9
          rw [h9, show partsZ false (-1) = [] by decide] at e2
          cases e2
      have hAd : Adj (X ++ ([x] ++ [y] ++ [b])) := by
        rw [← List.append_assoc, ← List.append_assoc]
        refine adj_more (adj_more (adj_more hA (.inl h5)) (.inr ?_)) ?_
        · rw [lc_snoc, h5]
          exact cls_nonneg y
        · rw [lc_snoc]
          exact h8
      rw [ins_all ([x] ++ [y] ++ [b]) X hAd, ← List.append_assoc, ← List.append_assoc, cmpQ_snoc, cmpQ_snoc, cmpQ_snoc]
      generalize cmpQ X = q at *
      obtain ⟨D, s⟩ := q
      simp only at hX
      subst hX
      rw [step_new (first_sec e2) h5, step_at ha, h4, step_at (by omega), h1]
/-- A row of points in their own form, in order, none of them a second part, is in its form. -/
theorem yes_all {f : Int} (hc : isC f = true) : ∀ (n : Nat) (L : List Int), L.length = n → Adj L → (∀ p ∈ L, 0 ≤ p ∧ ownB f p = true ∧ isSec p = false) → (cmpQ (ordL (nrmA (isK f) L))).1 = L
  | 0, L, h, _, _ => by
    obtain rfl := List.length_eq_zero_iff.1 h
    rfl
  | n + 1, L, h, hA, ho => by
    rcases snoc_cases L with rfl | ⟨L', p, rfl⟩
    · simp at h
    · have ih := yes_all hc n L' (by simpa using h) (adj_parts hA).1 (fun q hq => ho q (by simp [hq]))
      obtain ⟨o1, o2, o3⟩ := ho p (by simp)
      have e : nrmA (isK f) [p] = allF (isK f) 2 p := nrmA_one _ _
      rw [nrmA_app, e, ord_app]
      by_cases h0 : clsZ p = 0
      · exact yes_start ih (adj_ord _ _ rfl) h0 o3 o1 o2
      · have hm : partsZ (isK f) p = [] := by
          cases isK f with
          | false => exact mark_none h0
          | true => exact mark_noneK h0
        rw [allF_none hm]
        exact yes_mark ih hA h0 o3
end Go.Proofs.YtncfjpdbfojfoaaDoor
