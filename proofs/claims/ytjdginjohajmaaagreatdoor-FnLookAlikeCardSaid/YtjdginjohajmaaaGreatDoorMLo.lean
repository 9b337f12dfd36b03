/- Several texts in one. -/
import Derived.Test.YtjdginjohajmaaaGreatDoorEqvL
import Derived.Test.YtjdginjohajmaaaGreatDoorSkeK
import Derived.Test.YtjdginjohajmaaaGreatDoorMA
import Derived.Test.YtjdginjohajmaaaGreatDoorSkeL
import Derived.Test.YtjdginjohajmaaaGreatDoorMDr
import Derived.Test.YtjdginjohajmaaaGreatDoorMRi
/- A text in the form D or C has the same form D as the text: no Go in sight. -/
namespace Go.Proofs.YtjdginjohajmaaaGreatDoor
open Go.RowKit
theorem ins_adj {L : List Int} {x : Int} (hA : Adj (L ++ [x])) : insO L x = L ++ [x] := by
  by_cases hx : clsZ x = 0
  · exact insO_zero _ hx
  · have h1 : L = [] ∨ ∃ Z z, L = Z ++ [z] ∧ clsLt x z = false := by
      rcases snoc_cases L with e | ⟨Z, z, e⟩
      · exact .inl e
      · refine .inr ⟨Z, z, e, ?_⟩
        rw [e, List.append_assoc] at hA
        rcases (adj_parts hA).2.1 with h | h
        · exact absurd h hx
        · exact decide_eq_false (by omega)
    have := insO_at (Z1 := L) (Z2 := []) hx (by simp) h1
    rwa [List.append_nil] at this
/-- What is in order stays. -/
theorem ord_adj : ∀ (n : Nat) (L : List Int), L.length = n → Adj L → ordL L = L
  | 0, L, h, _ => by
    obtain rfl := List.length_eq_zero_iff.1 h
    rfl
  | n + 1, L, h, hA => by
    rcases snoc_cases L with rfl | ⟨L', x, rfl⟩
    · simp at h
    · have ih := ord_adj n L' (by simpa using h) (adj_parts hA).1
      rw [ordL_snoc, ih]
      exact ins_adj hA
theorem allF_eq (k : Bool) (m : Nat) (q : Int) : allF k (m + 1) q = if partsZ k q = [] then [q] else (partsZ k q).flatMap (allF k m) := rfl
theorem deep_last {k : Bool} : ∀ (n : Nat) (p : Int), deep k n p → ∀ y ∈ allF k n p, partsZ k y = []
  | 0, p, h, y, hy => by
    rw [allF, List.mem_singleton] at hy
    rw [hy]
    exact h
  | n + 1, p, h, y, hy => by
    rw [allF_eq] at hy
    by_cases e : partsZ k p = []
    · rw [if_pos e, List.mem_singleton] at hy
      rw [hy]
      exact e
    · rw [if_neg e] at hy
      obtain ⟨x, hx, hy⟩ := List.mem_flatMap.1 hy
      exact deep_last n x (h x hx) y hy
theorem flat_congr {f g : Int → List Int} : ∀ {l : List Int}, (∀ x ∈ l, f x = g x) → l.flatMap f = l.flatMap g
  | [], _ => rfl
  | y :: l, h => by rw [List.flatMap_cons, List.flatMap_cons, h y (by simp), flat_congr (fun x hx => h x (by simp [hx]))]
theorem allF_deep {k : Bool} : ∀ (n : Nat) (p : Int), deep k n p → allF k (n + 1) p = allF k n p
  | 0, p, h => allF_none h 1
  | n + 1, p, h => by
    rw [allF_eq, allF_eq k n]
    by_cases e : partsZ k p = []
    · rw [if_pos e, if_pos e]
    · rw [if_neg e, if_neg e]
      exact flat_congr (fun x hx => allF_deep n x (h x hx))
theorem nrmA_last {k : Bool} {l : List Int} : ∀ y ∈ nrmA k l, partsZ k y = [] := fun y hy => by
  obtain ⟨p, _, hy⟩ := List.mem_flatMap.1 hy
  exact deep_last 2 p (all_deep k p) y hy
theorem nrmA_cons (k : Bool) (y : Int) (l : List Int) : nrmA k (y :: l) = allF k 2 y ++ nrmA k l := List.flatMap_cons
theorem nrmA_app (k : Bool) (a b : List Int) : nrmA k (a ++ b) = nrmA k a ++ nrmA k b := List.flatMap_append
theorem nrmA_bare {k : Bool} : ∀ {l : List Int}, (∀ y ∈ l, partsZ k y = []) → nrmA k l = l
  | [], _ => rfl
  | y :: l, h => by
    rw [nrmA_cons, allF_none (h y (by simp)), nrmA_bare (fun z hz => h z (by simp [hz]))]
    rfl
/-- Marks have no parts. -/
theorem mark_none {m : Int} (h : clsZ m ≠ 0) : partsZ false m = [] := by
  have hm : m = 1584 ∨ m = 1585 ∨ (4096 ≤ m ∧ m < 4152) := by
    unfold clsZ at h
    by_cases h1 : m = 1584
    · exact .inl h1
    by_cases h2 : m = 1585
    · exact .inr (.inl h2)
    rw [if_neg h1, if_neg h2] at h
    by_cases h3 : m < 4096
    · rw [if_pos h3] at h
      exact absurd rfl h
    by_cases h4 : m < 4152
    · exact .inr (.inr ⟨by omega, h4⟩)
    rw [if_neg h3, if_neg (by omega), if_neg (by omega), if_neg (by omega), if_neg (by omega), if_neg h4] at h
    exact absurd rfl h
  unfold partsZ
  rw [if_neg (by omega), if_neg (by omega), if_neg (by omega), if_neg (by omega), if_neg (by omega), if_neg (by simp)]
/-- Two marks of which the second is below the first: their order does not matter. -/
theorem ins_swap (Z : List Int) {c m : Int} (hm : clsZ m ≠ 0) (h : clsZ m < clsZ c) : insO (insO Z c) m = insO (insO Z m) c := by
  have hm0 := cls_nonneg m
  have hc : clsZ c ≠ 0 := by omega
  obtain ⟨A, B, rfl, hB, hA⟩ := split_last m _ Z rfl
  obtain ⟨B1, B2, rfl, hB2, hB1⟩ := split_last c _ B rfl
  have hA' : ∀ {x : Int}, clsZ m ≤ clsZ x → (A = [] ∨ ∃ Z z, A = Z ++ [z] ∧ clsLt x z = false) := fun {x} hx => by
    rcases hA with hA | ⟨Z, z, e, hz⟩
    · exact .inl hA
    · refine .inr ⟨Z, z, e, decide_eq_false ?_⟩
      have := of_decide_eq_false hz
      omega
  have hn : ¬ clsLt c m = true := by
    intro hh
    have := of_decide_eq_true hh
    omega
  have hcm : clsLt m c = true := decide_eq_true h
  have hcm' : clsLt c m = false := by
    cases e : clsLt c m with
    | false => rfl
    | true => exact absurd e hn
  have s1 : insO (A ++ (B1 ++ B2)) c = A ++ B1 ++ c :: B2 := by
    rw [← List.append_assoc]
    refine insO_at hc hB2 ?_
    rcases hB1 with rfl | ⟨Y, y, rfl, hy⟩
    · rw [List.append_nil]
      exact hA' (by omega)
    · exact .inr ⟨A ++ Y, y, by rw [List.append_assoc], hy⟩
  have s2 : insO (A ++ (B1 ++ c :: B2)) m = A ++ m :: (B1 ++ c :: B2) := by
    refine insO_at hm (fun z hz => ?_) (hA' (Int.le_refl _))
    rcases List.mem_append.1 hz with hz | hz
    · exact hB z (List.mem_append.2 (.inl hz))
    · rcases List.mem_cons.1 hz with rfl | hz
      · exact hcm
      · exact hB z (List.mem_append.2 (.inr hz))
  have s3 : insO (A ++ (B1 ++ B2)) m = A ++ m :: (B1 ++ B2) := insO_at hm hB (hA' (Int.le_refl _))
  have s4 : insO ((A ++ m :: B1) ++ B2) c = (A ++ m :: B1) ++ c :: B2 := by
    refine insO_at hc hB2 ?_
    rcases hB1 with rfl | ⟨Y, y, rfl, hy⟩
    · exact .inr ⟨A, m, rfl, hcm'⟩
    · exact .inr ⟨A ++ m :: Y, y, by simp, hy⟩
  rw [s1, List.append_assoc, s2, s3]
  have e : A ++ m :: (B1 ++ B2) = (A ++ m :: B1) ++ B2 := by simp
  rw [e, s4]
  simp
theorem ord_app (X Y : List Int) : ordL (X ++ Y) = Y.foldl insO (ordL X) := by rw [ordL, ordL, List.foldl_append]
/-- A mark ahead of lower ones comes behind them. -/
theorem ord_swap (c : Int) : ∀ (M X : List Int), (∀ m ∈ M, clsZ m ≠ 0 ∧ clsZ m < clsZ c) → ordL (X ++ c :: M) = ordL (X ++ M ++ [c])
  | [], X, _ => by simp
  | m :: M, X, h => by
    have hm := h m (by simp)
    have ih := ord_swap c M (X ++ [m]) (fun y hy => h y (by simp [hy]))
    have e1 : ordL (X ++ c :: m :: M) = ordL (X ++ [m] ++ c :: M) := by
      rw [ord_app, List.append_assoc, ord_app]
      show List.foldl insO (insO (insO (ordL X) c) m) M = List.foldl insO (insO (insO (ordL X) m) c) M
      rw [ins_swap _ hm.1 hm.2]
    rw [e1, ih]
    simp
/-- The parts of a point that two come to are theirs. -/
theorem all_pair {a c : Int} (h : 0 ≤ pairP a c) (hc : partsZ false c = []) : allF false 2 (pairP a c) = allF false 2 a ++ [c] := by
  have hp := pair_parts h
  have ha : deep false 1 a := by
    rcases parts_cases false (pairP a c) with e | ⟨x, e, _, _⟩ | ⟨x, y, e, _, hx, _⟩
    · rw [hp] at e
      cases e
    · rw [hp] at e
      cases e
    · rw [hp] at e
      injection e with e1 e2
      rw [e1]
      exact near_deep hx
  rw [allF_two hp, allF_deep 1 a ha, allF_none hc]
theorem nth_split {D : List Int} {s : Nat} (h : s < D.length) : D = D.take s ++ nth D s :: D.drop (s + 1) := by
  have e : nth D s = D[s] := by simp [nth, List.getD, h]
  rw [e, List.getElem_cons_drop h, List.take_append_drop]
/-- What is composed comes back. -/
theorem cmp_back : ∀ (n : Nat) (L : List Int), L.length = n → Adj L → (∀ y ∈ L, partsZ false y = []) → ordL (nrmA false (cmpQ L).1) = L
  | 0, L, h, _, _ => by
    obtain rfl := List.length_eq_zero_iff.1 h
    rfl
  | n + 1, L, h, hA, hL => by
    rcases snoc_cases L with rfl | ⟨L', c, rfl⟩
    · simp at h
    · have hl : L'.length = n := by simpa using h
      have ih := cmp_back n L' hl (adj_parts hA).1 (fun y hy => hL y (by simp [hy]))
      have hb := cmpQ_bd n L' hl
      have hc := hL c (by simp)
      have hi := ins_adj hA
      rw [cmpQ_snoc]
      generalize cmpQ L' = q at *
      obtain ⟨D, s⟩ := q
      obtain ⟨b1, b2, b3⟩ := hb
      simp only at b1 b2 b3 ih
      unfold stepC
      simp only
      by_cases ho : opn D s c = true ∧ 0 ≤ pairP (nth D s.toNat) c
      · rw [if_pos ho]
        simp only
        obtain ⟨ho, hp⟩ := ho
        unfold opn at ho
        rw [Bool.and_eq_true] at ho
        have h0 := of_decide_eq_true ho.1
        have hM : ∀ m ∈ D.drop (s.toNat + 1), clsZ m ≠ 0 ∧ clsZ m < clsZ c := fun m hm => by
          have e : (s + 1).toNat = s.toNat + 1 := by omega
          have := ho.2
          rw [e] at this
          have := List.all_eq_true.1 this m hm
          unfold okM at this
          rw [Bool.and_eq_true] at this
          exact ⟨of_decide_eq_true this.1, of_decide_eq_true this.2⟩
        have hs : s.toNat < D.length := by omega
        have eM : nrmA false (D.drop (s.toNat + 1)) = D.drop (s.toNat + 1) := nrmA_bare (fun y hy => mark_none (hM y hy).1)
        have eD : nrmA false D = nrmA false (D.take s.toNat) ++ allF false 2 (nth D s.toNat) ++ D.drop (s.toNat + 1) := by
          conv => lhs; rw [nth_split hs]
          rw [nrmA_app, nrmA_cons, eM, List.append_assoc]
        rw [eD] at ih
        rw [List.set_eq_take_append_cons_drop, if_pos hs, nrmA_app, nrmA_cons, eM, all_pair hp hc]
        have e2 : nrmA false (D.take s.toNat) ++ (allF false 2 (nth D s.toNat) ++ [c] ++ D.drop (s.toNat + 1)) = (nrmA false (D.take s.toNat) ++ allF false 2 (nth D s.toNat)) ++ c :: D.drop (s.toNat + 1) := by simp
        rw [e2, ord_swap c _ _ hM, ordL_snoc, ih, hi]
      · rw [if_neg ho]
        simp only
        rw [nrmA_app, nrmA_cons, allF_none hc]
        show ordL (nrmA false D ++ ([c] ++ nrmA false [])) = _
        rw [show ([c] ++ nrmA false [] : List Int) = [c] from rfl, ordL_snoc, ih, hi]
theorem ord_last {l : List Int} : ∀ y ∈ ordL (nrmA false l), partsZ false y = [] := fun y hy => nrmA_last y (ord_mem _ _ rfl y hy)
/-- D of D is D; D of C is D. -/
theorem dd (l : List Int) : nrmL 1 (nrmL 1 l) = nrmL 1 l := by
  show ordL (nrmA false (ordL (nrmA false l))) = ordL (nrmA false l)
  rw [nrmA_bare ord_last]
  exact ord_adj _ _ rfl (adj_ord _ _ rfl)
theorem dc (l : List Int) : nrmL 1 (nrmL 2 l) = nrmL 1 l := by
  show ordL (nrmA false (cmpQ (ordL (nrmA false l))).1) = ordL (nrmA false l)
  exact cmp_back _ _ rfl (adj_ord _ _ rfl) ord_last
theorem cc_iff (a b : List Int) : nrmL 2 a = nrmL 2 b ↔ nrmL 1 a = nrmL 1 b := by
  constructor
  · intro h
    rw [← dc a, ← dc b, h]
  · intro h
    show (cmpQ (nrmL 1 a)).1 = (cmpQ (nrmL 1 b)).1
    rw [h]
end Go.Proofs.YtjdginjohajmaaaGreatDoor
/- A skeleton is its own one: pure. -/
namespace Go.Proofs.YtjdginjohajmaaaGreatDoor.Ske
open Go.RowKit
set_option linter.unusedVariables false
theorem ins_perm (Z : List Int) (x : Int) : (insO Z x).Perm (Z ++ [x]) := by
  unfold insO
  split
  · exact List.Perm.refl _
  · have e : Z = (Z.reverse.dropWhile (clsLt x)).reverse ++ (Z.reverse.takeWhile (clsLt x)).reverse := by
      rw [← List.reverse_append, List.takeWhile_append_dropWhile, List.reverse_reverse]
    conv => rhs; rw [e]
    rw [List.append_assoc]
    refine List.Perm.append_left _ ?_
    exact (List.perm_append_singleton x _).symm
theorem ord_perm (L : List Int) : (ordL L).Perm L := by
  have g : ∀ (L Z : List Int), (L.foldl insO Z).Perm (Z ++ L) := by
    intro L
    induction L with
    | nil => intro Z; simp
    | cons x L ih =>
      intro Z
      rw [List.foldl_cons]
      refine (ih _).trans ?_
      have := (ins_perm Z x).append_right L
      rw [List.append_assoc] at this
      exact this
  exact g L []
/-- What is seen as itself. -/
def Fx (x : Int) : Prop := partsZ false x = [] ∧ see x = [x] ∧ isPt x = true
instance (x : Int) : Decidable (Fx x) := by unfold Fx; infer_instance
theorem fx_set (x : Int) (h : 65 ≤ x ∧ x ≤ 70 ∨ 97 ≤ x ∧ x ≤ 102 ∨ x = 111 ∨ x = 108 ∨ 50 ≤ x ∧ x ≤ 57 ∨ x = 32) : Fx x := by
  have hall : ((List.range 112).all fun n => decide ((65 ≤ n ∧ n ≤ 70 ∨ 97 ≤ n ∧ n ≤ 102 ∨ n = 111 ∨ n = 108 ∨ 50 ≤ n ∧ n ≤ 57 ∨ n = 32) → Fx (n : Int))) = true := by decide +kernel
  have e : x = (x.toNat : Int) := by omega
  have := of_decide_eq_true (List.all_eq_true.1 hall x.toNat (List.mem_range.2 (by omega))) (by omega)
  rw [← e] at this
  exact this
theorem lk_fx (q : Int) : lk q = q ∨ Fx (lk q) := by
  have hd := dg_bd q
  unfold lk
  split
  · exact .inr (fx_set _ (by omega))
  split
  · exact .inr (fx_set _ (by omega))
  split
  · exact .inr (fx_set _ (by omega))
  split
  · exact .inr (fx_set _ (by omega))
  split
  · exact .inr (fx_set _ (by omega))
  split
  · exact .inr (fx_set _ (by omega))
  split
  · exact .inr (fx_set _ (by omega))
  · exact .inl rfl
theorem wide_low (p : Int) : ∀ x ∈ wideZ p, x = 32 ∨ 48 ≤ x ∧ x ≤ 122 := by
  intro x hx
  unfold wideZ at hx
  repeat' split at hx
  all_goals (simp at hx <;> omega)
theorem low_bare {x : Int} (h : x < 8192) : partsZ false x = [] := by
  unfold partsZ
  rw [if_neg (by omega), if_neg (by omega), if_neg (by omega), if_neg (by omega), if_neg (by omega), if_neg (by simp)]
/-- What a point without parts shows is seen as itself. -/
theorem see_fx {p : Int} (h : partsZ false p = []) (hp : isPt p = true) : ∀ x ∈ see p, Fx x := by
  intro x hx
  by_cases c1 : catI p = 1 ∨ catI p = 11
  · rw [see_none c1] at hx
    cases hx
  by_cases c2 : wideZ p = [] ∨ catI p ≠ 10
  · have e := see_one c1 c2
    rw [e] at hx
    obtain rfl : x = lk p := by simpa using hx
    rcases lk_fx p with hl | hl
    · rw [hl] at e ⊢
      exact ⟨h, e, hp⟩
    · exact hl
  · have c3 : catI p = 10 := by
      by_cases c : catI p = 10
      · exact c
      · exact absurd (.inr c) c2
    have c4 : wideZ p ≠ [] := fun c => c2 (.inl c)
    rw [see_wide c3] at hx
    unfold prt at hx
    rw [if_neg c4] at hx
    obtain ⟨y, hy, rfl⟩ := List.mem_map.1 hx
    have hw := wide_parts p y hy
    have hl2 := wide_low p y hy
    rcases lk_fx y with hl | hl
    · have := hw.2.1
      rw [hl] at this ⊢
      exact ⟨low_bare (by omega), this, (isPt_iff y).2 (by omega)⟩
    · exact hl
theorem d_fx (s : ByteArray) : ∀ x ∈ nrmL 1 (ptsOut s), partsZ false x = [] ∧ isPt x = true := by
  intro x hx
  refine ⟨ord_last (l := ptsOut s) x hx, ?_⟩
  rcases out_pt s with ⟨e, _⟩ | ⟨e, _⟩
  · rw [e] at hx
    exact nrm1_pt s x hx
  · rw [e, nrm_nil] at hx
    cases hx
theorem fl_fx (s : ByteArray) : ∀ x ∈ (nrmL 1 (ptsOut s)).flatMap see, Fx x := by
  intro x hx
  obtain ⟨p, hp, hx⟩ := List.mem_flatMap.1 hx
  have := d_fx s p hp
  exact see_fx this.1 this.2 x hx
theorem ske_ord (s : ByteArray) : ske s = ordL ((nrmL 1 (ptsOut s)).flatMap see) := by
  show ordL (nrmA false ((nrmL 1 (ptsOut s)).flatMap see)) = _
  rw [nrmA_bare fun y hy => (fl_fx s y hy).1]
theorem ske_fx (s : ByteArray) : ∀ x ∈ ske s, Fx x := by
  intro x hx
  rw [ske_ord] at hx
  exact fl_fx s x (ord_mem _ _ rfl x hx)
theorem see_all : ∀ {l : List Int}, (∀ x ∈ l, see x = [x]) → l.flatMap see = l
  | [], _ => rfl
  | a :: l, h => by
    rw [List.flatMap_cons, h a (by simp), see_all fun x hx => h x (by simp [hx])]
    rfl
/-- The bytes that a point shows. -/
theorem see_wid (p : Int) : (textL (see p)).length ≤ 4 := by
  by_cases c : 10032 ≤ p ∧ p ≤ 10035
  · have hall : ((List.range 4).all fun n => decide ((textL (see (10032 + n))).length ≤ 4)) = true := by decide +kernel
    have e : p = 10032 + ((p - 10032).toNat : Int) := by omega
    have := of_decide_eq_true (List.all_eq_true.1 hall (p - 10032).toNat (List.mem_range.2 (by omega)))
    rw [← e] at this
    exact this
  · have h1 := textL_le (see p)
    have h2 : (see p).length ≤ 1 := by
      unfold see prt wideZ
      repeat' split
      all_goals (first | (simp; done) | omega)
    omega
theorem fl_wid : ∀ (l : List Int), (textL (l.flatMap see)).length ≤ 4 * l.length
  | [] => by simp [textL]
  | a :: l => by
    have h1 := fl_wid l
    have h2 := see_wid a
    unfold textL at h1 h2 ⊢
    rw [List.flatMap_cons, List.flatMap_append, List.length_append, List.length_cons]
    omega
theorem ske_wid (s : ByteArray) : (textL (ske s)).length ≤ 4 * s.size := by
  have e : (textL (ske s)).length = (textL ((nrmL 1 (ptsOut s)).flatMap see)).length := by
    rw [ske_ord]
    exact ((ord_perm _).flatMap_right _).length_eq
  rw [e]
  have h1 := fl_wid (nrmL 1 (ptsOut s))
  have h2 : (nrmL 1 (ptsOut s)).length ≤ s.size := by
    rcases out_pt s with ⟨e, _⟩ | ⟨e, _⟩
    · rw [e]; exact len_d s
    · rw [e, nrm_nil]; simp
  omega
/-- The skeleton as a text. -/
def skB (s : ByteArray) : ByteArray := strOfNums (skT s)
theorem skT_few {s : ByteArray} (h : s.size ≤ 10000) : skT s = textL (ske s) ∧ (skB s).size ≤ 40000 := by
  have h1 := ske_wid s
  have e : skT s = textL (ske s) := by
    unfold skT small
    rw [if_neg (by omega)]
  refine ⟨e, ?_⟩
  unfold skB
  rw [e, strOfNums_size]
  omega
theorem pts_skB {s : ByteArray} (h : s.size ≤ 10000) : pts (skB s) = ske s := by
  unfold skB
  rw [(skT_few h).1]
  exact pts_text _ fun x hx => (ske_fx s x hx).2.2
/-- A skeleton is its own one. -/
theorem ske_self {s : ByteArray} (h : s.size ≤ 10000) : ske (skB s) = ske s := by
  have h1 := (skT_few h).2
  have e1 : ptsOut (skB s) = ske s := by
    unfold ptsOut
    rw [if_neg (by omega), pts_skB h]
  have e2 : nrmL 1 (ske s) = ske s := dd _
  show nrmL 1 ((nrmL 1 (ptsOut (skB s))).flatMap see) = ske s
  rw [e1, e2, see_all fun x hx => (ske_fx s x hx).2.1, e2]
theorem skB_self {s : ByteArray} (h : s.size ≤ 10000) : skB (skB s) = skB s := by
  show strOfNums (small (textL (ske (skB s)))) = strOfNums (small (textL (ske s)))
  rw [ske_self h]
theorem alk_self {s : ByteArray} (h : s.size ≤ 10000) : alk s (skB s) = true := by
  have h1 := (skT_few h).2
  unfold alk sameB
  rw [ske_self h]
  simp
  omega
theorem alk_iff {a b : ByteArray} (ha : a.size ≤ 10000) (hb : b.size ≤ 10000) : alk a b = decide (skB a = skB b) := by
  have e : (ske a = ske b) ↔ (skB a = skB b) := by
    constructor
    · intro h
      show strOfNums (small (textL (ske a))) = strOfNums (small (textL (ske b)))
      rw [h]
    · intro h
      rw [← pts_skB ha, ← pts_skB hb, h]
  have e2 : decide (ske a = ske b) = decide (skB a = skB b) := decide_eq_decide.2 e
  unfold alk sameB
  rw [decide_eq_true (show a.size ≤ 65536 by omega), decide_eq_true (show b.size ≤ 65536 by omega), Bool.true_and, Bool.true_and]
  exact e2
theorem alk_symm (a b : ByteArray) : alk b a = alk a b := by
  have e : decide (ske b = ske a) = decide (ske a = ske b) := decide_eq_decide.2 ⟨Eq.symm, Eq.symm⟩
  unfold alk sameB
  rw [e]
  generalize decide (ske a = ske b) = q
  cases decide (a.size ≤ 65536) <;> cases decide (b.size ≤ 65536) <;> rfl
end Go.Proofs.YtjdginjohajmaaaGreatDoor.Ske
/- Two rows alike, as the laws ask it. -/
namespace Go.Proofs.YtjdginjohajmaaaGreatDoor
open Go.RowKit
set_option maxHeartbeats 1000000 in
theorem lwSame_nil (a b : Option Addr) (c d : Nat) (l : List Int) (w : World) (h0 : l.length = 0) :
    Calls Tryz.prog 8 #[.slice a l.length c, .slice b l.length d] w fun e w' => e = .returned (.bool true) ∧ Below w.heap.size w w' := by
  have H0 := hide h0
  clear h0
  have hl : l.length ≤ 1048576 := by rw [unhide H0]; omega
  have hne : ((l.length : Int) != (l.length : Int)) = false := by simp
  go_enter Tryz.func8, Tryz.ntmps8
  go_wp2
  go_loopw [5] (fun i wr => ∃ k : Nat, k ≤ l.length ∧ i = .int .i64 k ∧ Hid (Below w.heap.size w wr)) (fun i _ => l.length - (intOf i).toNat)
  case atStart => exact ⟨0, Nat.zero_le _, rfl, hide (Below.refl _ _)⟩
  case round =>
    obtain ⟨k, hk, rfl, HB⟩ := hrel
    have hge : ¬ k < l.length := by have := unhide H0; omega
    go_wp2
    go_ret
    exact ⟨rfl, unhide HB⟩
set_option maxHeartbeats 1000000 in
theorem lwSame_at (b1 o1 b2 o2 c d : Nat) (l : List Int) (w : World) (hb1 : b1 < w.heap.size) (hc1 : ∀ i, i < l.length → w.cell? ⟨b1, o1 + i, none⟩ = some (.int .i64 (nth l i)))
    (hb2 : b2 < w.heap.size) (hc2 : ∀ i, i < l.length → w.cell? ⟨b2, o2 + i, none⟩ = some (.int .i64 (nth l i))) (hl : l.length ≤ 1048576) :
    Calls Tryz.prog 8 #[.slice (some ⟨b1, o1, none⟩) l.length c, .slice (some ⟨b2, o2, none⟩) l.length d] w fun e w' => e = .returned (.bool true) ∧ Below w.heap.size w w' := by
  have H1 := hide hc1
  have H2 := hide hc2
  clear hc1 hc2
  have hne : ((l.length : Int) != (l.length : Int)) = false := by simp
  go_enter Tryz.func8, Tryz.ntmps8
  go_wp2
  go_loopw [5] (fun i wr => ∃ k : Nat, k ≤ l.length ∧ i = .int .i64 k ∧ Hid (Below w.heap.size w wr)) (fun i _ => l.length - (intOf i).toNat)
  case atStart => exact ⟨0, Nat.zero_le _, rfl, hide (Below.refl _ _)⟩
  case round =>
    obtain ⟨k, hk, rfl, HB⟩ := hrel
    by_cases hlt : k < l.length
    · have c1 := ((unhide HB).cell (p := ⟨b1, o1 + k, none⟩) hb1).trans ((unhide H1) k hlt)
      have c2 := ((unhide HB).cell (p := ⟨b2, o2 + k, none⟩) hb2).trans ((unhide H2) k hlt)
      have hne2 : (nth l k != nth l k) = false := by simp
      go_wp2
      go_quiet (fail)
      go_wp2
      go_roundw
      case rel => exact ⟨k + 1, by omega, by go_num, hide (bdrew (unhide HB) _)⟩
      case measure => simp [intOf]; omega
    · go_wp2
      go_ret
      exact ⟨rfl, unhide HB⟩
theorem lwSame (v1 v2 : Value) (l : List Int) (w : World) (h1 : IntsAt w v1 l) (h2 : IntsAt w v2 l) (hl : l.length ≤ 1048576) :
    Calls Tryz.prog 8 #[v1, v2] w fun e w' => e = .returned (.bool true) ∧ Below w.heap.size w w' := by
  obtain ⟨a1, c1, rfl, h1⟩ := h1
  obtain ⟨a2, c2, rfl, h2⟩ := h2
  rcases h1 with h1 | ⟨b1, o1, rfl, hb1, hc1⟩
  · exact lwSame_nil a1 a2 c1 c2 l w (by rw [h1]; rfl)
  · rcases h2 with h2 | ⟨b2, o2, rfl, hb2, hc2⟩
    · exact lwSame_nil _ a2 c1 c2 l w (by rw [h2]; rfl)
    · exact lwSame_at b1 o1 b2 o2 c1 c2 l w hb1 hc1 hb2 hc2 hl
end Go.Proofs.YtjdginjohajmaaaGreatDoor
/- What FnLookAlike draws. -/
namespace Go.Proofs.YtjdginjohajmaaaGreatDoor.Ske
open Go.RowKit Dr
set_option linter.unusedVariables false
theorem sk_size (s : ByteArray) : (strOfNums (skT s)).size ≤ 65536 := by
  rw [strOfNums_size]
  unfold skT small
  split
  · simp
  · omega
theorem nml_few (f : Int) (s : ByteArray) : (strOfNums (nmlOut f s)).size ≤ 65536 := by
  rw [strOfNums_size]
  unfold nmlOut small
  split
  · simp
  · split
    · simp
    · omega
theorem grown_onL {w w' : World} {src B : Nat} (h : w.grownBy w' (some src)) (hB : B ≤ src) (hs : src < w.heap.size) : Below B w w' :=
  ⟨h.os, h.tape, h.output, by have := h.size; omega, fun k hk => h.block k (by omega) (fun e => by injection e with e; omega)⟩
set_option maxHeartbeats 4000000 in
set_option maxRecDepth 100000 in
theorem drawLook_any (w : World) (a : Option Addr) (len cap : Nat) (hl : len ≤ 1048576) (hc : CodeIn w a len) :
    Calls Tryz.prog 4 #[.slice a len cap] w fun e w' => ∃ s t : ByteArray, e = .returned (.tuple #[.string s, .string t]) ∧ s.size ≤ 65536 ∧ t.size ≤ 65536 ∧ Below w.heap.size w w' := by
  have CS := hide (source_any w a len cap hl hc)
  have NT := hide (fun W size (h0 : 0 ≤ size) (h1 : size ≤ 12) (q : SrcAt W w.heap.size a len cap size) => name_any W w.heap.size a len cap size hl h0 h1 q)
  have ON := hide (fun W size (q : SrcAt W w.heap.size a len cap size) => one_any W w.heap.size a len cap size 2 (by omega) (by omega) hl q)
  have NN := hide (fun W size (q : SrcAt W w.heap.size a len cap size) => n_nat W w.heap.size a len cap size 4 (by omega) (by omega) hl q)
  have SN := hide (fun f s W (h : s.size ≤ 1048576) => specNormalize f s W h)
  have SK := hide (fun s W => specSke s W)
  have ZK := hide sk_size
  have ZN := hide nml_few
  clear hc
  go_enter Tryz.func4, Tryz.ntmps4
  go_wp2_with fail
  refine (unhide CS).mono ?_
  rintro e w1 ⟨rfl, size, hz0, hz1, hs, hb1, hlt⟩
  have B1 := hide hb1
  have S1 := hide hs
  clear CS hs hb1
  go_wp2_with fail
  refine ((unhide NT) _ _ hz0 hz1 (unhide S1)).mono ?_
  rintro e w2 ⟨t, rfl, ht, hs2, hg2⟩
  have hlt2 : w.heap.size < w2.heap.size := Nat.lt_of_lt_of_le hlt hg2.size
  have B2 := hide ((unhide B1).trans (grown_onL hg2 (Nat.le_refl _) hlt))
  have S2 := hide hs2
  clear hs2 hg2 B1 S1
  go_wp2_with fail
  refine ((unhide ON) _ _ (unhide S2)).mono ?_
  rintro e w3 ⟨b, rfl, hs3, hg3⟩
  have hlt3 : w.heap.size < w3.heap.size := Nat.lt_of_lt_of_le hlt2 hg3.size
  have B3 := hide ((unhide B2).trans (grown_onL hg3 (Nat.le_refl _) hlt2))
  have S3 := hide hs3
  clear hs3 hg3 B2 S2
  cases b with
  | true =>
    have CK := hide ((unhide SK) t w3)
    have hz := (unhide ZK) t
    generalize strOfNums (skT t) = y at *
    go_wp2_with fail
    refine (unhide CK).mono ?_
    rintro e w4 ⟨rfl, hb4⟩
    have B4 := hide ((unhide B3).trans (hb4.mono (by omega)))
    clear CK hb4
    go_wp2
    go_returns
    exact ⟨t, y, rfl, by omega, by omega, unhide B4⟩
  | false =>
    go_wp2_with fail
    refine ((unhide ON) _ _ (unhide S3)).mono ?_
    rintro e w4 ⟨b, rfl, hs4, hg4⟩
    have hlt4 : w.heap.size < w4.heap.size := Nat.lt_of_lt_of_le hlt3 hg4.size
    have B4 := hide ((unhide B3).trans (grown_onL hg4 (Nat.le_refl _) hlt3))
    have S4 := hide hs4
    clear hs4 hg4 B3 S3
    cases b with
    | true =>
      go_wp2_with fail
      refine ((unhide NN) _ _ (unhide S4)).mono ?_
      rintro e w5 ⟨r, rfl, hr, hs5, hg5⟩
      have hlt5 : w.heap.size < w5.heap.size := Nat.lt_of_lt_of_le hlt4 hg5.size
      have B5 := hide ((unhide B4).trans (grown_onL hg5 (Nat.le_refl _) hlt4))
      clear hs5 hg5 B4 S4
      obtain ⟨f, hf⟩ : ∃ f : Nat, 1 + r = f := ⟨_, rfl⟩
      have hf' : (1 : Int) + (r : Int) = (f : Int) := by omega
      have hfw : IntKind.i64.wrap (f : Int) = (f : Int) := by simp [IntKind.wrap, IntKind.bits, IntKind.signed]; omega
      have CN := hide ((unhide SN) (f : Int) t w5 (by omega))
      have hz := (unhide ZN) (f : Int) t
      generalize strOfNums (nmlOut (f : Int) t) = y at *
      go_wp2_with fail
      refine (unhide CN).mono ?_
      rintro e w6 ⟨rfl, hb6⟩
      have B6 := hide ((unhide B5).trans (hb6.mono (by omega)))
      clear CN hb6
      go_wp2
      go_returns
      exact ⟨t, y, rfl, by omega, by omega, unhide B6⟩
    | false =>
      go_wp2_with fail
      refine ((unhide NT) _ _ hz0 hz1 (unhide S4)).mono ?_
      rintro e w5 ⟨y, rfl, hy, hs5, hg5⟩
      have B5 := hide ((unhide B4).trans (grown_onL hg5 (Nat.le_refl _) hlt4))
      clear hs5 hg5 B4 S4
      go_wp2
      go_returns
      exact ⟨t, y, rfl, by omega, by omega, unhide B5⟩
end Go.Proofs.YtjdginjohajmaaaGreatDoor.Ske
/- FnLookAlike: the law. -/
namespace Go.Proofs.YtjdginjohajmaaaGreatDoor.Ske
open Go.RowKit
set_option linter.unusedVariables false
theorem scs_len (s : ByteArray) : (Ris.scs s).length ≤ 1048576 := by
  have h : (ptsOut s).length ≤ 65536 := by
    rcases out_pt s with ⟨e, h⟩ | ⟨e, h⟩
    · rw [e]; have := pts_le s; omega
    · rw [e]; simp
  unfold Ris.scs
  exact Nat.le_trans (Ris.allT_len _ _ _ _) (by omega)
theorem ne_str {X Y : ByteArray} (h : ¬ X = Y) : ¬ X.toList = Y.toList := fun e => h (by
  rw [ByteArray.toList_eq, ByteArray.toList_eq] at e
  exact ByteArray.ext (Array.toList_inj.1 e))
set_option maxHeartbeats 4000000 in
set_option maxRecDepth 100000 in
theorem lawLook (w : World) (a : Option Addr) (len cap : Nat) (hc : Dr.CodeIn w a len) (ht : TabAt w) :
    Calls Tryz.prog 3 #[.slice a len cap] w fun e w' => e = .returned (.bool true) ∧ Below w.heap.size w w' := by
  have hU : undef = Value.tuple #[] := rfl
  by_cases hl : 1048576 < len
  · have hl' : (1048576 : Int) < (len : Int) := by omega
    go_enter Tryz.func3, Tryz.ntmps3
    go_wp2
    go_ret
    exact ⟨rfl, Below.refl _ _⟩
  have hl' : ¬ (1048576 : Int) < (len : Int) := by omega
  have HT := hide ht
  have DC := hide (drawLook_any w a len cap (by omega) hc)
  clear ht hc
  go_enter Tryz.func3, Tryz.ntmps3
  go_wp2_with fail
  refine (unhide DC).mono ?_
  rintro e w1 ⟨s, t, rfl, hs, ht, hb⟩
  have B1 := hide hb
  clear hb DC hl hl'
  have IS : Hid (∀ W, TabAt W → Calls Tryz.prog 5 #[.string s] W fun e w' => e = .returned (.string (skB s)) ∧ Below W.heap.size W w') := hide (fun W h => implSke s W h (by omega))
  have IT : Hid (∀ W, TabAt W → Calls Tryz.prog 5 #[.string t] W fun e w' => e = .returned (.string (skB t)) ∧ Below W.heap.size W w') := hide (fun W h => implSke t W h (by omega))
  have SS : Hid (∀ W, Calls Tryz.prog 6 #[.string s] W fun e w' => e = .returned (.string (skB s)) ∧ Below W.heap.size W w') := hide (fun W => specSke s W)
  have ST : Hid (∀ W, Calls Tryz.prog 6 #[.string t] W fun e w' => e = .returned (.string (skB t)) ∧ Below W.heap.size W w') := hide (fun W => specSke t W)
  by_cases g : 10000 < s.size ∨ 10000 < t.size
  · have g1 : (10000 : Int) < (s.size : Int) ∨ ¬ (10000 : Int) < (s.size : Int) ∧ (10000 : Int) < (t.size : Int) := by omega
    clear g
    generalize skB s = X at *
    generalize skB t = Y at *
    go_wp2_with fail
    refine ((unhide IS) _ ((unhide HT).below (unhide B1))).mono ?_
    rintro e w2 ⟨rfl, hb⟩
    have B2 := hide (j2 (unhide B1) hb)
    clear hb
    go_wp2_with fail
    refine ((unhide IT) _ ((unhide HT).below (unhide B2))).mono ?_
    rintro e w3 ⟨rfl, hb⟩
    have B3 := hide (j2 (unhide B2) hb)
    clear hb
    rcases g1 with g1 | ⟨g0, g1⟩
    · skip
      go_wp2_with fail
      refine ((unhide SS) _).mono ?_
      rintro e w4 ⟨rfl, hb⟩
      have B4 := hide (j2 (unhide B3) hb)
      clear hb
      go_wp2_with fail
      refine ((unhide ST) _).mono ?_
      rintro e w5 ⟨rfl, hb⟩
      have B5 := hide (j2 (unhide B4) hb)
      clear hb
      go_wp2_with fail
      refine ((unhide SS) _).mono ?_
      rintro e w6 ⟨rfl, hb⟩
      have B6 := hide (j2 (unhide B5) hb)
      clear hb
      go_wp2
      go_ret
      exact ⟨rfl, unhide B6⟩
    · skip
      go_wp2_with fail
      refine ((unhide SS) _).mono ?_
      rintro e w4 ⟨rfl, hb⟩
      have B4 := hide (j2 (unhide B3) hb)
      clear hb
      go_wp2_with fail
      refine ((unhide ST) _).mono ?_
      rintro e w5 ⟨rfl, hb⟩
      have B5 := hide (j2 (unhide B4) hb)
      clear hb
      go_wp2_with fail
      refine ((unhide SS) _).mono ?_
      rintro e w6 ⟨rfl, hb⟩
      have B6 := hide (j2 (unhide B5) hb)
      clear hb
      go_wp2
      go_ret
      exact ⟨rfl, unhide B6⟩
  · have hs1 : s.size ≤ 10000 := by omega
    have ht1 : t.size ≤ 10000 := by omega
    have g1 : ¬ (10000 : Int) < (s.size : Int) := by omega
    have g2 : ¬ (10000 : Int) < (t.size : Int) := by omega
    have IA : Hid (∀ W, TabAt W → Calls Tryz.prog 7 #[.string s, .string t] W fun e w' => e = .returned (.bool (decide (skB s = skB t))) ∧ Below W.heap.size W w') := hide (fun W h => by rw [← alk_iff hs1 ht1]; exact implAlk s t W h)
    have IB : Hid (∀ W, TabAt W → Calls Tryz.prog 7 #[.string t, .string s] W fun e w' => e = .returned (.bool (decide (skB s = skB t))) ∧ Below W.heap.size W w') := hide (fun W h => by rw [← alk_iff hs1 ht1, ← alk_symm]; exact implAlk t s W h)
    have IX : Hid (∀ W, TabAt W → Calls Tryz.prog 7 #[.string s, .string (skB s)] W fun e w' => e = .returned (.bool true) ∧ Below W.heap.size W w') := hide (fun W h => by rw [← alk_self hs1]; exact implAlk s (skB s) W h)
    have hX := (skT_few hs1).2
    have IK : Hid (∀ W, TabAt W → Calls Tryz.prog 5 #[.string (skB s)] W fun e w' => e = .returned (.string (skB s)) ∧ Below W.heap.size W w') := hide (fun W h => (implSke (skB s) W h (by omega)).mono fun e w' q => ⟨by rw [q.1]; exact congrArg (fun z => Ending.returned (Value.string z)) (skB_self hs1), q.2⟩)
    have IC := hide (fun W h => Ris.implScs s W h (by omega))
    have SC := hide (fun W => Ris.specScs s W)
    have IM := hide (fun W h => Ris.implMix s W h (by omega))
    have SM := hide (fun W => Ris.specMix s W)
    have HLn : Hid ((Ris.scs s).length ≤ 1048576) := hide (scs_len s)
    clear g hX
    generalize skB s = X at *
    generalize skB t = Y at *
    generalize Ris.scs s = R at *
    generalize Ris.mix s = M at *
    have hMM : (M == M) = true := by simp
    go_wp2_with fail
    refine ((unhide IS) _ ((unhide HT).below (unhide B1))).mono ?_
    rintro e w2 ⟨rfl, hb⟩
    have B2 := hide (j2 (unhide B1) hb)
    clear hb
    go_wp2_with fail
    refine ((unhide IT) _ ((unhide HT).below (unhide B2))).mono ?_
    rintro e w3 ⟨rfl, hb⟩
    have B3 := hide (j2 (unhide B2) hb)
    clear hb
    go_wp2_with fail
    refine ((unhide SS) _).mono ?_
    rintro e w4 ⟨rfl, hb⟩
    have B4 := hide (j2 (unhide B3) hb)
    clear hb
    go_wp2_with fail
    refine ((unhide ST) _).mono ?_
    rintro e w5 ⟨rfl, hb⟩
    have B5 := hide (j2 (unhide B4) hb)
    clear hb
    go_wp2_with fail
    refine ((unhide IA) _ ((unhide HT).below (unhide B5))).mono ?_
    rintro e w6 ⟨rfl, hb⟩
    have B6 := hide (j2 (unhide B5) hb)
    clear hb IA
    by_cases hXY : X = Y
    · have hd : decide (X = Y) = true := decide_eq_true hXY
      rw [hd] at IB ⊢
      clear hd
      subst hXY
      go_wp2_with fail
      refine ((unhide SS) _).mono ?_
      rintro e w7 ⟨rfl, hb⟩
      have B7 := hide (j2 (unhide B6) hb)
      clear hb
      go_wp2_with fail
      refine ((unhide ST) _).mono ?_
      rintro e w8 ⟨rfl, hb⟩
      have B8 := hide (j2 (unhide B7) hb)
      clear hb
      go_wp2_with fail
      refine ((unhide IB) _ ((unhide HT).below (unhide B8))).mono ?_
      rintro e w9 ⟨rfl, hb⟩
      have B9 := hide (j2 (unhide B8) hb)
      clear hb IB
      go_wp2_with fail
      refine ((unhide IK) _ ((unhide HT).below (unhide B9))).mono ?_
      rintro e w10 ⟨rfl, hb⟩
      have B10 := hide (j2 (unhide B9) hb)
      clear hb IK
      go_wp2_with fail
      refine ((unhide IX) _ ((unhide HT).below (unhide B10))).mono ?_
      rintro e w11 ⟨rfl, hb⟩
      have B11 := hide (j2 (unhide B10) hb)
      clear hb IX
      go_wp2_with fail
      refine ((unhide IC) _ ((unhide HT).below (unhide B11))).mono ?_
      rintro e w12 ⟨v1, rfl, ho, hb⟩
      have B12 := hide (j2 (unhide B11) hb)
      have O1 := hide ho
      clear hb ho IC
      go_wp2_with fail
      refine ((unhide SC) _).mono ?_
      rintro e w13 ⟨v2, rfl, hi, hb⟩
      have B13 := hide (j2 (unhide B12) hb)
      have P1 := hide (IntsAt.owned (ownsRow_below (unhide O1) hb))
      have P2 := hide hi
      clear hb hi SC O1
      go_wp2_with fail
      refine (lwSame _ _ R _ (unhide P1) (unhide P2) (unhide HLn)).mono ?_
      rintro e w14 ⟨rfl, hb⟩
      have B14 := hide (j2 (unhide B13) hb)
      clear hb
      go_wp2_with fail
      refine ((unhide IM) _ ((unhide HT).below (unhide B14))).mono ?_
      rintro e w15 ⟨rfl, hb⟩
      have B15 := hide (j2 (unhide B14) hb)
      clear hb IM
      go_wp2_with fail
      refine ((unhide SM) _).mono ?_
      rintro e w16 ⟨rfl, hb⟩
      have B16 := hide (j2 (unhide B15) hb)
      clear hb SM
      go_wp2
      go_ret
      exact ⟨rfl, unhide B16⟩
    · have hd : decide (X = Y) = false := decide_eq_false hXY
      have hq := ne_str hXY
      have hq2 : (X.toList == Y.toList) = false := beq_eq_false_iff_ne.2 hq
      rw [hd] at IB ⊢
      go_wp2_with fail
      refine ((unhide SS) _).mono ?_
      rintro e w7 ⟨rfl, hb⟩
      have B7 := hide (j2 (unhide B6) hb)
      clear hb
      go_wp2_with fail
      refine ((unhide ST) _).mono ?_
      rintro e w8 ⟨rfl, hb⟩
      have B8 := hide (j2 (unhide B7) hb)
      clear hb
      go_wp2_with fail
      refine ((unhide IB) _ ((unhide HT).below (unhide B8))).mono ?_
      rintro e w9 ⟨rfl, hb⟩
      have B9 := hide (j2 (unhide B8) hb)
      clear hb IB
      go_wp2_with fail
      refine ((unhide IK) _ ((unhide HT).below (unhide B9))).mono ?_
      rintro e w10 ⟨rfl, hb⟩
      have B10 := hide (j2 (unhide B9) hb)
      clear hb IK
      go_wp2_with fail
      refine ((unhide IX) _ ((unhide HT).below (unhide B10))).mono ?_
      rintro e w11 ⟨rfl, hb⟩
      have B11 := hide (j2 (unhide B10) hb)
      clear hb IX
      go_wp2_with fail
      refine ((unhide IC) _ ((unhide HT).below (unhide B11))).mono ?_
      rintro e w12 ⟨v1, rfl, ho, hb⟩
      have B12 := hide (j2 (unhide B11) hb)
      have O1 := hide ho
      clear hb ho IC
      go_wp2_with fail
      refine ((unhide SC) _).mono ?_
      rintro e w13 ⟨v2, rfl, hi, hb⟩
      have B13 := hide (j2 (unhide B12) hb)
      have P1 := hide (IntsAt.owned (ownsRow_below (unhide O1) hb))
      have P2 := hide hi
      clear hb hi SC O1
      go_wp2_with fail
      refine (lwSame _ _ R _ (unhide P1) (unhide P2) (unhide HLn)).mono ?_
      rintro e w14 ⟨rfl, hb⟩
      have B14 := hide (j2 (unhide B13) hb)
      clear hb
      go_wp2_with fail
      refine ((unhide IM) _ ((unhide HT).below (unhide B14))).mono ?_
      rintro e w15 ⟨rfl, hb⟩
      have B15 := hide (j2 (unhide B14) hb)
      clear hb IM
      go_wp2_with fail
      refine ((unhide SM) _).mono ?_
      rintro e w16 ⟨rfl, hb⟩
      have B16 := hide (j2 (unhide B15) hb)
      clear hb SM
      go_wp2
      go_ret
      exact ⟨rfl, unhide B16⟩
end Go.Proofs.YtjdginjohajmaaaGreatDoor.Ske
