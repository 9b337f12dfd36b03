/- A normal form is its own one, and what is asked of the other form of it. No Go in sight. -/
import Derived.Test.YtncfjpdbfojfoaaDoorEquT
namespace Go.Proofs.YtncfjpdbfojfoaaDoor
open Go.RowKit
set_option linter.unusedVariables false
/-- Marks have no parts, in the forms with K neither. -/
theorem mark_noneK {m : Int} (h : clsZ m ≠ 0) : partsZ true m = [] := by
  have hm : m = 1584 ∨ m = 1585 ∨ (4096 ≤ m ∧ m < 4152) := by
    unfold clsZ at h
    by_cases h1 : m = 1584
    · exact .inl h1
    by_cases h2 : m = 1585
    · exact .inr (.inl h2)
    rw [if_neg h1, if_neg h2] at h
    by_cases h3 : m < 4096
    · rw [if_pos h3] at h
      exact absurd rfl h
    by_cases h4 : m < 4152
    · exact .inr (.inr ⟨by omega, h4⟩)
    rw [if_neg h3, if_neg (by omega), if_neg (by omega), if_neg (by omega), if_neg (by omega), if_neg h4] at h
    exact absurd rfl h
  unfold partsZ
  rw [if_neg (by omega), if_neg (by omega), if_neg (by omega), if_neg (by omega), if_neg (by omega), if_pos rfl]
  unfold wideZ
  rw [if_neg (by omega), if_neg (by omega), if_neg (by omega), if_neg (by omega), if_neg (by omega), if_neg (by omega), if_neg (by omega)]
theorem parts_more {p : Int} (h : partsZ false p ≠ []) : partsZ true p = partsZ false p := by
  unfold partsZ at h ⊢
  by_cases h1 : 8192 ≤ p ∧ p ≤ 8607
  · rw [if_pos h1, if_pos h1]
  rw [if_neg h1] at h ⊢
  rw [if_neg h1]
  by_cases h2 : 8704 ≤ p ∧ p ≤ 9119
  · rw [if_pos h2, if_pos h2]
  rw [if_neg h2] at h ⊢
  rw [if_neg h2]
  by_cases h3 : 9216 ≤ p ∧ p ≤ 9631
  · rw [if_pos h3, if_pos h3]
  rw [if_neg h3] at h ⊢
  rw [if_neg h3]
  by_cases h4 : 9728 ≤ p ∧ p ≤ 9753
  · rw [if_pos h4, if_pos h4]
  rw [if_neg h4] at h ⊢
  rw [if_neg h4]
  by_cases h5 : 12288 ≤ p ∧ p ≤ 23459
  · rw [if_pos h5, if_pos h5]
  rw [if_neg h5] at h
  exact absurd (if_neg (by simp)) h
theorem all_pairK {a c : Int} (h : 0 ≤ pairP a c) (hc : partsZ true c = []) : allF true 2 (pairP a c) = allF true 2 a ++ [c] := by
  have hp : partsZ true (pairP a c) = [a, c] := by
    rw [parts_more (by rw [pair_parts h]; simp)]
    exact pair_parts h
  have ha : deep true 1 a := by
    rcases parts_cases true (pairP a c) with e | ⟨x, e, _, _⟩ | ⟨x, y, e, _, hx, _⟩
    · rw [hp] at e
      cases e
    · rw [hp] at e
      cases e
    · rw [hp] at e
      injection e with e1 e2
      rw [e1]
      exact near_deep hx
  rw [allF_two hp, allF_deep 1 a ha, allF_none hc]
/-- What is composed comes back. -/
theorem cmp_backK : ∀ (n : Nat) (L : List Int), L.length = n → Adj L → (∀ y ∈ L, partsZ true y = []) → ordL (nrmA true (cmpQ L).1) = L
  | 0, L, h, _, _ => by
    obtain rfl := List.length_eq_zero_iff.1 h
    rfl
  | n + 1, L, h, hA, hL => by
    rcases snoc_cases L with rfl | ⟨L', c, rfl⟩
    · simp at h
    · have hl : L'.length = n := by simpa using h
      have ih := cmp_backK n L' hl (adj_parts hA).1 (fun y hy => hL y (by simp [hy]))
      have hb := cmpQ_bd n L' hl
      have hc := hL c (by simp)
      have hi := ins_adj hA
      rw [cmpQ_snoc]
      generalize cmpQ L' = q at *
      obtain ⟨D, s⟩ := q
      obtain ⟨b1, b2, b3⟩ := hb
      simp only at b1 b2 b3 ih
      unfold stepC
      simp only
      by_cases ho : opn D s c = true ∧ 0 ≤ pairP (nth D s.toNat) c
      · rw [if_pos ho]
        simp only
        obtain ⟨ho, hp⟩ := ho
        unfold opn at ho
        rw [Bool.and_eq_true] at ho
        have h0 := of_decide_eq_true ho.1
        have hM : ∀ m ∈ D.drop (s.toNat + 1), clsZ m ≠ 0 ∧ clsZ m < clsZ c := fun m hm => by
          have e : (s + 1).toNat = s.toNat + 1 := by omega
          have := ho.2
          rw [e] at this
          have := List.all_eq_true.1 this m hm
          unfold okM at this
          rw [Bool.and_eq_true] at this
          exact ⟨of_decide_eq_true this.1, of_decide_eq_true this.2⟩
        have hs : s.toNat < D.length := by omega
        have eM : nrmA true (D.drop (s.toNat + 1)) = D.drop (s.toNat + 1) := nrmA_bare (fun y hy => mark_noneK (hM y hy).1)
        have eD : nrmA true D = nrmA true (D.take s.toNat) ++ allF true 2 (nth D s.toNat) ++ D.drop (s.toNat + 1) := by
          conv => lhs; rw [nth_split hs]
          rw [nrmA_app, nrmA_cons, eM, List.append_assoc]
        rw [eD] at ih
        rw [List.set_eq_take_append_cons_drop, if_pos hs, nrmA_app, nrmA_cons, eM, all_pairK hp hc]
        have e2 : nrmA true (D.take s.toNat) ++ (allF true 2 (nth D s.toNat) ++ [c] ++ D.drop (s.toNat + 1)) = (nrmA true (D.take s.toNat) ++ allF true 2 (nth D s.toNat)) ++ c :: D.drop (s.toNat + 1) := by simp
        rw [e2, ord_swap c _ _ hM, ordL_snoc, ih, hi]
      · rw [if_neg ho]
        simp only
        rw [nrmA_app, nrmA_cons, allF_none hc]
        show ordL (nrmA true D ++ ([c] ++ nrmA true [])) = _
        rw [show ([c] ++ nrmA true [] : List Int) = [c] from rfl, ordL_snoc, ih, hi]
theorem ord_lastK {l : List Int} : ∀ y ∈ ordL (nrmA true l), partsZ true y = [] := fun y hy => nrmA_last y (ord_mem _ _ rfl y hy)
theorem dd3 (l : List Int) : nrmL 3 (nrmL 3 l) = nrmL 3 l := by
  show ordL (nrmA true (ordL (nrmA true l))) = ordL (nrmA true l)
  rw [nrmA_bare ord_lastK]
  exact ord_adj _ _ rfl (adj_ord _ _ rfl)
theorem dc4 (l : List Int) : nrmL 3 (nrmL 4 l) = nrmL 3 l := by
  show ordL (nrmA true (cmpQ (ordL (nrmA true l))).1) = ordL (nrmA true l)
  exact cmp_backK _ _ rfl (adj_ord _ _ rfl) ord_lastK
theorem nrm_2 (l : List Int) : nrmL 2 l = (cmpQ (nrmL 1 l)).1 := rfl
theorem nrm_4 (l : List Int) : nrmL 4 l = (cmpQ (nrmL 3 l)).1 := rfl
/-- The other form of the same kind. -/
def oth (f : Int) : Int := if f = 1 then 2 else if f = 2 then 1 else if f = 3 then 4 else 3
theorem nrm_self {f : Int} (h : f = 1 ∨ f = 2 ∨ f = 3 ∨ f = 4) (l : List Int) : nrmL f (nrmL f l) = nrmL f l := by
  rcases h with rfl | rfl | rfl | rfl
  · exact dd l
  · rw [nrm_2 (nrmL 2 l), dc, ← nrm_2]
  · exact dd3 l
  · rw [nrm_4 (nrmL 4 l), dc4, ← nrm_4]
theorem nrm_oth {f : Int} (h : f = 1 ∨ f = 2 ∨ f = 3 ∨ f = 4) (l : List Int) : nrmL (oth f) (nrmL f l) = nrmL (oth f) l := by
  rcases h with rfl | rfl | rfl | rfl
  · show nrmL 2 (nrmL 1 l) = nrmL 2 l
    rw [nrm_2, dd, ← nrm_2]
  · show nrmL 1 (nrmL 2 l) = nrmL 1 l
    exact dc l
  · show nrmL 4 (nrmL 3 l) = nrmL 4 l
    rw [nrm_4, dd3, ← nrm_4]
  · show nrmL 3 (nrmL 4 l) = nrmL 3 l
    exact dc4 l
theorem nrm_pt (f : Int) (s : ByteArray) : ∀ x ∈ nrmL f (pts s), isPt x = true := by
  have h1 : ∀ x ∈ ordL (nrmA (isK f) (pts s)), isPt x = true := fun x hx => by
    obtain ⟨p, hp, hx⟩ := List.mem_flatMap.1 (ord_mem _ _ rfl x hx)
    exact allF_pt (isK f) 2 p (pts_pt s p hp) x hx
  unfold nrmL
  split
  · exact (cmp_wid _ _ rfl).2 h1
  · exact h1
/-- A form as a text. -/
def nf (f : Int) (s : ByteArray) : ByteArray := strOfNums (nmlOut f s)
theorem nf_cases {f : Int} (s : ByteArray) (hf : isF f = true) : nf f s = ⟨#[]⟩ ∨ (s.size ≤ 65536 ∧ (nrmT f s).length ≤ 65536 ∧ nmlOut f s = nrmT f s ∧ pts (nf f s) = nrmL f (pts s) ∧ (nf f s).size ≤ 65536) := by
  by_cases h : 65536 < s.size ∨ isF f = false
  · left
    unfold nf nmlOut
    rw [if_pos h]
    rfl
  · have hs : s.size ≤ 65536 := by
      by_cases h2 : 65536 < s.size
      · exact absurd (.inl h2) h
      · omega
    by_cases h3 : 65536 < (nrmT f s).length
    · left
      unfold nf nmlOut small
      rw [if_neg h, if_pos h3]
      rfl
    · have e : nmlOut f s = nrmT f s := by
        unfold nmlOut small
        rw [if_neg h, if_neg h3]
      refine .inr ⟨hs, by omega, e, ?_, ?_⟩
      · unfold nf
        rw [e]
        unfold nrmT
        exact pts_text _ (nrm_pt f s)
      · unfold nf
        rw [e, strOfNums_size]
        omega
/-- A normal form is its own one. -/
theorem nf_self {f : Int} (s : ByteArray) (h : f = 1 ∨ f = 2 ∨ f = 3 ∨ f = 4) (hn : nf f s ≠ ⟨#[]⟩ ∨ s.size = 0) : nf f (nf f s) = nf f s := by
  have hf : isF f = true := by rcases h with rfl | rfl | rfl | rfl <;> rfl
  rcases nf_cases s hf with e | ⟨_, h2, h3, h4, h5⟩
  · rcases hn with hn | hn
    · exact absurd e hn
    · rw [e]
      have es : s = ⟨#[]⟩ := by
        obtain ⟨d⟩ := s
        have : d.size = 0 := hn
        rw [Array.eq_empty_of_size_eq_zero this]
      rw [es] at e
      exact e
  · have e2 : nrmT f (nf f s) = nrmT f s := by
      unfold nrmT
      rw [h4, nrm_self h]
    have e3 : nmlOut f (nf f s) = nrmT f (nf f s) := by
      unfold nmlOut small
      rw [if_neg (by rw [hf]; simp; omega), if_neg (by rw [e2]; omega)]
    show strOfNums (nmlOut f (nf f s)) = strOfNums (nmlOut f s)
    rw [e3, e2, h3]
theorem nf_isN {f : Int} (s : ByteArray) (h : f = 1 ∨ f = 2 ∨ f = 3 ∨ f = 4) (hn : nf f s ≠ ⟨#[]⟩ ∨ s.size = 0) : isN f (nf f s) = true :=
  (nml_eq (by rcases h with rfl | rfl | rfl | rfl <;> rfl)).1 (nf_self s h hn)
/-- The other form of a form. -/
theorem nf_oth {f : Int} (s : ByteArray) (h : f = 1 ∨ f = 2 ∨ f = 3 ∨ f = 4) (hn : nf f s ≠ ⟨#[]⟩ ∨ s.size = 0) (h1 : nf (oth f) s ≠ ⟨#[]⟩) (h2 : nf (oth f) (nf f s) ≠ ⟨#[]⟩) : nf (oth f) (nf f s) = nf (oth f) s := by
  have hf : isF f = true := by rcases h with rfl | rfl | rfl | rfl <;> rfl
  have hg : isF (oth f) = true := by rcases h with rfl | rfl | rfl | rfl <;> rfl
  rcases nf_cases s hg with e | ⟨a1, a2, a3, a4, a5⟩
  · exact absurd e h1
  rcases nf_cases (nf f s) hg with e | ⟨b1, b2, b3, b4, b5⟩
  · exact absurd e h2
  rcases nf_cases s hf with e | ⟨_, _, c3, c4, _⟩
  · rcases hn with hn | hn
    · exact absurd e hn
    · have es : s = ⟨#[]⟩ := by
        obtain ⟨d⟩ := s
        have : d.size = 0 := hn
        rw [Array.eq_empty_of_size_eq_zero this]
      rw [e, es]
  · show strOfNums (nmlOut (oth f) (nf f s)) = strOfNums (nmlOut (oth f) s)
    rw [b3, a3]
    unfold nrmT
    rw [c4, nrm_oth h]
end Go.Proofs.YtncfjpdbfojfoaaDoor
