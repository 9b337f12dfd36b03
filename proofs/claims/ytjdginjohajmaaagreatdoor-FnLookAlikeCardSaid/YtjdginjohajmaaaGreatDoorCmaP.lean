/- A row of points composed: no Go in sight. -/
import Derived.Test.YtjdginjohajmaaaGreatDoorMC
import Derived.Test.YtjdginjohajmaaaGreatDoorCmpP
namespace Go.Proofs.YtjdginjohajmaaaGreatDoor
open Go.RowKit
def okM (c m : Int) : Bool := decide (clsZ m ≠ 0) && decide (clsZ m < clsZ c)
/-- Nothing stands between the last starter and the next point. -/
def opn (D : List Int) (s c : Int) : Bool := decide (0 ≤ s) && (D.drop (s + 1).toNat).all (okM c)
def stepC (q : List Int × Int) (c : Int) : List Int × Int :=
  if opn q.1 q.2 c = true ∧ 0 ≤ pairP (nth q.1 q.2.toNat) c then (q.1.set q.2.toNat (pairP (nth q.1 q.2.toNat) c), q.2) else (q.1 ++ [c], if clsZ c = 0 then (q.1.length : Int) else q.2)
def cmpQ (L : List Int) : List Int × Int := L.foldl stepC ([], -1)
theorem cmpQ_snoc (L : List Int) (x : Int) : cmpQ (L ++ [x]) = stepC (cmpQ L) x := by rw [cmpQ, List.foldl_append]; rfl
theorem cmpQ_take {L : List Int} {i : Nat} (hi : i < L.length) : cmpQ (L.take (i + 1)) = stepC (cmpQ (L.take i)) (nth L i) := by rw [(ord_take hi).1, cmpQ_snoc]
def BdQ (q : List Int × Int) (n : Nat) : Prop := -1 ≤ q.2 ∧ q.2 < q.1.length ∧ q.1.length ≤ n
theorem stepC_bd {q : List Int × Int} {n : Nat} (h : BdQ q n) (c : Int) : BdQ (stepC q c) (n + 1) := by
  obtain ⟨h1, h2, h3⟩ := h
  unfold stepC
  split
  · exact ⟨h1, by simpa using h2, by simp; omega⟩
  · refine ⟨?_, ?_, by simp; omega⟩
    · show -1 ≤ (if clsZ c = 0 then (q.1.length : Int) else q.2)
      split <;> omega
    · show (if clsZ c = 0 then (q.1.length : Int) else q.2) < _
      simp only [List.length_append, List.length_singleton]
      split <;> omega
theorem cmpQ_bd : ∀ (n : Nat) (L : List Int), L.length = n → BdQ (cmpQ L) n
  | 0, L, h => by
    obtain rfl := List.length_eq_zero_iff.1 h
    exact ⟨by decide, by decide, by decide⟩
  | n + 1, L, h => by
    rcases snoc_cases L with rfl | ⟨L', x, rfl⟩
    · simp at h
    · rw [cmpQ_snoc]
      exact stepC_bd (cmpQ_bd n L' (by simpa using h)) x
/-- Side by side: the second is none of the marks, or not below the first. -/
def Adj : List Int → Prop
  | [] => True
  | [_] => True
  | a :: b :: t => (clsZ b = 0 ∨ clsZ a ≤ clsZ b) ∧ Adj (b :: t)
theorem adj_join {a : Int} {B : List Int} : ∀ {A : List Int}, Adj (A ++ [a]) → Adj (a :: B) → Adj (A ++ a :: B)
  | [], _, h => h
  | [_], h1, h => ⟨h1.1, h⟩
  | _ :: y :: A, h1, h => ⟨h1.1, adj_join (A := y :: A) h1.2 h⟩
theorem adj_parts : ∀ {A B : List Int}, Adj (A ++ B) → Adj A ∧ Adj B
  | [], _, h => ⟨trivial, h⟩
  | [_], [], _ => ⟨trivial, trivial⟩
  | [_], _ :: _, h => ⟨trivial, h.2⟩
  | _ :: y :: A, B, h => by
    have := adj_parts (A := y :: A) (B := B) h.2
    exact ⟨⟨h.1, this.1⟩, this.2⟩
theorem adj_ins {Z1 Z2 : List Int} {x : Int} (h : Adj (Z1 ++ Z2)) (h2 : ∀ z ∈ Z2, clsLt x z = true) (h1 : Z1 = [] ∨ ∃ Z z, Z1 = Z ++ [z] ∧ (clsZ x = 0 ∨ clsLt x z = false)) : Adj (Z1 ++ x :: Z2) := by
  obtain ⟨a1, a2⟩ := adj_parts h
  have t1 : Adj (Z1 ++ [x]) := by
    rcases h1 with rfl | ⟨Z, z, rfl, hz⟩
    · exact trivial
    · rw [List.append_assoc]
      refine adj_join a1 ⟨?_, trivial⟩
      rcases hz with hz | hz
      · exact .inl hz
      · exact .inr (by have := of_decide_eq_false hz; omega)
  refine adj_join t1 ?_
  match Z2, h2, a2 with
  | [], _, _ => exact trivial
  | y :: t, h2, a2 =>
    refine ⟨.inr ?_, a2⟩
    have := of_decide_eq_true (h2 y (by simp))
    omega
theorem adj_ord : ∀ (n : Nat) (L : List Int), L.length = n → Adj (ordL L)
  | 0, L, h => by
    obtain rfl := List.length_eq_zero_iff.1 h
    exact trivial
  | n + 1, L, h => by
    rcases snoc_cases L with rfl | ⟨L', x, rfl⟩
    · simp at h
    · have ih := adj_ord n L' (by simpa using h)
      rw [ordL_snoc]
      by_cases hx : clsZ x = 0
      · rw [insO_zero _ hx]
        refine adj_ins (Z2 := []) (by rw [List.append_nil]; exact ih) (by simp) ?_
        rcases snoc_cases (ordL L') with e | ⟨Z', z, e⟩
        · exact .inl e
        · exact .inr ⟨Z', z, e, .inl hx⟩
      · obtain ⟨Z1, Z2, e, h2, h1⟩ := split_last x _ (ordL L') rfl
        rw [e, insO_at hx h2 h1]
        refine adj_ins (by rw [← e]; exact ih) h2 ?_
        rcases h1 with h1 | ⟨Z, z, e1, hz⟩
        · exact .inl h1
        · exact .inr ⟨Z, z, e1, .inr hz⟩
/-- What stands between the last starter and the end: marks, in order, none above the last point read. -/
def InvC (L : List Int) (q : List Int × Int) : Prop := 0 ≤ q.2 → (∀ m ∈ q.1.drop (q.2 + 1).toNat, clsZ m ≠ 0) ∧ Srt clsLt (q.1.drop (q.2 + 1).toNat) ∧ ∀ P p, L = P ++ [p] → ∀ m ∈ q.1.drop (q.2 + 1).toNat, clsZ m ≤ clsZ p
theorem inv_cmp : ∀ (n : Nat) (L : List Int), L.length = n → Adj L → InvC L (cmpQ L)
  | 0, L, h, _ => by
    obtain rfl := List.length_eq_zero_iff.1 h
    intro h0
    exact absurd h0 (by decide)
  | n + 1, L, h, hA => by
    rcases snoc_cases L with rfl | ⟨L', c, rfl⟩
    · simp at h
    · have hl : L'.length = n := by simpa using h
      have ih := inv_cmp n L' hl (adj_parts hA).1
      have hb := cmpQ_bd n L' hl
      have hp : ∀ P p, L' = P ++ [p] → clsZ c = 0 ∨ clsZ p ≤ clsZ c := fun P p e => by
        rw [e, List.append_assoc] at hA
        exact (adj_parts hA).2.1
      have hne : L' = [] → (cmpQ L').2 = -1 := fun e => by rw [e]; rfl
      rw [cmpQ_snoc]
      generalize cmpQ L' = q at *
      obtain ⟨D, s⟩ := q
      obtain ⟨b1, b2, b3⟩ := hb
      simp only at b1 b2 b3 hne ih
      unfold InvC at ih ⊢
      unfold stepC
      simp only at ih ⊢
      by_cases hc : opn D s c = true ∧ 0 ≤ pairP (nth D s.toNat) c
      · rw [if_pos hc]
        intro h0
        simp only at h0 ⊢
        have hd : (D.set s.toNat (pairP (nth D s.toNat) c)).drop (s + 1).toNat = D.drop (s + 1).toNat := List.drop_set_of_lt (by omega)
        rw [hd]
        obtain ⟨i1, i2, _⟩ := ih h0
        refine ⟨i1, i2, fun P p e m hm => ?_⟩
        obtain ⟨_, e2⟩ := List.append_inj' e rfl
        injection e2 with e2 _
        subst e2
        have ha := hc.1
        unfold opn at ha
        rw [Bool.and_eq_true] at ha
        have := List.all_eq_true.1 ha.2 m hm
        unfold okM at this
        rw [Bool.and_eq_true] at this
        have := of_decide_eq_true this.2
        omega
      · rw [if_neg hc]
        simp only
        by_cases hz : clsZ c = 0
        · rw [if_pos hz]
          intro _
          have hd : (D ++ [c]).drop ((D.length : Int) + 1).toNat = [] := List.drop_eq_nil_iff.2 (by simp)
          rw [hd]
          exact ⟨by simp, List.Pairwise.nil, by simp⟩
        · rw [if_neg hz]
          intro h0
          have hd : (D ++ [c]).drop (s + 1).toNat = D.drop (s + 1).toNat ++ [c] := List.drop_append_of_le_length (by omega)
          rw [hd]
          obtain ⟨i1, i2, i3⟩ := ih h0
          have hle : ∀ m ∈ D.drop (s + 1).toNat, clsZ m ≤ clsZ c := fun m hm => by
            rcases snoc_cases L' with e | ⟨P, p, e⟩
            · have := hne e
              omega
            · have a1 := i3 P p e m hm
              rcases hp P p e with a2 | a2
              · exact absurd a2 hz
              · omega
          refine ⟨fun m hm => ?_, srt_app i2 (List.pairwise_singleton _ _) (fun x hx y hy => ?_), fun P p e m hm => ?_⟩
          · rcases List.mem_append.1 hm with hm | hm
            · exact i1 m hm
            · rw [List.mem_singleton] at hm
              rw [hm]
              exact hz
          · rw [List.mem_singleton] at hy
            subst hy
            have := hle x hx
            exact decide_eq_false (by omega)
          · obtain ⟨_, e2⟩ := List.append_inj' e rfl
            injection e2 with e2 _
            subst e2
            rcases List.mem_append.1 hm with hm | hm
            · exact hle m hm
            · rw [List.mem_singleton] at hm
              rw [hm]
              exact Int.le_refl _
/-- So the last of them tells it all. -/
theorem opn_last {L : List Int} {q : List Int × Int} (h : InvC L q) (h0 : 0 ≤ q.2) (c : Int) : opn q.1 q.2 c = true ↔ (q.1.drop (q.2 + 1).toNat = [] ∨ ∃ M m, q.1.drop (q.2 + 1).toNat = M ++ [m] ∧ clsZ m < clsZ c) := by
  obtain ⟨i1, i2, _⟩ := h h0
  unfold opn
  rw [decide_eq_true h0, Bool.true_and]
  generalize q.1.drop (q.2 + 1).toNat = M at *
  rcases snoc_cases M with rfl | ⟨M', m, rfl⟩
  · simp
  · constructor
    · intro ha
      have := List.all_eq_true.1 ha m (by simp)
      unfold okM at this
      rw [Bool.and_eq_true] at this
      exact .inr ⟨M', m, rfl, of_decide_eq_true this.2⟩
    · rintro (e | ⟨M2, m2, e, hm⟩)
      · simp at e
      · obtain ⟨_, e2⟩ := List.append_inj' e rfl
        injection e2 with e2 _
        subst e2
        refine List.all_eq_true.2 (fun x hx => ?_)
        unfold okM
        rw [Bool.and_eq_true]
        refine ⟨decide_eq_true (i1 x hx), decide_eq_true ?_⟩
        rcases List.mem_append.1 hx with hx | hx
        · have := of_decide_eq_false ((srt_parts i2).2.2 x hx m (by simp))
          omega
        · rw [List.mem_singleton] at hx
          rw [hx]
          exact hm
end Go.Proofs.YtjdginjohajmaaaGreatDoor
