/- Equivalent of both, and the law. -/
import Derived.Test.YtiecjledgmhffaaIsnL
import Derived.Test.YtiecjledgmhffaaNRoundW
namespace Go.Proofs.Ytiecjledgmhffaa
open Go.RowKit
theorem parts_pt {k : Bool} {p x : Int} (h : x ∈ partsZ k p) : isPt x = true := by
  rw [isPt_iff]
  have h0 := parts_bd h
  refine ⟨h0.1, h0.2, .inl ?_⟩
  rcases parts_cases k p with e | ⟨a, e, _, ha⟩ | ⟨a, b, e, _, ha, hb⟩
  · rw [e] at h; simp at h
  · rw [e] at h
    simp at h
    subst h
    unfold Bare at ha
    omega
  · rw [e] at h
    simp at h
    rcases h with rfl | rfl
    · unfold Near Bare at ha
      omega
    · unfold Bare at hb
      omega
theorem allF_pt (k : Bool) : ∀ (n : Nat) (p : Int), isPt p = true → ∀ x ∈ allF k n p, isPt x = true
  | 0, p, hp, x, hx => by
    rw [allF, List.mem_singleton] at hx
    rw [hx]
    exact hp
  | n + 1, p, hp, x, hx => by
    rw [allF] at hx
    split at hx
    · rw [List.mem_singleton] at hx
      rw [hx]
      exact hp
    · obtain ⟨y, hy, hx⟩ := List.mem_flatMap.1 hx
      exact allF_pt k n y (parts_pt hy) x hx
theorem ord_mem : ∀ (n : Nat) (L : List Int), L.length = n → ∀ y ∈ ordL L, y ∈ L
  | 0, L, h => by
    obtain rfl := List.length_eq_zero_iff.1 h
    intro y hy
    cases hy
  | n + 1, L, h => by
    rcases snoc_cases L with rfl | ⟨L', x, rfl⟩
    · simp at h
    · have ih := ord_mem n L' (by simpa using h)
      rw [ordL_snoc]
      intro y hy
      have key : y ∈ ordL L' ∨ y = x := by
        by_cases hx : clsZ x = 0
        · rw [insO_zero _ hx] at hy
          simpa using hy
        · obtain ⟨Z1, Z2, e, h2, h1⟩ := split_last x _ (ordL L') rfl
          rw [e, insO_at hx h2 h1] at hy
          rw [e]
          simp only [List.mem_append, List.mem_cons] at hy ⊢
          rcases hy with hy | hy | hy
          · exact .inl (.inl hy)
          · exact .inr hy
          · exact .inl (.inr hy)
      rcases key with hy | hy
      · exact List.mem_append.2 (.inl (ih y hy))
      · rw [hy]
        simp
/-- Points in the form D. -/
theorem nrm1_pt (s : ByteArray) : ∀ x ∈ nrmL 1 (pts s), isPt x = true := fun x hx => by
  have e : nrmL 1 (pts s) = ordL (nrmA false (pts s)) := rfl
  rw [e] at hx
  obtain ⟨p, hp, hx⟩ := List.mem_flatMap.1 (ord_mem _ _ rfl x hx)
  exact allF_pt false 2 p (pts_pt s p hp) x hx
theorem text_inj {a b : ByteArray} : strOfNums (nrmT 1 a) = strOfNums (nrmT 1 b) ↔ nrmL 1 (pts a) = nrmL 1 (pts b) := by
  constructor
  · intro h
    have := congrArg pts h
    unfold nrmT at this
    rwa [pts_text _ (nrm1_pt a), pts_text _ (nrm1_pt b)] at this
  · intro h
    unfold nrmT
    rw [h]
def eqvB (a b : ByteArray) : Bool := decide (a.size ≤ 65536) && decide (b.size ≤ 65536) && sameB (nrmL 1 (pts a)) (nrmL 1 (pts b))
set_option maxRecDepth 100000 in
theorem implEqv (a b : ByteArray) (w : World) (ha : a.size ≤ 1048576) (hb : b.size ≤ 1048576) :
    Calls Try.prog 6 #[.string a, .string b] w fun e w' => e = .returned (.bool (eqvB a b)) ∧ Below w.heap.size w w' := by
  by_cases h1 : 65536 < a.size
  · have HE : Hid (eqvB a b = false) := hide (by unfold eqvB; rw [decide_eq_false (show ¬ a.size ≤ 65536 by omega)]; simp)
    go_enter Try.func6, Try.ntmps6
    go_wp2
    go_ret
    exact ⟨ret_bool (unhide HE).symm, Below.refl _ _⟩
  · have h1' : a.size ≤ 65536 := by omega
    by_cases h2 : 65536 < b.size
    · have HE : Hid (eqvB a b = false) := hide (by unfold eqvB; rw [decide_eq_false (show ¬ b.size ≤ 65536 by omega)]; simp)
      go_enter Try.func6, Try.ntmps6
      go_wp2
      go_ret
      exact ⟨ret_bool (unhide HE).symm, Below.refl _ _⟩
    · have h2' : b.size ≤ 65536 := by omega
      have hpa := pts_le a
      have hpb := pts_le b
      have hla := nrmL_len 1 (pts a)
      have hlb := nrmL_len 1 (pts b)
      have C1 := hide (fun W => implPoints a W h1')
      have C2 := hide (fun W => implPoints b W h2')
      have N1 := hide (fun (W : World) (B0 : Nat) (v : Value) (ho : W.ownsRow B0 2 1 v (pts a).length ((pts a).map (Value.int .i64))) => normalI 1 B0 _ v (pts a) W ho (by omega))
      have N2 := hide (fun (W : World) (B0 : Nat) (v : Value) (ho : W.ownsRow B0 2 1 v (pts b).length ((pts b).map (Value.int .i64))) => normalI 1 B0 _ v (pts b) W ho (by omega))
      have E := hide (fun (W : World) (v1 v2 : Value) (i1 : IntsAt W v1 (nrmL 1 (pts a))) (i2 : IntsAt W v2 (nrmL 1 (pts b))) => equal_any v1 v2 _ _ W i1 i2 (by omega) (by omega))
      have HI : Hid (sameB (nrmL 1 (pts a)) (nrmL 1 (pts b)) = eqvB a b) := hide (by unfold eqvB; rw [decide_eq_true h1', decide_eq_true h2']; simp)
      clear hpa hpb hla hlb
      generalize sameB (nrmL 1 (pts a)) (nrmL 1 (pts b)) = r at *
      generalize nrmL 1 (pts a) = Y1 at *
      generalize nrmL 1 (pts b) = Y2 at *
      generalize pts a = X1 at *
      generalize pts b = X2 at *
      go_enter Try.func6, Try.ntmps6
      go_wp2_with fail
      refine ((unhide C1) _).mono ?_
      rintro e w1 ⟨v1, rfl, ho1, hb1⟩
      have O1 := hide ho1
      have B1 := hide hb1
      clear ho1 hb1 C1
      go_wp2_with fail
      refine ((unhide N1) _ _ _ (unhide O1)).mono ?_
      rintro e w2 ⟨v2, rfl, ho2, hb2⟩
      have O2 := hide ho2
      have B2 := hide ((unhide B1).trans (hb2.mono (unhide B1).size))
      clear ho2 hb2 N1 O1 B1
      go_wp2_with fail
      refine ((unhide C2) _).mono ?_
      rintro e w3 ⟨v3, rfl, ho3, hb3⟩
      have O3 := hide ho3
      have P3 := hide (ownsRow_below (unhide O2) hb3)
      have B3 := hide ((unhide B2).trans (hb3.mono (unhide B2).size))
      clear ho3 hb3 C2 O2 B2
      go_wp2_with fail
      refine ((unhide N2) _ _ _ (unhide O3)).mono ?_
      rintro e w4 ⟨v4, rfl, ho4, hb4⟩
      have O4 := hide ho4
      have P4 := hide (ownsRow_below (unhide P3) hb4)
      have B4 := hide ((unhide B3).trans (hb4.mono (unhide B3).size))
      clear ho4 hb4 N2 O3 P3 B3
      go_wp2_with fail
      refine ((unhide E) _ _ _ (IntsAt.owned (unhide P4)) (IntsAt.owned (unhide O4))).mono ?_
      rintro e w5 ⟨rfl, m, rfl⟩
      go_wp2
      go_ret
      exact ⟨ret_bool (unhide HI), bdrew (unhide B4) m⟩
end Go.Proofs.Ytiecjledgmhffaa
