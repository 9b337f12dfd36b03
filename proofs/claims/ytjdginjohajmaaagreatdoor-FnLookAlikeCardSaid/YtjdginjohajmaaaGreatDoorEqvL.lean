/- Equivalent of both, and the law. -/
import Derived.Test.YtjdginjohajmaaaGreatDoorIsnL
import Derived.Test.YtjdginjohajmaaaGreatDoorNRoundW
namespace Go.Proofs.YtjdginjohajmaaaGreatDoor
open Go.RowKit
theorem parts_pt {k : Bool} {p x : Int} (h : x ∈ partsZ k p) : isPt x = true := by
  rw [isPt_iff]
  have h0 := parts_bd h
  refine ⟨h0.1, h0.2, .inl ?_⟩
  rcases parts_cases k p with e | ⟨a, e, _, ha⟩ | ⟨a, b, e, _, ha, hb⟩
  · rw [e] at h; simp at h
  · rw [e] at h
    simp at h
    subst h
    unfold Bare at ha
    omega
  · rw [e] at h
    simp at h
    rcases h with rfl | rfl
    · unfold Near Bare at ha
      omega
    · unfold Bare at hb
      omega
theorem allF_pt (k : Bool) : ∀ (n : Nat) (p : Int), isPt p = true → ∀ x ∈ allF k n p, isPt x = true
  | 0, p, hp, x, hx => by
    rw [allF, List.mem_singleton] at hx
    rw [hx]
    exact hp
  | n + 1, p, hp, x, hx => by
    rw [allF] at hx
    split at hx
    · rw [List.mem_singleton] at hx
      rw [hx]
      exact hp
    · obtain ⟨y, hy, hx⟩ := List.mem_flatMap.1 hx
      exact allF_pt k n y (parts_pt hy) x hx
theorem ord_mem : ∀ (n : Nat) (L : List Int), L.length = n → ∀ y ∈ ordL L, y ∈ L
  | 0, L, h => by
    obtain rfl := List.length_eq_zero_iff.1 h
    intro y hy
    cases hy
  | n + 1, L, h => by
    rcases snoc_cases L with rfl | ⟨L', x, rfl⟩
    · simp at h
    · have ih := ord_mem n L' (by simpa using h)
      rw [ordL_snoc]
      intro y hy
      have key : y ∈ ordL L' ∨ y = x := by
        by_cases hx : clsZ x = 0
        · rw [insO_zero _ hx] at hy
          simpa using hy
        · obtain ⟨Z1, Z2, e, h2, h1⟩ := split_last x _ (ordL L') rfl
          rw [e, insO_at hx h2 h1] at hy
          rw [e]
          simp only [List.mem_append, List.mem_cons] at hy ⊢
          rcases hy with hy | hy | hy
          · exact .inl (.inl hy)
          · exact .inr hy
          · exact .inl (.inr hy)
      rcases key with hy | hy
      · exact List.mem_append.2 (.inl (ih y hy))
      · rw [hy]
        simp
/-- Points in the form D. -/
theorem nrm1_pt (s : ByteArray) : ∀ x ∈ nrmL 1 (pts s), isPt x = true := fun x hx => by
  have e : nrmL 1 (pts s) = ordL (nrmA false (pts s)) := rfl
  rw [e] at hx
  obtain ⟨p, hp, hx⟩ := List.mem_flatMap.1 (ord_mem _ _ rfl x hx)
  exact allF_pt false 2 p (pts_pt s p hp) x hx
theorem text_inj {a b : ByteArray} : strOfNums (nrmT 1 a) = strOfNums (nrmT 1 b) ↔ nrmL 1 (pts a) = nrmL 1 (pts b) := by
  constructor
  · intro h
    have := congrArg pts h
    unfold nrmT at this
    rwa [pts_text _ (nrm1_pt a), pts_text _ (nrm1_pt b)] at this
  · intro h
    unfold nrmT
    rw [h]
def eqvB (a b : ByteArray) : Bool := decide (a.size ≤ 65536) && decide (b.size ≤ 65536) && sameB (nrmL 1 (pts a)) (nrmL 1 (pts b))
end Go.Proofs.YtjdginjohajmaaaGreatDoor
