/- The trie of drawn spans: its numbers are small. No walk. -/
import Derived.Test.YtjncfkcpjjnmdaaDoorGH
import Derived.Test.YtjncfkcpjjnmdaaDoorBldK
import Derived.Test.YtjncfkcpjjnmdaaDoorGJ
import Derived.Test.YtjncfkcpjjnmdaaDoorGK
import Derived.Test.YtjncfkcpjjnmdaaDoorGL
namespace Go.Proofs.YtjncfkcpjjnmdaaDoor.Dr
open Go.RowKit
theorem bld_from (l : List Int) : ∀ k, ∀ b ∈ (bld l k).1, ∃ i, i < k ∧ b = blk l i
  | 0, b, h => by simp [bld] at h
  | k + 1, b, h => by
    rw [bld_succ] at h
    unfold addB at h
    split at h
    · obtain ⟨i, hi, e⟩ := bld_from l k b h
      exact ⟨i, by omega, e⟩
    · rcases List.mem_append.1 h with h | h
      · obtain ⟨i, hi, e⟩ := bld_from l k b h
        exact ⟨i, by omega, e⟩
      · exact ⟨k, by omega, List.mem_singleton.1 h⟩
/-- The index and the data of drawn spans. -/
def dI (L : List Sp) (o : Int) : List Int := (bld (valsL L o) 512).2
def dD (L : List Sp) (o : Int) : List Int := (bld (valsL L o) 512).1.flatten
theorem vals_len (L : List Sp) (o : Int) : (valsL L o).length = 512 * 64 := by unfold valsL; rw [tabF_len]
theorem d_ok (L : List Sp) (o : Int) : TrieOk (dI L o) (dD L o) := bld_ok _ (vals_len L o)
theorem d_fault (L : List Sp) (o : Int) : trieFault (dI L o) (dD L o) = 0 := trieFault_ok (d_ok L o)
theorem dI_len (L : List Sp) (o : Int) : (dI L o).length = 512 := bld_ix_len _ _
theorem dD_len (L : List Sp) (o : Int) : (dD L o).length = (bld (valsL L o) 512).1.length * 64 := by
  unfold dD
  have := flat_take_len (bld (valsL L o) 512).1 (bld_all (valsL L o) 512 (vals_len L o) 512 (Nat.le_refl _)) _ (Nat.le_refl _)
  rwa [List.take_length] at this
theorem dD_le (L : List Sp) (o : Int) : (dD L o).length ≤ 32768 := by
  rw [dD_len]
  have := bld_len (valsL L o) 512
  omega
theorem dD_pos (L : List Sp) (o : Int) : 0 < (dD L o).length := by
  rw [dD_len]
  have : 0 < (bld (valsL L o) 512).1.length := bld_pos (valsL L o) 511
  omega
theorem nth_mem {l : List Int} {j : Nat} (h : j < l.length) : nth l j ∈ l := by
  unfold nth
  rw [List.getD_eq_getElem?_getD, List.getElem?_eq_getElem h]
  exact List.getElem_mem h
theorem pv_small {L : List Sp} {o : Int} (h : Vb L) (ho : 0 ≤ o ∧ o ≤ 10) (p : Int) : -1000000000000 ≤ pv L o p ∧ pv L o p ≤ 1000000000000 := by
  unfold pv
  rcases pvU_sub L o p L.length with e | ⟨i, hi, e⟩
  · rw [e]; omega
  · rw [e]; exact h.at hi
theorem dD_small {L : List Sp} {o : Int} (h : Vb L) (ho : 0 ≤ o ∧ o ≤ 10) (j : Nat) (hj : j < (dD L o).length) : -1000000000000 ≤ nth (dD L o) j ∧ nth (dD L o) j ≤ 1000000000000 := by
  have hm := nth_mem hj
  unfold dD at hm
  obtain ⟨b, hb, hx⟩ := List.mem_flatten.1 hm
  obtain ⟨i, _, rfl⟩ := bld_from _ _ b hb
  unfold blk at hx
  have hx2 := List.mem_of_mem_drop (List.mem_of_mem_take hx)
  unfold valsL tabF at hx2
  obtain ⟨q, _, e⟩ := List.mem_map.1 hx2
  rw [show nth (dD L o) j = pv L o q from e.symm]
  exact pv_small h ho q
theorem dI_small (L : List Sp) (o : Int) (j : Nat) (hj : j < (dI L o).length) : -1000000000000 ≤ nth (dI L o) j ∧ nth (dI L o) j ≤ 1000000000000 := by
  rw [dI_len] at hj
  obtain ⟨m, e, hm, _⟩ := bld_at (valsL L o) 512 j hj
  have h2 := bld_len (valsL L o) 512
  have e2 : nth (dI L o) j = (m : Int) := e
  rw [e2]
  omega
theorem d_tells (L : List Sp) (o : Int) (p : Nat) (hp : p < 32768) : tellsAt (dI L o) (dD L o) p = pvU L o L.length p := by
  rw [tellsAt_yes ⟨d_ok L o, by omega, by omega⟩]
  have := bld_tells (valsL L o) (vals_len L o) p hp
  rw [show ((p : Int)).toNat = p by omega]
  refine this.trans ?_
  unfold valsL
  rw [tabF_at _ _ _ hp]
  rfl
theorem ts_one {ix dt : List Int} {A B : List Sp} (h1 : TSOf ix dt A) (h2 : TSOf ix dt B) : A = B := by
  rcases h1 with ⟨a, h1⟩ | ⟨a, h1⟩
  · rcases h2 with ⟨_, h2⟩ | ⟨b, _⟩
    · exact List.reverse_inj.1 (runs_one _ _ _ _ h1 h2)
    · exact absurd a b
  · rcases h2 with ⟨b, _⟩ | ⟨_, h2⟩
    · exact absurd b a
    · rw [h1, h2]
theorem in64 {l : List Int} (h : ∀ j, j < l.length → -1000000000000 ≤ nth l j ∧ nth l j ≤ 1000000000000) : ∀ j, j < l.length → -9223372036854775808 ≤ nth l j ∧ nth l j ≤ 9223372036854775807 := fun j hj => by
  have := h j hj
  omega
end Go.Proofs.YtjncfkcpjjnmdaaDoor.Dr
