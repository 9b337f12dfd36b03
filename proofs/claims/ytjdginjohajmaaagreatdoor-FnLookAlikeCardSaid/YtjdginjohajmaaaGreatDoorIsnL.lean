/- IsNormal of both, and the law. -/
import Derived.Test.YtjdginjohajmaaaGreatDoorNmlL
namespace Go.Proofs.YtjdginjohajmaaaGreatDoor
open Go.RowKit
def isN (f : Int) (s : ByteArray) : Bool := isF f && decide (s.size ≤ 65536) && decide (strOfNums (nrmT f s) = s)
theorem str_ne {s t : ByteArray} (h : ¬ t = s) : (t.toList == s.toList) = false := by
  rw [beq_eq_false_iff_ne, ByteArray.toList_eq, ByteArray.toList_eq]
  intro e
  apply h
  obtain ⟨⟨a⟩⟩ := s
  obtain ⟨⟨b⟩⟩ := t
  have e' : b = a := e
  rw [e']
theorem nml_eq {f : Int} {s : ByteArray} (hf : isF f = true) : strOfNums (nmlOut f s) = s ↔ isN f s = true := by
  unfold isN nmlOut
  rw [hf, Bool.true_and, Bool.and_eq_true, decide_eq_true_iff, decide_eq_true_iff]
  by_cases hs : 65536 < s.size
  · rw [if_pos (.inl hs)]
    constructor
    · intro h
      have := congrArg ByteArray.size h
      rw [strOfNums_size] at this
      simp at this
      omega
    · intro h
      omega
  · rw [if_neg (by rintro (h | h); exact hs h; cases h)]
    unfold small
    by_cases hl : 65536 < (nrmT f s).length
    · rw [if_pos hl]
      constructor
      · intro h
        have h1 := congrArg ByteArray.size h
        rw [strOfNums_size] at h1
        have h2 : s.size = 0 := by simpa using h1.symm
        have h3 := pts_le s
        have h4 := nrmL_len f (pts s)
        have h5 := textL_le (nrmL f (pts s))
        unfold nrmT at hl
        omega
      · intro h
        have h1 := congrArg ByteArray.size h.2
        rw [strOfNums_size] at h1
        omega
    · rw [if_neg hl]
      exact ⟨fun h => ⟨by omega, h⟩, fun h => h.2⟩
end Go.Proofs.YtjdginjohajmaaaGreatDoor
