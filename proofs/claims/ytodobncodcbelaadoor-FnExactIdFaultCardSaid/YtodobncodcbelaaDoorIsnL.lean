/- IsNormal of both, and the law. -/
import Derived.Test.YtodobncodcbelaaDoorNmlL
namespace Go.Proofs.YtodobncodcbelaaDoor
open Go.RowKit
def isN (f : Int) (s : ByteArray) : Bool := isF f && decide (s.size ≤ 65536) && decide (strOfNums (nrmT f s) = s)
theorem str_ne {s t : ByteArray} (h : ¬ t = s) : (t.toList == s.toList) = false := by
  rw [beq_eq_false_iff_ne, ByteArray.toList_eq, ByteArray.toList_eq]
  intro e
  apply h
  obtain ⟨⟨a⟩⟩ := s
  obtain ⟨⟨b⟩⟩ := t
  have e' : b = a := e
  rw [e']
theorem nml_eq {f : Int} {s : ByteArray} (hf : isF f = true) : strOfNums (nmlOut f s) = s ↔ isN f s = true := by
  unfold isN nmlOut
  rw [hf, Bool.true_and, Bool.and_eq_true, decide_eq_true_iff, decide_eq_true_iff]
  by_cases hs : 65536 < s.size
  · rw [if_pos (.inl hs)]
    constructor
    · intro h
      have := congrArg ByteArray.size h
      rw [strOfNums_size] at this
      simp at this
      omega
    · intro h
      omega
  · rw [if_neg (by rintro (h | h); exact hs h; cases h)]
    unfold small
    by_cases hl : 65536 < (nrmT f s).length
    · rw [if_pos hl]
      constructor
      · intro h
        have h1 := congrArg ByteArray.size h
        rw [strOfNums_size] at h1
        have h2 : s.size = 0 := by simpa using h1.symm
        have h3 := pts_le s
        have h4 := nrmL_len f (pts s)
        have h5 := textL_le (nrmL f (pts s))
        unfold nrmT at hl
        omega
      · intro h
        have h1 := congrArg ByteArray.size h.2
        rw [strOfNums_size] at h1
        omega
    · rw [if_neg hl]
      exact ⟨fun h => ⟨by omega, h⟩, fun h => h.2⟩
set_option maxRecDepth 100000 in
theorem l05IsNS (f : Int) (s : ByteArray) (w : World) (hf : isF f = true) (hs2 : s.size ≤ 65536) :
    Calls Tryd.prog 30 #[.int .i64 f, .string s] w fun e w' => e = .returned (.bool (isN f s)) ∧ Below w.heap.size w w' := by
  have C1 := hide (fun W => l05TextS f s W hf (by omega))
  have HI : Hid (isN f s = decide (strOfNums (nrmT f s) = s)) := hide (by unfold isN; rw [hf, decide_eq_true hs2]; simp)
  clear hf
  generalize strOfNums (nrmT f s) = t at *
  by_cases ht : t = s
  · subst ht
    have HE : Hid (isN f t = true) := hide (by rw [unhide HI]; simp)
    clear HI
    go_enter Tryd.func30, Tryd.ntmps30
    go_wp2_with (go_at_call 46; refine ((unhide C1) _).mono ?_; rintro e w2 ⟨rfl, hb2⟩)
    go_ret
    exact ⟨ret_bool (unhide HE).symm, hb2⟩
  · have HE : Hid (isN f s = false) := hide (by rw [unhide HI]; simp [ht])
    have hq : (t.toList == s.toList) = false := str_ne ht
    clear HI
    go_enter Tryd.func30, Tryd.ntmps30
    go_wp2_with (go_at_call 46; refine ((unhide C1) _).mono ?_; rintro e w2 ⟨rfl, hb2⟩)
    go_ret
    exact ⟨ret_bool (unhide HE).symm, hb2⟩
set_option maxRecDepth 100000 in
theorem specIsN (f : Int) (s : ByteArray) (w : World) (hs1 : s.size ≤ 1048576) :
    Calls Tryd.prog 12 #[.int .i64 f, .string s] w fun e w' => e = .returned (.bool (isN f s)) ∧ Below w.heap.size w w' := by
  have CF := hide (fun W => isFormS f W)
  by_cases hs : 65536 < s.size
  · have HE : Hid (isN f s = false) := hide (by unfold isN; rw [decide_eq_false (show ¬ s.size ≤ 65536 by omega)]; simp)
    go_enter Tryd.func12, Tryd.ntmps12
    go_wp2_with (go_at_call 29; refine ((unhide CF) _).mono ?_; rintro e w1 ⟨rfl, rfl⟩)
    go_ret
    exact ⟨ret_bool (unhide HE).symm, Below.refl _ _⟩
  · have hs2 : s.size ≤ 65536 := by omega
    cases hf : isF f with
    | false =>
      have HE : Hid (isN f s = false) := hide (by unfold isN; rw [hf]; simp)
      rw [hf] at CF
      clear hf
      go_enter Tryd.func12, Tryd.ntmps12
      go_wp2_with (go_at_call 29; refine ((unhide CF) _).mono ?_; rintro e w1 ⟨rfl, rfl⟩)
      go_ret
      exact ⟨ret_bool (unhide HE).symm, Below.refl _ _⟩
    | true =>
      have C1 := hide (fun W => l05IsNS f s W hf hs2)
      rw [hf] at CF
      clear hf
      generalize isN f s = t at *
      go_enter Tryd.func12, Tryd.ntmps12
      go_wp2_with (first | (go_at_call 29; refine ((unhide CF) _).mono ?_; rintro e w1 ⟨rfl, rfl⟩) | (go_at_call 30; refine ((unhide C1) _).mono ?_; rintro e w2 ⟨rfl, hb2⟩))
      go_ret
      exact ⟨rfl, hb2⟩
set_option maxRecDepth 100000 in
theorem implIsN (f : Int) (s : ByteArray) (w : World) (hs1 : s.size ≤ 1048576) :
    Calls Tryd.prog 17 #[.int .i64 f, .string s] w fun e w' => e = .returned (.bool (isN f s)) ∧ Below w.heap.size w w' := by
  have CF := hide (fun W => isFormI f W)
  cases hf : isF f with
  | false =>
    have HE : Hid (isN f s = false) := hide (by unfold isN; rw [hf]; simp)
    rw [hf] at CF
    clear hf
    go_enter Tryd.func17, Tryd.ntmps17
    go_wp2_with (go_at_call 34; refine ((unhide CF) _).mono ?_; rintro e w1 ⟨rfl, rfl⟩)
    go_ret
    exact ⟨ret_bool (unhide HE).symm, Below.refl _ _⟩
  | true =>
    have C1 := hide (fun W => implNormalize f s W hs1)
    have HI := hide (nml_eq (s := s) hf)
    rw [hf] at CF
    clear hf
    generalize strOfNums (nmlOut f s) = t at *
    by_cases ht : t = s
    · have HE : Hid (isN f s = true) := hide ((unhide HI).1 ht)
      clear HI
      subst ht
      go_enter Tryd.func17, Tryd.ntmps17
      go_wp2_with (first | (go_at_call 34; refine ((unhide CF) _).mono ?_; rintro e w1 ⟨rfl, rfl⟩) | (go_at_call 35; refine ((unhide C1) _).mono ?_; rintro e w2 ⟨rfl, hb2⟩))
      go_ret
      exact ⟨ret_bool (unhide HE).symm, hb2⟩
    · have HE : Hid (isN f s = false) := hide (by
        cases h : isN f s with
        | false => rfl
        | true => exact (ht ((unhide HI).2 h)).elim)
      have hq : (t.toList == s.toList) = false := str_ne ht
      clear HI
      go_enter Tryd.func17, Tryd.ntmps17
      go_wp2_with (first | (go_at_call 34; refine ((unhide CF) _).mono ?_; rintro e w1 ⟨rfl, rfl⟩) | (go_at_call 35; refine ((unhide C1) _).mono ?_; rintro e w2 ⟨rfl, hb2⟩))
      go_ret
      exact ⟨ret_bool (unhide HE).symm, hb2⟩
end Go.Proofs.YtodobncodcbelaaDoor
