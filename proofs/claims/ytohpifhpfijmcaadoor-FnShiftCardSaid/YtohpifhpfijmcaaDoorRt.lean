/- What is written by steps is read back as it was. No walk. -/
import Derived.Test.YtohpifhpfijmcaaDoorStpF
namespace Go.Proofs.YtohpifhpfijmcaaDoor
open Go.RowKit
theorem bt_nums (zs : List Int) (i : Nat) (hi : i < zs.length) (hz : ∀ x ∈ zs, 0 ≤ x ∧ x < 256) : (bt (strOfNums zs) i : Int) = zs[i] := by
  have hs : i < (strOfNums zs).size := by rw [strOfNums_size]; exact hi
  rw [← bt_get _ i hs]
  have hd : (strOfNums zs)[i] = UInt8.ofNat (zs[i]).toNat := by
    show (strOfNums zs).data[i] = _
    simp [strOfNums]
  rw [hd]
  have := hz zs[i] (List.getElem_mem hi)
  rw [UInt8.toNat_ofNat_of_lt' (by show _ < 256; omega)]
  omega
/-- A byte in the midst of others. -/
theorem bt_mid {A B C D : List Int} (hD : D = A ++ (B ++ C)) (hz : ∀ x ∈ D, 0 ≤ x ∧ x < 256) (j : Nat) (hj : j < B.length) :
    (bt (strOfNums D) (A.length + j) : Int) = B[j] ∧ A.length + j < (strOfNums D).size := by
  have hl : A.length + j < D.length := by rw [hD]; simp; omega
  refine ⟨?_, by rw [strOfNums_size]; exact hl⟩
  rw [bt_nums D _ hl hz]
  have : D[A.length + j]? = some B[j] := by
    rw [hD, List.getElem?_append_right (by omega), Nat.add_sub_cancel_left, List.getElem?_append_left hj, List.getElem?_eq_getElem hj]
  rw [List.getElem?_eq_getElem hl] at this
  exact Option.some.inj this
theorem zag_zig (d : Int) : 0 ≤ zig d ∧ zag (zig d) = d := by
  unfold zig zag
  split <;> split <;> omega
/-- A number that is laid is read. -/
theorem vl_read {s : ByteArray} {i n0 : Nat} (hn : n0 < 268435456) (h : ∀ j, (hj : j < (vl n0).length) → (bt s (i + j) : Int) = (vl n0)[j] ∧ i + j < s.size) :
    bad7 s i = false ∧ num7 s i = n0 ∧ kk s i + 1 = (vl n0).length := by
  have key : ∀ k, kk s i = k → k ≤ 3 → i + k < s.size → (k = 0 ∨ bt s (i + k) ≠ 0) → acc7 s i (k + 1) = n0 → (vl n0).length = k + 1 → bad7 s i = false ∧ num7 s i = n0 ∧ kk s i + 1 = (vl n0).length := by
    intro k h1 h2 h3 h4 h5 h6
    refine ⟨?_, ?_, ?_⟩
    · unfold bad7; rw [h1]; exact decide_eq_false (by omega)
    · unfold num7; rw [h1]; exact h5
    · omega
  by_cases h1 : n0 < 128
  · have e := vl_last h1
    have h0 := h 0 (by rw [e]; simp)
    simp only [e, Nat.add_zero, List.getElem_cons_zero] at h0
    refine key 0 ?_ (by omega) (by omega) (.inl rfl) ?_ (by rw [e]; rfl)
    · unfold kk; rw [if_pos (by omega)]
    · simp only [acc7, Nat.add_zero, Nat.pow_zero]; omega
  by_cases h2 : n0 / 128 < 128
  · have e := (vl_more h1).trans (by rw [vl_last h2])
    have h0 := h 0 (by rw [e]; simp)
    have h1 := h 1 (by rw [e]; simp)
    simp only [e, Nat.add_zero, List.getElem_cons_zero, List.getElem_cons_succ] at h0 h1
    refine key 1 ?_ (by omega) (by omega) (.inr (by omega)) ?_ (by rw [e]; rfl)
    · unfold kk; rw [if_neg (by omega), if_pos (by omega)]
    · simp only [acc7, Nat.add_zero, Nat.pow_zero, Nat.reducePow, Nat.zero_add]; omega
  by_cases h3 : n0 / 128 / 128 < 128
  · have e := (vl_more h1).trans (by rw [vl_more h2, vl_last h3])
    have h0 := h 0 (by rw [e]; simp)
    have h1 := h 1 (by rw [e]; simp)
    have h2 := h 2 (by rw [e]; simp)
    simp only [e, Nat.add_zero, List.getElem_cons_zero, List.getElem_cons_succ] at h0 h1 h2
    refine key 2 ?_ (by omega) (by omega) (.inr (by omega)) ?_ (by rw [e]; rfl)
    · unfold kk; rw [if_neg (by omega), if_neg (by omega), if_pos (by omega)]
    · simp only [acc7, Nat.add_zero, Nat.pow_zero, Nat.reducePow, Nat.zero_add]; omega
  · have h4 : n0 / 128 / 128 / 128 < 128 := by omega
    have e := (vl_more h1).trans (by rw [vl_more h2, vl_more h3, vl_last h4])
    have h0 := h 0 (by rw [e]; simp)
    have h1 := h 1 (by rw [e]; simp)
    have h2 := h 2 (by rw [e]; simp)
    have h3 := h 3 (by rw [e]; simp)
    simp only [e, Nat.add_zero, List.getElem_cons_zero, List.getElem_cons_succ] at h0 h1 h2 h3
    refine key 3 ?_ (by omega) (by omega) (.inr (by omega)) ?_ (by rw [e]; rfl)
    · unfold kk; rw [if_neg (by omega), if_neg (by omega), if_neg (by omega), if_pos (by omega)]
    · simp only [acc7, Nat.add_zero, Nat.pow_zero, Nat.reducePow, Nat.zero_add]; omega
theorem stp_pre (l : List Int) (x : List Int × Int) : ∃ R, (l.foldl stp x).1 = x.1 ++ R := by
  induction l generalizing x with
  | nil => exact ⟨[], by simp⟩
  | cons p t ih =>
    obtain ⟨R, hR⟩ := ih (stp x p)
    exact ⟨vl (zig (p - x.2)).toNat ++ R, by rw [List.foldl_cons, hR]; simp [stp]⟩
theorem encSt_pre (l : List Int) (k : Nat) : ∃ R, (encSt l).1 = (encSt (l.take k)).1 ++ R := by
  obtain ⟨R, hR⟩ := stp_pre (l.drop k) (encSt (l.take k))
  refine ⟨R, ?_⟩
  rw [← hR]
  unfold encSt
  rw [← List.foldl_append, List.take_append_drop]
theorem encSt_byte (l : List Int) : ∀ x ∈ (encSt l).1, 0 ≤ x ∧ x < 256 := by
  have key : ∀ (l : List Int) (y : List Int × Int), (∀ x ∈ y.1, 0 ≤ x ∧ x < 256) → ∀ x ∈ (l.foldl stp y).1, 0 ≤ x ∧ x < 256 := by
    intro l
    induction l with
    | nil => intro y h; exact h
    | cons p t ih =>
      intro y h
      rw [List.foldl_cons]
      apply ih
      intro x hx
      simp only [stp, List.mem_append] at hx
      rcases hx with hx | hx
      · exact h x hx
      · exact vl_byte _ x hx
  exact key l ([], 64) (by simp)
theorem steps_back (l : List Int) (hl : ∀ x ∈ l, isPt x = true) (k : Nat) (hk : k ≤ l.length) :
    dst (strOfNums (encSt l).1) k = ⟨l.take k, (encSt (l.take k)).2, (encSt (l.take k)).1.length⟩ ∧ k ≤ (encSt (l.take k)).1.length := by
  induction k with
  | zero => exact ⟨rfl, Nat.zero_le _⟩
  | succ k ih =>
    obtain ⟨ih1, ih2⟩ := ih (by omega)
    have hlt : k < l.length := by omega
    have hp : isPt (nth l k) = true := hl _ (by simp [nth, List.getD, hlt])
    have hf := encSt_bd (l.take k) (fun x hx => hl x (List.mem_of_mem_take hx))
    have hz := zig_bd hp hf.1 hf.2.1
    have ht := encSt_take l k hlt
    obtain ⟨R, hR⟩ := encSt_pre l (k + 1)
    rw [ht] at hR
    have hR' : (encSt l).1 = (encSt (l.take k)).1 ++ (vl (zig (nth l k - (encSt (l.take k)).2)).toNat ++ R) := by rw [hR]; simp [stp]
    have hn0 : (zig (nth l k - (encSt (l.take k)).2)).toNat < 268435456 := by omega
    have hrd := vl_read (s := strOfNums (encSt l).1) (i := (encSt (l.take k)).1.length) hn0 (fun j hj => bt_mid hR' (encSt_byte l) j hj)
    have hv := vl_len _ hn0
    have h0 := (bt_mid hR' (encSt_byte l) 0 (by omega)).2
    have hzz := (zag_zig (nth l k - (encSt (l.take k)).2)).2
    have hnum : (encSt (l.take k)).2 + zag ((num7 (strOfNums (encSt l).1) (encSt (l.take k)).1.length : Nat) : Int) = nth l k := by
      rw [hrd.2.1, Int.toNat_of_nonneg hz.1, hzz]; omega
    have e := dst_succ (s := strOfNums (encSt l).1) (n := k) (by rw [ih1]; simpa using h0) (by rw [ih1]; exact hrd.1) (by rw [ih1]; simp only []; rw [hnum]; exact hp)
    rw [ih1] at e
    simp only [] at e
    rw [hnum] at e
    rw [ht]
    refine ⟨?_, ?_⟩
    · rw [e]
      have e2 : l.take (k + 1) = l.take k ++ [nth l k] := by
        rw [List.take_succ_eq_append_getElem hlt]; simp [nth, List.getD, hlt]
      simp only [stp, List.length_append]
      rw [e2, ← hrd.2.2]
      simp only [Nat.add_assoc]
    · simp only [stp, List.length_append]; omega
theorem dans_back (l : List Int) (hl : ∀ x ∈ l, isPt x = true) : dans (strOfNums (encSt l).1) = legA (textL l) := by
  obtain ⟨h1, h2⟩ := steps_back l hl l.length (Nat.le_refl _)
  rw [List.take_length] at h1 h2
  have e := dst_stop (s := strOfNums (encSt l).1) (n := l.length) (by rw [strOfNums_size]; exact h2) (by rw [h1, strOfNums_size]; intro h; exact absurd h.1 (Nat.lt_irrefl _))
  unfold dans
  rw [e, h1, if_neg (by rw [strOfNums_size]; exact Nat.lt_irrefl _)]
  rfl
/-- What comes of a text that is written by steps and read back. -/
theorem stepsD_back (l : List Int) (hl : ∀ x ∈ l, isPt x = true) (hs : (encSt l).1.length ≤ 65536) : stepsD (strOfNums (encSt l).1) = legA (textL l) := by
  unfold stepsD
  rw [if_neg (by rw [strOfNums_size]; omega)]
  exact dans_back l hl
end Go.Proofs.YtohpifhpfijmcaaDoor
