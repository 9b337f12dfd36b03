/- Costs that are right. No walk. -/
import Derived.Test.YtkcmkcokfjcedaaDoorWelQ
import Derived.Test.YtkcmkcokfjcedaaDoorStrC
namespace Go.Proofs.YtkcmkcokfjcedaaDoor.Kin
open Go.RowKit
/-- A kin that is right. -/
def okk (s : ByteArray) : Bool := vB s && decide (2 ≤ (pts s).length ∧ (pts s).length ≤ 10)
/-- The points of the first k kins. -/
def sn (K : List ByteArray) (k : Nat) : List Int := (K.take k).flatMap pts
theorem take_one {K : List ByteArray} {k : Nat} (h : k < K.length) : K.take (k + 1) = K.take k ++ [nthS K k] := by
  rw [List.take_add_one, List.getElem?_eq_getElem h]
  simp [nthS, List.getD, h]
theorem sn_succ {K : List ByteArray} {k : Nat} (h : k < K.length) : sn K (k + 1) = sn K k ++ pts (nthS K k) := by
  unfold sn
  rw [take_one h]
  simp
def okq (K : List ByteArray) (k : Nat) : Bool := (K.take k).all okk && decide ((sn K k).Nodup)
theorem okq_zero (K : List ByteArray) : okq K 0 = true := by simp [okq, sn]
theorem okq_succ {K : List ByteArray} {k : Nat} (h : k < K.length) (h1 : okq K k = true) (h2 : okk (nthS K k) = true) (h3 : (sn K k ++ pts (nthS K k)).Nodup) : okq K (k + 1) = true := by
  unfold okq at h1 ⊢
  rw [sn_succ h, take_one h, List.all_append]
  simp only [Bool.and_eq_true, decide_eq_true_eq] at h1 ⊢
  exact ⟨⟨h1.1, by simp [h2]⟩, h3⟩
theorem okq_bad {K : List ByteArray} {k : Nat} (h : k < K.length) (h2 : okk (nthS K k) = false) : okq K K.length = false := by
  unfold okq
  have hm : nthS K k ∈ K := by simp [nthS, List.getD, h]
  rw [show (K.take K.length).all okk = false from ?_]
  · rfl
  · rw [List.take_length]
    exact List.all_eq_false.2 ⟨_, hm, by simp [h2]⟩
theorem okq_dup {K : List ByteArray} {k : Nat} {L : List Int} (h : k < K.length) (hp : L <+: pts (nthS K k)) (hd : ¬ (sn K k ++ L).Nodup) : okq K K.length = false := by
  unfold okq
  rw [show decide ((sn K K.length).Nodup) = false from ?_]
  · simp
  · refine decide_eq_false fun hn => hd ?_
    have e : sn K K.length = sn K (k + 1) ++ (K.drop (k + 1)).flatMap pts := by
      unfold sn
      rw [← List.flatMap_append, List.take_length, List.take_append_drop]
    rw [e, sn_succ h] at hn
    obtain ⟨t, ht⟩ := hp
    rw [← ht] at hn
    have hn1 := (List.nodup_append.1 hn).1
    rw [← List.append_assoc] at hn1
    exact (List.nodup_append.1 hn1).1
theorem steps_grow (s : ByteArray) (n : Nat) : ∀ m, (steps s n).1 <+: (steps s (n + m)).1
  | 0 => List.prefix_refl _
  | m + 1 => by
    refine (steps_grow s n m).trans ?_
    show (steps s (n + m)).1 <+: (steps s (n + m + 1)).1
    by_cases h : (steps s (n + m)).2 < s.size
    · rw [steps_next s (n + m) h]
      exact List.prefix_append _ _
    · rw [show steps s (n + m + 1) = steps s (n + m) from if_neg h]
      exact List.prefix_refl _
theorem steps_pre (s : ByteArray) (n : Nat) : (steps s n).1 <+: pts s := by
  have h := steps_grow s n s.size
  have e : (steps s (n + s.size)).1 = pts s := by
    refine steps_pts s _ ?_
    rcases steps_go s (n + s.size) with h | h
    · omega
    · omega
  rwa [e] at h
theorem okk_size {s : ByteArray} (h : okk s = true) : s.size ≤ 40 := by
  unfold okk at h
  simp only [Bool.and_eq_true, decide_eq_true_eq] at h
  have e := wel_of h.1
  have h2 := textL_le (pts s)
  have h3 : s.size = (textL (pts s)).length := by
    have := congrArg ByteArray.size e
    rw [strOfNums_size] at this
    omega
  omega
theorem okk_big {s : ByteArray} (h : 40 < s.size) : okk s = false := by
  cases hk : okk s with
  | false => rfl
  | true => have := okk_size hk; omega
theorem sn_len {K : List ByteArray} : ∀ {k : Nat}, okq K k = true → k ≤ K.length → (sn K k).length ≤ 10 * k := by
  intro k
  induction k with
  | zero => intro _ _; simp [sn]
  | succ k ih =>
    intro h hk
    have h' := h
    unfold okq at h'
    rw [sn_succ (by omega), take_one (by omega), List.all_append] at h'
    simp only [Bool.and_eq_true, decide_eq_true_eq] at h'
    have h1 : okq K k = true := by
      unfold okq
      simp only [Bool.and_eq_true, decide_eq_true_eq]
      exact ⟨h'.1.1, (List.nodup_append.1 h'.2).1⟩
    have h2 : okk (nthS K k) = true := by simpa using h'.1.2
    unfold okk at h2
    simp only [Bool.and_eq_true, decide_eq_true_eq] at h2
    rw [sn_succ (by omega), List.length_append]
    have := ih h1 (by omega)
    omega
/-- The numbers of costs that are right. -/
def bnd (p d c k t : Int) : Bool := decide ((0 ≤ p ∧ p ≤ 1000) ∧ (0 ≤ d ∧ d ≤ 1000) ∧ (0 ≤ c ∧ c ≤ 1000) ∧ (0 ≤ k ∧ k ≤ 1000) ∧ (0 ≤ t ∧ t ≤ 1000) ∧ p ≠ 0 ∧ d ≠ 0 ∧ k ≤ c ∧ c ≤ p + d)
/-- What CostsFault tells. -/
def rgt (p d c k t : Int) (K : List ByteArray) : Bool := bnd p d c k t && (decide (K.length ≤ 50) && okq K K.length)
def cft (p d c k t : Int) (K : List ByteArray) : Int := if rgt p d c k t K = true then 0 else 1
end Go.Proofs.YtkcmkcokfjcedaaDoor.Kin
