/- All points that have a point's cases: the program's list and the specification's. No Go in sight. -/
import Derived.Test.YtecbbifepbgmlaaDoorME
namespace Go.Proofs.YtecbbifepbgmlaaDoor
namespace Cas
/-- The specification's word for what all cases of a point share. -/
def root (p : Int) : Int := if 0 < bl p ∧ p % 256 = 97 then p - 97 + 50 else lowS p
/-- The program's. -/
def rootI (p : Int) : Int := if tw p = 609 then 562 + p - tw p else lowS p
theorem root_eq (p : Int) : rootI p = root p := by
  unfold rootI root
  rcases tw_bl p with ⟨h1, h2, e1, e2⟩ | ⟨h1, e1, e2⟩
  · rw [e1, e2]
    by_cases c : p % 256 = 97
    · rw [if_pos (by omega), if_pos (by omega)]; omega
    · rw [if_neg (by omega), if_neg (by omega)]
  · rw [e1, e2, if_neg (by omega), if_neg (by omega)]
def oth (l : Int) : List Int := if 97 ≤ l ∧ l ≤ 122 then [9728 + l - 97] else if tw l = 562 then [609 + l - tw l] else []
def raw (l : Int) : List Int := oth l ++ [upS l, titS l, l]
/-- A number put in, from behind. -/
def inB (x : Int) : List Int → List Int
  | [] => [x]
  | y :: l => if x < y then y :: inB x l else x :: y :: l
/-- A row in order, the last one first. -/
def srB : List Int → List Int → List Int
  | acc, [] => acc
  | acc, x :: l => srB (inB x acc) l
/-- A row in order. -/
def srt (L : List Int) : List Int := (srB [] L).reverse
theorem inB_mem (x y : Int) (l : List Int) : y ∈ inB x l ↔ y = x ∨ y ∈ l := by
  induction l with
  | nil => simp [inB]
  | cons z l ih =>
    unfold inB
    split
    · rw [List.mem_cons, ih, List.mem_cons]
      constructor
      · rintro (h | h | h)
        · exact .inr (.inl h)
        · exact .inl h
        · exact .inr (.inr h)
      · rintro (h | h | h)
        · exact .inr (.inl h)
        · exact .inl h
        · exact .inr (.inr h)
    · simp
theorem inB_len (x : Int) (l : List Int) : (inB x l).length = l.length + 1 := by
  induction l with
  | nil => rfl
  | cons z l ih =>
    unfold inB
    split
    · simp [ih]
    · simp
theorem inB_srt (x : Int) (l : List Int) (h : l.Pairwise (fun a b => b ≤ a)) : (inB x l).Pairwise (fun a b => b ≤ a) := by
  induction l with
  | nil => simp [inB]
  | cons z l ih =>
    rw [List.pairwise_cons] at h
    unfold inB
    split
    · rw [List.pairwise_cons]
      refine ⟨fun a ha => ?_, ih h.2⟩
      rcases (inB_mem x a l).1 ha with rfl | ha
      · omega
      · exact h.1 a ha
    · rw [List.pairwise_cons]
      refine ⟨fun a ha => ?_, List.pairwise_cons.2 h⟩
      rcases List.mem_cons.1 ha with rfl | ha
      · omega
      · have := h.1 a ha
        omega
theorem srB_ok (L : List Int) : ∀ acc : List Int, acc.Pairwise (fun a b => b ≤ a) → (srB acc L).Pairwise (fun a b => b ≤ a) ∧ (srB acc L).length = acc.length + L.length ∧ ∀ y, y ∈ srB acc L ↔ y ∈ acc ∨ y ∈ L := by
  induction L with
  | nil => intro acc h; exact ⟨h, by simp [srB], fun y => by simp [srB]⟩
  | cons x L ih =>
    intro acc h
    obtain ⟨h1, h2, h3⟩ := ih (inB x acc) (inB_srt x acc h)
    refine ⟨h1, ?_, fun y => ?_⟩
    · show (srB (inB x acc) L).length = _
      rw [h2, inB_len]; simp; omega
    · show y ∈ srB (inB x acc) L ↔ _
      rw [h3, inB_mem, List.mem_cons]
      constructor
      · rintro ((h | h) | h)
        · exact .inr (.inl h)
        · exact .inl h
        · exact .inr (.inr h)
      · rintro (h | h | h)
        · exact .inl (.inr h)
        · exact .inl (.inl h)
        · exact .inr h
theorem srt_ok (L : List Int) : (srt L).Pairwise (· ≤ ·) ∧ (srt L).length = L.length ∧ ∀ y, y ∈ srt L ↔ y ∈ L := by
  obtain ⟨h1, h2, h3⟩ := srB_ok L [] List.Pairwise.nil
  refine ⟨by unfold srt; rw [List.pairwise_reverse]; exact h1, by unfold srt; simpa using h2, fun y => by unfold srt; rw [List.mem_reverse, h3]; simp⟩
/-- A row without what comes twice side by side (a: what came last). -/
def cpt (a : Int) : List Int → List Int
  | [] => []
  | x :: l => if x = a then cpt a l else x :: cpt x l
def cmp (L : List Int) : List Int := match L with | [] => [] | x :: l => x :: cpt x l
theorem cpt_ok (l : List Int) : ∀ a : Int, (a :: l).Pairwise (· ≤ ·) → (a :: cpt a l).Pairwise (· < ·) ∧ ∀ y, y ∈ a :: cpt a l ↔ y ∈ a :: l := by
  induction l with
  | nil => intro a _; exact ⟨by simp [cpt], fun y => by simp [cpt]⟩
  | cons x l ih =>
    intro a h
    rw [List.pairwise_cons] at h
    unfold cpt
    by_cases e : x = a
    · rw [if_pos e]
      obtain ⟨h1, h2⟩ := ih a (by rw [← e]; exact h.2)
      refine ⟨h1, fun y => ?_⟩
      rw [h2]
      simp [e]
    · rw [if_neg e]
      obtain ⟨h1, h2⟩ := ih x h.2
      refine ⟨?_, fun y => ?_⟩
      · rw [List.pairwise_cons]
        refine ⟨fun b hb => ?_, h1⟩
        have hxa := h.1 x (by simp)
        rcases List.mem_cons.1 hb with rfl | hb'
        · omega
        · have := (List.pairwise_cons.1 h1).1 b hb'
          omega
      · rw [List.mem_cons, h2, List.mem_cons (a := y) (b := a)]
theorem cmp_ok (L : List Int) (h : L.Pairwise (· ≤ ·)) : (cmp L).Pairwise (· < ·) ∧ ∀ y, y ∈ cmp L ↔ y ∈ L := by
  cases L with
  | nil => exact ⟨List.Pairwise.nil, fun y => Iff.rfl⟩
  | cons x l => exact cpt_ok l x h
/-- Two rising rows of the same numbers are one. -/
theorem rise_one : ∀ {a b : List Int}, a.Pairwise (· < ·) → b.Pairwise (· < ·) → (∀ y, y ∈ a ↔ y ∈ b) → a = b
  | [], [], _, _, _ => rfl
  | [], y :: b, _, _, h => by have := (h y).2 (by simp); simp at this
  | x :: a, [], _, _, h => by have := (h x).1 (by simp); simp at this
  | x :: a, y :: b, ha, hb, h => by
    rw [List.pairwise_cons] at ha hb
    have e : x = y := by
      have h1 := (h x).1 (by simp)
      have h2 := (h y).2 (by simp)
      rcases List.mem_cons.1 h1 with h1 | h1
      · exact h1
      · rcases List.mem_cons.1 h2 with h2 | h2
        · exact h2.symm
        · have := ha.1 y h2
          have := hb.1 x h1
          omega
    subst e
    rw [rise_one ha.2 hb.2 (fun z => ?_)]
    constructor
    · intro hz
      have := (h z).1 (by simp [hz])
      rcases List.mem_cons.1 this with rfl | h'
      · have := ha.1 z hz
        omega
      · exact h'
    · intro hz
      have := (h z).2 (by simp [hz])
      rcases List.mem_cons.1 this with rfl | h'
      · have := hb.1 z hz
        omega
      · exact h'
/-- The points below k that share a point's root. -/
def fl (p : Int) : Nat → List Int
  | 0 => []
  | k + 1 => if root (k : Int) = root p then fl p k ++ [(k : Int)] else fl p k
theorem fl_len (p : Int) (k : Nat) : (fl p k).length ≤ k := by
  induction k with
  | zero => exact Nat.le_refl _
  | succ k ih =>
    unfold fl
    split
    · simp; omega
    · omega
theorem fl_ok (p : Int) (k : Nat) : (fl p k).Pairwise (· < ·) ∧ ∀ y, y ∈ fl p k ↔ 0 ≤ y ∧ y < k ∧ root y = root p := by
  induction k with
  | zero => exact ⟨List.Pairwise.nil, fun y => ⟨fun h => by simp [fl] at h, fun h => by omega⟩⟩
  | succ k ih =>
    unfold fl
    by_cases h : root (k : Int) = root p
    · rw [if_pos h]
      refine ⟨?_, fun y => ?_⟩
      · rw [List.pairwise_append]
        refine ⟨ih.1, by simp, fun a ha b hb => ?_⟩
        simp at hb
        have := ((ih.2 a).1 ha).2.1
        omega
      · rw [List.mem_append, ih.2]
        constructor
        · rintro (⟨h1, h2, h3⟩ | h1)
          · exact ⟨h1, by omega, h3⟩
          · simp at h1
            rw [h1]
            exact ⟨by omega, by omega, h⟩
        · rintro ⟨h1, h2, h3⟩
          by_cases e : y = k
          · right; simp [e]
          · exact .inl ⟨h1, by omega, h3⟩
    · rw [if_neg h]
      refine ⟨ih.1, fun y => ?_⟩
      rw [ih.2]
      constructor
      · rintro ⟨h1, h2, h3⟩
        exact ⟨h1, by omega, h3⟩
      · rintro ⟨h1, h2, h3⟩
        have : y ≠ k := fun e => h (by rw [← e]; exact h3)
        exact ⟨h1, by omega, h3⟩
def okC (p : Int) : Bool := decide (p ∈ raw (root p)) && (raw (root p)).all fun x => decide (root x = root p ∧ 0 ≤ x ∧ x ≤ 32767)
def okCR (a n : Nat) : Bool := (List.range n).all fun i => okC ((a + i : Nat) : Int)
theorem okC_65 : okCR 65 58 = true := by decide +kernel
theorem okC_512 : okCR 512 256 = true := by decide +kernel
theorem okC_768 : okCR 768 256 = true := by decide +kernel
theorem okC_1024 : okCR 1024 256 = true := by decide +kernel
theorem okC_8192 : okCR 8192 391 = true := by decide +kernel
theorem okC_8583 : okCR 8583 391 = true := by decide +kernel
theorem okC_8974 : okCR 8974 391 = true := by decide +kernel
theorem okC_9365 : okCR 9365 389 = true := by decide +kernel
theorem okC_at {a n : Nat} (h : okCR a n = true) {p : Int} (h0 : (a : Int) ≤ p) (h1 : p < a + n) : okC p = true := by
  have h2 := List.all_eq_true.1 h (p.toNat - a) (by simp; omega)
  have e : ((a + (p.toNat - a) : Nat) : Int) = p := by omega
  rw [e] at h2
  exact h2
theorem okC_near {p : Int} (h : ¬ (p < 65 ∨ (90 < p ∧ p < 97) ∨ (122 < p ∧ p < 512) ∨ (1280 ≤ p ∧ p < 8192) ∨ 9754 ≤ p)) : okC p = true := by
  have hd : (65 ≤ p ∧ p < 123) ∨ (512 ≤ p ∧ p < 768) ∨ (768 ≤ p ∧ p < 1024) ∨ (1024 ≤ p ∧ p < 1280) ∨ (8192 ≤ p ∧ p < 8583) ∨ (8583 ≤ p ∧ p < 8974) ∨ (8974 ≤ p ∧ p < 9365) ∨ (9365 ≤ p ∧ p < 9754) := by omega
  rcases hd with h | h | h | h | h | h | h | h
  · exact okC_at okC_65 (by omega) (by omega)
  · exact okC_at okC_512 (by omega) (by omega)
  · exact okC_at okC_768 (by omega) (by omega)
  · exact okC_at okC_1024 (by omega) (by omega)
  · exact okC_at okC_8192 (by omega) (by omega)
  · exact okC_at okC_8583 (by omega) (by omega)
  · exact okC_at okC_8974 (by omega) (by omega)
  · exact okC_at okC_9365 (by omega) (by omega)
theorem far_is {p : Int} (h : p < 65 ∨ (90 < p ∧ p < 97) ∨ (122 < p ∧ p < 512) ∨ (1280 ≤ p ∧ p < 8192) ∨ 9754 ≤ p) : root p = p ∧ raw p = [p, p, p] := by
  have ht : tw p = p := by unfold tw; rw [if_neg (by omega)]
  have e1 : three p = none := by
    unfold three; rw [if_neg (by omega), if_neg (by omega), if_neg (by omega), if_pos (by omega)]
  have e2 : bl p = 0 := by unfold bl; rw [if_pos (by omega)]
  have e3 : lowS p = p := by unfold lowS; rw [e1, if_neg (by omega)]
  have e4 : upS p = p := by unfold upS; rw [e1, e2, if_neg (by omega)]
  have e5 : titS p = p := by unfold titS; rw [e1, e2, if_neg (by omega)]
  refine ⟨by unfold root; rw [e2, e3, if_neg (by omega)], ?_⟩
  unfold raw oth
  rw [e4, e5, ht, if_neg (by omega), if_neg (by omega)]
  rfl
/-- What a point's cases are. -/
theorem raw_root {p : Int} (h0 : 0 ≤ p) : p ∈ raw (root p) ∧ ∀ x ∈ raw (root p), root x = root p ∧ 0 ≤ x ∧ (p ≤ 32767 → x ≤ 32767) := by
  by_cases h : p < 65 ∨ (90 < p ∧ p < 97) ∨ (122 < p ∧ p < 512) ∨ (1280 ≤ p ∧ p < 8192) ∨ 9754 ≤ p
  · obtain ⟨e1, e2⟩ := far_is h
    rw [e1, e2]
    refine ⟨by simp, fun x hx => ?_⟩
    simp at hx
    subst hx
    exact ⟨e1, h0, fun h => h⟩
  · have h2 := okC_near h
    unfold okC at h2
    rw [Bool.and_eq_true, decide_eq_true_eq, List.all_eq_true] at h2
    refine ⟨h2.1, fun x hx => ?_⟩
    have := h2.2 x hx
    rw [decide_eq_true_eq] at this
    exact ⟨this.1, this.2.1, fun _ => this.2.2⟩
/-- What CasesOf tells of a point. -/
def csA (p : Int) : List Int := cmp (srt (raw (root p)))
def csS (p : Int) : List Int := fl p 32768 ++ (if 32767 < p then [p] else [])
theorem root_low {x : Int} (h0 : 0 ≤ x) (h1 : x ≤ 32767) : root x ≤ 32767 := by
  have h := (raw_root h0).2 (root x) (by unfold raw; simp)
  exact h.2.2 h1
theorem cs_eq {p : Int} (h0 : 0 ≤ p) : csA p = csS p := by
  obtain ⟨s1, _, s3⟩ := srt_ok (raw (root p))
  obtain ⟨c1, c2⟩ := cmp_ok _ s1
  obtain ⟨f1, f2⟩ := fl_ok p 32768
  obtain ⟨r1, r2⟩ := raw_root h0
  unfold csA csS
  by_cases h : 32767 < p
  · obtain ⟨e1, e2⟩ := far_is (p := p) (by omega)
    have e3 : fl p 32768 = [] := by
      refine List.eq_nil_iff_forall_not_mem.2 fun y hy => ?_
      obtain ⟨a1, a2, a3⟩ := (f2 y).1 hy
      have := root_low a1 (by omega)
      omega
    rw [if_pos h, e1, e2, e3]
    have es : srt [p, p, p] = [p, p, p] := by simp [srt, srB, inB]
    rw [es]
    simp [cmp, cpt]
  · rw [if_neg h, List.append_nil]
    refine rise_one c1 f1 fun y => ?_
    rw [c2, s3, f2]
    constructor
    · intro hy
      obtain ⟨a1, a2, a3⟩ := r2 y hy
      have := a3 (by omega)
      exact ⟨a2, by omega, a1⟩
    · rintro ⟨a1, a2, a3⟩
      have := (raw_root a1).1
      rwa [a3] at this
end Cas
end Go.Proofs.YtecbbifepbgmlaaDoor
