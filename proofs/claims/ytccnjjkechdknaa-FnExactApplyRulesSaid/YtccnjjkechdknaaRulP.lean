/- A rule done on a row of glyphs, step by step. No Go in sight. -/
import Derived.Test.YtccnjjkechdknaaRulG
import Derived.Test.YtccnjjkechdknaaRulD
namespace Go.Proofs.Ytccnjjkechdknaa.Rul
set_option linter.unusedVariables false
/-- The first k numbers of L stand in G from o on. -/
def bwk (G : List Gl) (o : Nat) (L : List Int) : Nat → Bool
  | 0 => true
  | k + 1 => bwk G o L k && ((gat G (o + k)).1 == nth L k)
def atq (G : List Gl) (o : Nat) (L : List Int) : Bool := decide (o + L.length ≤ G.length) && bwk G o L L.length
theorem bwk_bad {G : List Gl} {o : Nat} {L : List Int} {k j : Nat} (hj : j < k) (h : ((gat G (o + j)).1 == nth L j) = false) : bwk G o L k = false := by
  induction k with
  | zero => omega
  | succ k ih =>
    unfold bwk
    by_cases e : j = k
    · subst e; rw [h, Bool.and_false]
    · rw [ih (by omega), Bool.false_and]
theorem atq_long {G : List Gl} {o : Nat} {L : List Int} (h : G.length < o + L.length) : atq G o L = false := by unfold atq; rw [decide_eq_false (by omega), Bool.false_and]
theorem atq_bad {G : List Gl} {o : Nat} {L : List Int} {j : Nat} (hj : j < L.length) (h : ((gat G (o + j)).1 == nth L j) = false) : atq G o L = false := by unfold atq; rw [bwk_bad hj h, Bool.and_false]
theorem atq_good {G : List Gl} {o : Nat} {L : List Int} (h : o + L.length ≤ G.length) (hb : bwk G o L L.length = true) : atq G o L = true := by unfold atq; rw [decide_eq_true h, hb]; rfl
theorem atq_le {G : List Gl} {o : Nat} {L : List Int} (h : atq G o L = true) : o + L.length ≤ G.length := by
  unfold atq at h
  simp at h
  exact h.1
theorem gat_drop (G : List Gl) (i j : Nat) : gat (G.drop i) j = gat G (i + j) := by
  unfold gat
  rw [List.getD_eq_getElem?_getD, List.getD_eq_getElem?_getD, List.getElem?_drop]
theorem bwk_drop (G : List Gl) (i : Nat) (L : List Int) (k : Nat) : bwk (G.drop i) 0 L k = bwk G i L k := by
  induction k with
  | zero => rfl
  | succ k ih => unfold bwk; rw [ih, gat_drop, Nat.zero_add]
theorem atq_drop (G : List Gl) (i : Nat) (L : List Int) (hi : i ≤ G.length) : atq (G.drop i) 0 L = atq G i L := by
  unfold atq
  rw [bwk_drop]
  congr 1
  rw [List.length_drop]
  exact decide_eq_decide.2 (by omega)
theorem atq_nil (G : List Gl) (o : Nat) (h : o ≤ G.length) : atq G o [] = true := atq_good (by simpa using h) rfl
/-- A rule fits: A ahead, I itself, B behind; D is what is done, i how far. -/
def fit (A I B : List Int) (G : List Gl) (i : Nat) (D : List Gl) : Bool := atq G i I && (decide (A.length ≤ D.length) && atq D (D.length - A.length) A && atq G (i + I.length) B)
theorem fit_le {A I B : List Int} {G : List Gl} {i : Nat} {D : List Gl} (h : fit A I B G i D = true) : i + I.length ≤ G.length := by
  unfold fit at h
  simp at h
  exact atq_le h.1
theorem fit_plain {I : List Int} {G : List Gl} {i : Nat} {D : List Gl} : fit [] I [] G i D = atq G i I := by
  unfold fit
  cases h : atq G i I
  · rfl
  · have := atq_le h
    rw [atq_nil D _ (by simp), atq_nil G _ this]
    simp
/-- What a rule puts in the place of a glyph. -/
def mkg (g : Gl) (x : Int) : Gl := (x, g.2.1, g.2.2.1, 0, 0)
def stp (A I B P : List Int) (G : List Gl) (s : Nat × List Gl) : Nat × List Gl :=
  if s.1 < G.length then (if fit A I B G s.1 s.2 = true then (s.1 + I.length, s.2 ++ P.map (mkg (gat G s.1))) else (s.1 + 1, s.2 ++ [gat G s.1])) else s
def itr (A I B P : List Int) (G : List Gl) : Nat → Nat × List Gl
  | 0 => (0, [])
  | k + 1 => stp A I B P G (itr A I B P G k)
/-- What a rule makes of a row of glyphs. -/
def rul (A I B P : List Int) (G : List Gl) : List Gl := (itr A I B P G G.length).2
theorem itr_fit {A I B P : List Int} {G : List Gl} {k i : Nat} {D : List Gl} (h : itr A I B P G k = (i, D)) (hi : i < G.length) (hf : fit A I B G i D = true) : itr A I B P G (k + 1) = (i + I.length, D ++ P.map (mkg (gat G i))) := by
  show stp A I B P G (itr A I B P G k) = _
  rw [h]
  unfold stp
  rw [if_pos hi, if_pos hf]
theorem itr_not {A I B P : List Int} {G : List Gl} {k i : Nat} {D : List Gl} (h : itr A I B P G k = (i, D)) (hi : i < G.length) (hf : fit A I B G i D = false) : itr A I B P G (k + 1) = (i + 1, D ++ [gat G i]) := by
  show stp A I B P G (itr A I B P G k) = _
  rw [h]
  unfold stp
  rw [if_pos hi, if_neg (by rw [hf]; simp)]
theorem itr_end {A I B P : List Int} {G : List Gl} {k : Nat} (h : ¬ (itr A I B P G k).1 < G.length) (m : Nat) : itr A I B P G (k + m) = itr A I B P G k := by
  induction m with
  | zero => rfl
  | succ m ih =>
    show stp A I B P G (itr A I B P G (k + m)) = _
    rw [ih]
    unfold stp
    rw [if_neg h]
theorem itr_far {A I B P : List Int} (hI : 0 < I.length) (G : List Gl) (k : Nat) : k ≤ (itr A I B P G k).1 ∨ ¬ (itr A I B P G k).1 < G.length := by
  induction k with
  | zero => exact .inl (Nat.zero_le _)
  | succ k ih =>
    by_cases hi : (itr A I B P G k).1 < G.length
    · rcases ih with h | h
      · left
        cases hf : fit A I B G (itr A I B P G k).1 (itr A I B P G k).2
        · rw [itr_not (i := (itr A I B P G k).1) (D := (itr A I B P G k).2) rfl hi hf]; simp; omega
        · rw [itr_fit (i := (itr A I B P G k).1) (D := (itr A I B P G k).2) rfl hi hf]; simp; omega
      · exact absurd hi h
    · right
      rw [itr_end hi 1]
      exact hi
theorem rul_is {A I B P : List Int} (hI : 0 < I.length) {G : List Gl} {k i : Nat} {D : List Gl} (h : itr A I B P G k = (i, D)) (hi : ¬ i < G.length) : rul A I B P G = D := by
  unfold rul
  by_cases hk : k ≤ G.length
  · have := itr_end (A := A) (I := I) (B := B) (P := P) (G := G) (k := k) (by rw [h]; exact hi) (G.length - k)
    rw [show k + (G.length - k) = G.length by omega] at this
    rw [this, h]
  · have hl : ¬ (itr A I B P G G.length).1 < G.length := by
      rcases itr_far (A := A) (B := B) (P := P) hI G G.length with e | e
      · omega
      · exact e
    have := itr_end hl (k - G.length)
    rw [show G.length + (k - G.length) = k by omega] at this
    rw [← this, h]
theorem itr_le {A I B P : List Int} (hI : 0 < I.length) (hP : P.length ≤ 8) (G : List Gl) (k : Nat) : (itr A I B P G k).1 ≤ G.length ∧ (itr A I B P G k).2.length ≤ 8 * (itr A I B P G k).1 := by
  induction k with
  | zero => simp [itr]
  | succ k ih =>
    by_cases hi : (itr A I B P G k).1 < G.length
    · cases hf : fit A I B G (itr A I B P G k).1 (itr A I B P G k).2
      · rw [itr_not (i := (itr A I B P G k).1) (D := (itr A I B P G k).2) rfl hi hf]; simp; omega
      · have := fit_le hf
        rw [itr_fit (i := (itr A I B P G k).1) (D := (itr A I B P G k).2) rfl hi hf]; simp; omega
    · rw [itr_end hi 1]; exact ih
theorem rul_len {A I B P : List Int} (hI : 0 < I.length) (hP : P.length ≤ 8) (G : List Gl) : (rul A I B P G).length ≤ 8 * G.length := by
  have h := itr_le (A := A) (B := B) (P := P) hI hP G G.length
  unfold rul
  omega
/-- The rule i of a row of rules. -/
def rulq (Q : List (List Int)) (i : Nat) (G : List Gl) : List Gl := rul (qn Q (i * 4)) (qn Q (i * 4 + 1)) (qn Q (i * 4 + 2)) (qn Q (i * 4 + 3)) G
/-- The first k rules, one after the other, as long as there are not too many glyphs. -/
def alk (Q : List (List Int)) (G : List Gl) : Nat → List Gl
  | 0 => G
  | k + 1 => if (alk Q G k).length ≤ 1000 then rulq Q k (alk Q G k) else alk Q G k
theorem alk_more {Q : List (List Int)} {G : List Gl} {k : Nat} (h : (alk Q G k).length ≤ 1000) : alk Q G (k + 1) = rulq Q k (alk Q G k) := if_pos h
theorem alk_stop {Q : List (List Int)} {G : List Gl} {k n : Nat} (hk : k ≤ n) (h : ¬ (alk Q G k).length ≤ 1000) : alk Q G n = alk Q G k := by
  induction n with
  | zero => obtain rfl : k = 0 := by omega
            rfl
  | succ n ih =>
    by_cases e : k = n + 1
    · subst e; rfl
    · have i := ih (by omega)
      show (if (alk Q G n).length ≤ 1000 then _ else alk Q G n) = _
      rw [i, if_neg h]
/-- What ApplyRules answers. -/
def apl (n : Nat) (Q : List (List Int)) (G : List Gl) : List Gl := if G.length ≤ 1000 ∧ okR n Q = true ∧ (alk Q G n).length ≤ 1000 then alk Q G n else []
theorem okq_parts {Q : List (List Int)} {i : Nat} (h : okq Q i = true) : 0 < (qn Q (i * 4 + 1)).length ∧ (qn Q (i * 4 + 1)).length ≤ 8 ∧ (qn Q (i * 4 + 3)).length ≤ 8 ∧ (qn Q (i * 4)).length ≤ 4 ∧ (qn Q (i * 4 + 2)).length ≤ 4 := by
  unfold okq ok1 okI at h
  simp at h
  omega
end Go.Proofs.Ytccnjjkechdknaa.Rul
