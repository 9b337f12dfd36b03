/- The parts of a point. -/
namespace Go.Proofs.Ytnfdkcphmolkiaa
def letterZ (i : Int) : Int := if i < 26 then 65 + i else 97 + i - 26
def wideZ (p : Int) : List Int :=
  if 9984 ≤ p ∧ p ≤ 10009 then [p - 9984 + 65]
  else if 10016 ≤ p ∧ p ≤ 10025 then [p - 10016 + 48]
  else if p = 8064 ∨ p = 160 then [32]
  else if p = 10032 then [102, 102]
  else if p = 10033 then [102, 105]
  else if p = 10034 then [102, 108]
  else if p = 10035 then [115, 116]
  else []
/-- The parts of a point; none: it has none. -/
def partsZ (k : Bool) (p : Int) : List Int :=
  if 8192 ≤ p ∧ p ≤ 8607 then [letterZ ((p - 8192) / 8), 4096 + (p - 8192) % 8]
  else if 8704 ≤ p ∧ p ≤ 9119 then [letterZ ((p - 8704) / 8), 4112 + (p - 8704) % 8]
  else if 9216 ≤ p ∧ p ≤ 9631 then [p - 512, 4096]
  else if 9728 ≤ p ∧ p ≤ 9753 then [p - 9728 + 65]
  else if 12288 ≤ p ∧ p ≤ 23459 then (if 0 < (p - 12288) % 28 then [p - (p - 12288) % 28, 1856 + (p - 12288) % 28] else [1792 + (p - 12288) / 588, 1824 + (p - 12288) / 28 % 21])
  else if k = true then wideZ p else []
/-- As the program tells them. -/
def pairZ (k : Bool) (p : Int) : Int × Int :=
  match partsZ k p with
  | [] => (p, -1)
  | [a] => (a, -1)
  | a :: b :: _ => (a, b)
theorem letterZ_bd (i : Int) (h : 0 ≤ i ∧ i ≤ 51) : 65 ≤ letterZ i ∧ letterZ i ≤ 122 := by
  unfold letterZ
  split <;> omega
theorem wide_cases (p : Int) : wideZ p = [] ∨ (∃ a, wideZ p = [a] ∧ a ≠ p ∧ 32 ≤ a ∧ a ≤ 122) ∨ (∃ a b, wideZ p = [a, b] ∧ a ≠ p ∧ 32 ≤ a ∧ a ≤ 122 ∧ 32 ≤ b ∧ b ≤ 122) := by
  unfold wideZ
  split
  · exact .inr (.inl ⟨_, rfl, by omega, by omega, by omega⟩)
  split
  · exact .inr (.inl ⟨_, rfl, by omega, by omega, by omega⟩)
  split
  · exact .inr (.inl ⟨_, rfl, by omega, by omega, by omega⟩)
  split
  · exact .inr (.inr ⟨_, _, rfl, by omega, by omega, by omega, by omega, by omega⟩)
  split
  · exact .inr (.inr ⟨_, _, rfl, by omega, by omega, by omega, by omega, by omega⟩)
  split
  · exact .inr (.inr ⟨_, _, rfl, by omega, by omega, by omega, by omega, by omega⟩)
  split
  · exact .inr (.inr ⟨_, _, rfl, by omega, by omega, by omega, by omega, by omega⟩)
  exact .inl rfl
/-- Points without parts: letters, marks, pieces of syllables. -/
def Bare (x : Int) : Prop := (32 ≤ x ∧ x ≤ 122) ∨ (1792 ≤ x ∧ x ≤ 1883) ∨ (4096 ≤ x ∧ x ≤ 4119)
theorem bare_none {k : Bool} {x : Int} (h : Bare x) : partsZ k x = [] := by
  unfold Bare at h
  unfold partsZ
  rw [if_neg (by omega), if_neg (by omega), if_neg (by omega), if_neg (by omega), if_neg (by omega)]
  split
  · unfold wideZ
    rw [if_neg (by omega), if_neg (by omega), if_neg (by omega), if_neg (by omega), if_neg (by omega), if_neg (by omega), if_neg (by omega)]
  · rfl
/-- One step from the last: letters with one mark, syllables of two. -/
def Near (x : Int) : Prop := Bare x ∨ (8704 ≤ x ∧ x ≤ 9119) ∨ (12288 ≤ x ∧ x ≤ 23459 ∧ (x - 12288) % 28 = 0)
theorem parts_cases (k : Bool) (p : Int) : partsZ k p = [] ∨ (∃ a, partsZ k p = [a] ∧ a ≠ p ∧ Bare a) ∨ (∃ a b, partsZ k p = [a, b] ∧ a ≠ p ∧ Near a ∧ Bare b) := by
  unfold partsZ
  split
  · have := letterZ_bd ((p - 8192) / 8) (by omega)
    exact .inr (.inr ⟨_, _, rfl, by omega, .inl (by unfold Bare; omega), by unfold Bare; omega⟩)
  split
  · have := letterZ_bd ((p - 8704) / 8) (by omega)
    exact .inr (.inr ⟨_, _, rfl, by omega, .inl (by unfold Bare; omega), by unfold Bare; omega⟩)
  split
  · exact .inr (.inr ⟨_, _, rfl, by omega, .inr (.inl (by omega)), by unfold Bare; omega⟩)
  split
  · exact .inr (.inl ⟨_, rfl, by omega, by unfold Bare; omega⟩)
  split
  · split
    · exact .inr (.inr ⟨_, _, rfl, by omega, .inr (.inr (by omega)), by unfold Bare; omega⟩)
    · exact .inr (.inr ⟨_, _, rfl, by omega, .inl (by unfold Bare; omega), by unfold Bare; omega⟩)
  split
  · rcases wide_cases p with h | ⟨a, h, h1, h2, h3⟩ | ⟨a, b, h, h1, h2, h3, h4, h5⟩
    · exact .inl h
    · exact .inr (.inl ⟨a, h, h1, .inl ⟨h2, h3⟩⟩)
    · exact .inr (.inr ⟨a, b, h, h1, .inl (.inl ⟨h2, h3⟩), .inl ⟨h4, h5⟩⟩)
  · exact .inl rfl
theorem near_parts {k : Bool} {x : Int} (h : Near x) : partsZ k x = [] ∨ ∃ a b, partsZ k x = [a, b] ∧ Bare a ∧ Bare b := by
  rcases h with h | h | h
  · exact .inl (bare_none h)
  · unfold partsZ
    rw [if_neg (by omega), if_pos (by omega)]
    have := letterZ_bd ((x - 8704) / 8) (by omega)
    exact .inr ⟨_, _, rfl, by unfold Bare; omega, by unfold Bare; omega⟩
  · unfold partsZ
    rw [if_neg (by omega), if_neg (by omega), if_neg (by omega), if_neg (by omega), if_pos (by omega), if_neg (by omega)]
    exact .inr ⟨_, _, rfl, by unfold Bare; omega, by unfold Bare; omega⟩
/-- All parts to the last, at most n steps deep. -/
def allF (k : Bool) : Nat → Int → List Int
  | 0, p => [p]
  | n + 1, p => if partsZ k p = [] then [p] else (partsZ k p).flatMap (allF k n)
def deep (k : Bool) : Nat → Int → Prop
  | 0, p => partsZ k p = []
  | n + 1, p => ∀ x ∈ partsZ k p, deep k n x
theorem bare_deep {k : Bool} {x : Int} (h : Bare x) : ∀ n, deep k n x
  | 0 => bare_none h
  | n + 1 => fun y hy => by rw [bare_none h] at hy; simp at hy
theorem near_deep {k : Bool} {x : Int} (h : Near x) : deep k 1 x := fun y hy => by
  rcases near_parts (k := k) h with e | ⟨a, b, e, ha, hb⟩
  · rw [e] at hy; simp at hy
  · rw [e] at hy
    simp at hy
    rcases hy with rfl | rfl
    · exact bare_deep ha 0
    · exact bare_deep hb 0
theorem all_deep (k : Bool) (p : Int) : deep k 2 p := fun y hy => by
  rcases parts_cases k p with e | ⟨a, e, _, ha⟩ | ⟨a, b, e, _, ha, hb⟩
  · rw [e] at hy; simp at hy
  · rw [e] at hy
    simp at hy
    subst hy
    exact bare_deep ha 1
  · rw [e] at hy
    simp at hy
    rcases hy with rfl | rfl
    · exact near_deep ha
    · exact bare_deep hb 1
theorem bare_bd {x : Int} (h : Bare x) : 0 ≤ x ∧ x ≤ 1114111 := by unfold Bare at h; omega
theorem near_bd {x : Int} (h : Near x) : 0 ≤ x ∧ x ≤ 1114111 := by
  rcases h with h | h | h
  · exact bare_bd h
  · omega
  · omega
theorem parts_bd {k : Bool} {p x : Int} (h : x ∈ partsZ k p) : 0 ≤ x ∧ x ≤ 1114111 := by
  rcases parts_cases k p with e | ⟨a, e, _, ha⟩ | ⟨a, b, e, _, ha, hb⟩
  · rw [e] at h; simp at h
  · rw [e] at h
    simp at h
    subst h
    exact bare_bd ha
  · rw [e] at h
    simp at h
    rcases h with rfl | rfl
    · exact near_bd ha
    · exact bare_bd hb
theorem allF_none {k : Bool} {p : Int} (h : partsZ k p = []) : ∀ n, allF k n p = [p]
  | 0 => rfl
  | n + 1 => by unfold allF; rw [if_pos h]
theorem allF_one {k : Bool} {p a : Int} (h : partsZ k p = [a]) (n : Nat) : allF k (n + 1) p = allF k n a := by
  rw [allF, if_neg (by rw [h]; simp), h]
  simp
theorem allF_two {k : Bool} {p a b : Int} (h : partsZ k p = [a, b]) (n : Nat) : allF k (n + 1) p = allF k n a ++ allF k n b := by
  rw [allF, if_neg (by rw [h]; simp), h]
  simp
theorem allF_len (k : Bool) : ∀ n p, 1 ≤ (allF k n p).length ∧ (allF k n p).length ≤ 2 ^ n
  | 0, p => by simp [allF]
  | n + 1, p => by
    rcases parts_cases k p with e | ⟨a, e, _, _⟩ | ⟨a, b, e, _, _, _⟩
    · rw [allF_none e]
      have := Nat.one_le_two_pow (n := n + 1)
      simp
      omega
    · rw [allF_one e]
      have h1 := allF_len k n a
      rw [Nat.pow_succ]
      omega
    · rw [allF_two e, List.length_append]
      have h1 := allF_len k n a
      have h2 := allF_len k n b
      rw [Nat.pow_succ]
      omega
end Go.Proofs.Ytnfdkcphmolkiaa
