/- The points of pairs of parts: no Go in sight. -/
import Derived.Test.YtjdginjohajmaaaGreatDoorMapP
namespace Go.Proofs.YtjdginjohajmaaaGreatDoor
/-- The number of a letter. -/
def letNo (p : Int) : Int := if 65 ≤ p ∧ p ≤ 90 then p - 65 else if 97 ≤ p ∧ p ≤ 122 then p - 97 + 26 else -1
/-- The point whose parts two are. -/
def pairP (a b : Int) : Int :=
  if 0 ≤ letNo a ∧ 4096 ≤ b ∧ b ≤ 4103 then 8192 + 8 * letNo a + b - 4096
  else if 0 ≤ letNo a ∧ 4112 ≤ b ∧ b ≤ 4119 then 8704 + 8 * letNo a + b - 4112
  else if 8704 ≤ a ∧ a < 9120 ∧ b = 4096 then a + 512
  else if 1792 ≤ a ∧ a ≤ 1810 ∧ 1824 ≤ b ∧ b ≤ 1844 then 12288 + ((a - 1792) * 21 + b - 1824) * 28
  else if 12288 ≤ a ∧ a ≤ 23459 ∧ (a - 12288) % 28 = 0 ∧ 1857 ≤ b ∧ b ≤ 1883 then a + b - 1856
  else -1
/-- A row of points. -/
def rowL (first step : Int) (n : Nat) : List Int := (List.range n).map fun (i : Nat) => first + (i : Int) * step
/-- The points of two parts of which a is the first. -/
def wholesL (a : Int) : List Int :=
  if 0 ≤ letNo a then rowL (8192 + 8 * letNo a) 1 8 ++ rowL (8704 + 8 * letNo a) 1 8
  else if 8704 ≤ a ∧ a ≤ 9119 then rowL (a + 512) 1 1
  else if 1792 ≤ a ∧ a ≤ 1810 then rowL (12288 + (a - 1792) * 21 * 28) 28 21
  else if 12288 ≤ a ∧ a ≤ 23459 ∧ (a - 12288) % 28 = 0 then rowL (a + 1) 1 27
  else []
theorem rowL_len (f s : Int) (n : Nat) : (rowL f s n).length = n := by simp [rowL]
theorem rowL_succ (f s : Int) (n : Nat) : rowL f s (n + 1) = rowL f s n ++ [f + (n : Int) * s] := by simp [rowL, List.range_succ]
theorem rowL_mem {f s : Int} {n : Nat} {x : Int} : x ∈ rowL f s n ↔ ∃ i : Nat, i < n ∧ x = f + (i : Int) * s := by
  unfold rowL
  rw [List.mem_map]
  constructor
  · rintro ⟨i, hi, rfl⟩
    exact ⟨i, List.mem_range.1 hi, rfl⟩
  · rintro ⟨i, hi, rfl⟩
    exact ⟨i, List.mem_range.2 hi, rfl⟩
theorem letNo_bd (a : Int) : letNo a = -1 ∨ (0 ≤ letNo a ∧ letNo a ≤ 51 ∧ letterZ (letNo a) = a) := by
  unfold letNo letterZ
  split
  · right
    rw [if_pos (by omega)]
    omega
  · split
    · right
      rw [if_neg (by omega)]
      omega
    · exact .inl rfl
/-- Each of them has a as its first part, and comes back from its parts. -/
theorem whole_parts {a x : Int} (h : x ∈ wholesL a) : ∃ b, partsZ false x = [a, b] ∧ pairP a b = x ∧ 0 ≤ x ∧ x ≤ 1114111 := by
  unfold wholesL at h
  by_cases h1 : 0 ≤ letNo a
  · rw [if_pos h1, List.mem_append] at h
    have hl := (letNo_bd a).resolve_left (by omega)
    obtain ⟨_, h51, hz⟩ := hl
    rcases h with h | h
    · obtain ⟨i, hi, rfl⟩ := rowL_mem.1 h
      refine ⟨4096 + (i : Int), ?_, ?_, by omega, by omega⟩
      · unfold partsZ
        rw [if_pos (by omega)]
        have e1 : (8192 + 8 * letNo a + (i : Int) * 1 - 8192) / 8 = letNo a := by omega
        have e2 : (8192 + 8 * letNo a + (i : Int) * 1 - 8192) % 8 = (i : Int) := by omega
        rw [e1, e2, hz]
      · unfold pairP
        rw [if_pos (by omega)]
        omega
    · obtain ⟨i, hi, rfl⟩ := rowL_mem.1 h
      refine ⟨4112 + (i : Int), ?_, ?_, by omega, by omega⟩
      · unfold partsZ
        rw [if_neg (by omega), if_pos (by omega)]
        have e1 : (8704 + 8 * letNo a + (i : Int) * 1 - 8704) / 8 = letNo a := by omega
        have e2 : (8704 + 8 * letNo a + (i : Int) * 1 - 8704) % 8 = (i : Int) := by omega
        rw [e1, e2, hz]
      · unfold pairP
        rw [if_neg (by omega), if_pos (by omega)]
        omega
  rw [if_neg h1] at h
  by_cases h2 : 8704 ≤ a ∧ a ≤ 9119
  · rw [if_pos h2] at h
    obtain ⟨i, hi, rfl⟩ := rowL_mem.1 h
    refine ⟨4096, ?_, ?_, by omega, by omega⟩
    · unfold partsZ
      rw [if_neg (by omega), if_neg (by omega), if_pos (by omega)]
      congr 1
      omega
    · unfold pairP
      rw [if_neg (by omega), if_neg (by omega), if_pos (by omega)]
      omega
  rw [if_neg h2] at h
  by_cases h3 : 1792 ≤ a ∧ a ≤ 1810
  · rw [if_pos h3] at h
    obtain ⟨i, hi, rfl⟩ := rowL_mem.1 h
    refine ⟨1824 + (i : Int), ?_, ?_, by omega, by omega⟩
    · unfold partsZ
      rw [if_neg (by omega), if_neg (by omega), if_neg (by omega), if_neg (by omega), if_pos (by omega), if_neg (by omega)]
      have e1 : (12288 + (a - 1792) * 21 * 28 + (i : Int) * 28 - 12288) / 588 = a - 1792 := by omega
      have e2 : (12288 + (a - 1792) * 21 * 28 + (i : Int) * 28 - 12288) / 28 % 21 = (i : Int) := by omega
      rw [e1, e2]
      congr 1
      omega
    · unfold pairP
      rw [if_neg (by omega), if_neg (by omega), if_neg (by omega), if_pos (by omega)]
      omega
  rw [if_neg h3] at h
  by_cases h4 : 12288 ≤ a ∧ a ≤ 23459 ∧ (a - 12288) % 28 = 0
  · rw [if_pos h4] at h
    obtain ⟨i, hi, rfl⟩ := rowL_mem.1 h
    refine ⟨1857 + (i : Int), ?_, ?_, by omega, by omega⟩
    · unfold partsZ
      have e1 : (a + 1 + (i : Int) * 1 - 12288) % 28 = (i : Int) + 1 := by omega
      rw [if_neg (by omega), if_neg (by omega), if_neg (by omega), if_neg (by omega), if_pos (by omega), e1, if_pos (by omega)]
      congr 1
      · omega
      · congr 1
        omega
    · unfold pairP
      rw [if_neg (by omega), if_neg (by omega), if_neg (by omega), if_neg (by omega), if_pos (by omega)]
      omega
  rw [if_neg h4] at h
  simp at h
/-- And there is no other one. -/
theorem pair_whole {a b : Int} (h : 0 ≤ pairP a b) : pairP a b ∈ wholesL a := by
  unfold pairP at h ⊢
  unfold wholesL
  have hl := letNo_bd a
  by_cases h1 : 0 ≤ letNo a ∧ 4096 ≤ b ∧ b ≤ 4103
  · rw [if_pos h1, if_pos h1.1, List.mem_append]
    exact .inl (rowL_mem.2 ⟨(b - 4096).toNat, by omega, by omega⟩)
  rw [if_neg h1] at h ⊢
  by_cases h2 : 0 ≤ letNo a ∧ 4112 ≤ b ∧ b ≤ 4119
  · rw [if_pos h2, if_pos h2.1, List.mem_append]
    exact .inr (rowL_mem.2 ⟨(b - 4112).toNat, by omega, by omega⟩)
  rw [if_neg h2] at h ⊢
  have na : ¬ (65 ≤ a ∧ a ≤ 90) → ¬ (97 ≤ a ∧ a ≤ 122) → letNo a = -1 := fun x y => by unfold letNo; rw [if_neg x, if_neg y]
  by_cases h3 : 8704 ≤ a ∧ a < 9120 ∧ b = 4096
  · have := na (by omega) (by omega)
    rw [if_pos h3, if_neg (by omega), if_pos (by omega)]
    exact rowL_mem.2 ⟨0, by omega, by omega⟩
  rw [if_neg h3] at h ⊢
  by_cases h4 : 1792 ≤ a ∧ a ≤ 1810 ∧ 1824 ≤ b ∧ b ≤ 1844
  · have := na (by omega) (by omega)
    rw [if_pos h4, if_neg (by omega), if_neg (by omega), if_pos (by omega)]
    exact rowL_mem.2 ⟨(b - 1824).toNat, by omega, by omega⟩
  rw [if_neg h4] at h ⊢
  by_cases h5 : 12288 ≤ a ∧ a ≤ 23459 ∧ (a - 12288) % 28 = 0 ∧ 1857 ≤ b ∧ b ≤ 1883
  · have := na (by omega) (by omega)
    rw [if_pos h5, if_neg (by omega), if_neg (by omega), if_neg (by omega), if_pos (by omega)]
    exact rowL_mem.2 ⟨(b - 1857).toNat, by omega, by omega⟩
  rw [if_neg h5] at h
  omega
/-- What composing takes behind another one. -/
def isSec (p : Int) : Bool := decide ((1824 ≤ p ∧ p ≤ 1844) ∨ (1857 ≤ p ∧ p ≤ 1883) ∨ (4096 ≤ p ∧ p ≤ 4103) ∨ (4112 ≤ p ∧ p ≤ 4119))
theorem pair_sec {a b : Int} (h : isSec b = false) : pairP a b = -1 := by
  have h' := of_decide_eq_false h
  unfold pairP
  rw [if_neg (by omega), if_neg (by omega), if_neg (by omega), if_neg (by omega), if_neg (by omega)]
/-- No two of the points of one first part are alike. -/
theorem wholes_nodup (a : Int) : (wholesL a).Nodup := by
  have hr : ∀ (f s : Int) (n : Nat), s ≠ 0 → (rowL f s n).Nodup := fun f s n hs => by
    unfold rowL
    refine List.Pairwise.map _ ?_ (List.nodup_range)
    intro i j hij e
    apply hij
    have h2 : (i : Int) * s = (j : Int) * s := by omega
    have := Int.eq_of_mul_eq_mul_right hs h2
    omega
  unfold wholesL
  split
  · rw [List.nodup_append]
    refine ⟨hr _ _ _ (by omega), hr _ _ _ (by omega), fun x hx y hy e => ?_⟩
    obtain ⟨i, hi, rfl⟩ := rowL_mem.1 hx
    obtain ⟨j, hj, rfl⟩ := rowL_mem.1 hy
    have := letNo_bd a
    omega
  split
  · exact hr _ _ _ (by omega)
  split
  · exact hr _ _ _ (by omega)
  split
  · exact hr _ _ _ (by omega)
  · exact List.nodup_nil
theorem pair_parts {a b : Int} (h : 0 ≤ pairP a b) : partsZ false (pairP a b) = [a, b] := by
  obtain ⟨c, hc, he, _⟩ := whole_parts (pair_whole h)
  have hi : c = b := by
    have hl := letNo_bd a
    have hn : ¬ (65 ≤ a ∧ a ≤ 90) → ¬ (97 ≤ a ∧ a ≤ 122) → letNo a = -1 := fun x y => by unfold letNo; rw [if_neg x, if_neg y]
    generalize hx : pairP a b = x at *
    unfold pairP at hx he
    by_cases p1 : 65 ≤ a ∧ a ≤ 90
    · have e : letNo a = a - 65 := if_pos p1
      rw [e] at hx he
      split at hx <;> split at he <;> repeat (first | omega | split at hx | split at he)
    · by_cases p2 : 97 ≤ a ∧ a ≤ 122
      · have e : letNo a = a - 97 + 26 := by unfold letNo; rw [if_neg p1, if_pos p2]
        rw [e] at hx he
        split at hx <;> split at he <;> repeat (first | omega | split at hx | split at he)
      · rw [hn p1 p2] at hx he
        split at hx <;> split at he <;> repeat (first | omega | split at hx | split at he)
  rw [hc, hi]
theorem pairP_neg {a b : Int} (h : ¬ 0 ≤ pairP a b) : pairP a b = -1 := by
  have hl := letNo_bd a
  unfold pairP at h ⊢
  split
  · rename_i h1
    rw [if_pos h1] at h
    omega
  rename_i h1
  rw [if_neg h1] at h
  split
  · rename_i h2
    rw [if_pos h2] at h
    omega
  rename_i h2
  rw [if_neg h2] at h
  split
  · rename_i h3
    rw [if_pos h3] at h
    omega
  rename_i h3
  rw [if_neg h3] at h
  split
  · rename_i h4
    rw [if_pos h4] at h
    omega
  rename_i h4
  rw [if_neg h4] at h
  split
  · rename_i h5
    rw [if_pos h5] at h
    omega
  rfl
/-- The second part of a point. -/
def secZ (x : Int) : Int := (pairZ false x).2
theorem whole_pair {a x : Int} (h : x ∈ wholesL a) : pairZ false x = (a, secZ x) ∧ pairP a (secZ x) = x := by
  obtain ⟨b, hb, he, _⟩ := whole_parts h
  have e : pairZ false x = (a, b) := by unfold pairZ; rw [hb]
  have e2 : secZ x = b := by unfold secZ; rw [e]
  rw [e2]
  exact ⟨e, he⟩
theorem sec_pair {a b : Int} (h : 0 ≤ pairP a b) : secZ (pairP a b) = b := by
  unfold secZ pairZ
  rw [pair_parts h]
/-- Entries of one first part. -/
def entA (a : Int) (xs : List Int) : List (Int × Int × Int) := xs.map fun x => (a, secZ x, x)
theorem entA_snoc (a : Int) (xs : List Int) (x : Int) : entA a (xs ++ [x]) = entA a xs ++ [(a, secZ x, x)] := by simp [entA]
def HasA (a : Int) (D : List (Int × Int × Int)) : Prop := ∃ t ∈ D, t.1 = a
/-- A book that tells the truth, and of a first part all or nothing. -/
def Good (D : List (Int × Int × Int)) : Prop := (∀ t ∈ D, pairP t.1 t.2.1 = t.2.2 ∧ 0 ≤ t.2.2) ∧ ∀ a, HasA a D → ∀ x ∈ wholesL a, (a, secZ x, x) ∈ D
theorem good_nil : Good [] := ⟨by simp, fun a h => by obtain ⟨t, ht, _⟩ := h; simp at ht⟩
theorem good_more {D : List (Int × Int × Int)} (h : Good D) (a : Int) : Good (D ++ entA a (wholesL a)) := by
  refine ⟨fun t ht => ?_, fun c hc x hx => ?_⟩
  · rcases List.mem_append.1 ht with ht | ht
    · exact h.1 t ht
    · obtain ⟨x, hx, rfl⟩ := List.mem_map.1 ht
      obtain ⟨b, _, _, h0, _⟩ := whole_parts hx
      exact ⟨(whole_pair hx).2, h0⟩
  · by_cases e : c = a
    · subst e
      exact List.mem_append.2 (.inr (List.mem_map.2 ⟨x, hx, rfl⟩))
    · obtain ⟨t, ht, he⟩ := hc
      rcases List.mem_append.1 ht with ht | ht
      · exact List.mem_append.2 (.inl (h.2 c ⟨t, ht, he⟩ x hx))
      · obtain ⟨y, _, rfl⟩ := List.mem_map.1 ht
        exact (e he.symm).elim
theorem findD_none {a b : Int} : ∀ {D : List (Int × Int × Int)} {i : Nat}, findD a b D i = none → ∀ t ∈ D, ¬ (a = t.1 ∧ b = t.2.1)
  | [], _, _, t, ht => by simp at ht
  | u :: r, i, h, t, ht => by
    unfold findD at h
    by_cases hc : a = u.1 ∧ b = u.2.1
    · rw [if_pos hc] at h; cases h
    · rw [if_neg hc] at h
      rcases List.mem_cons.1 ht with rfl | ht
      · exact hc
      · exact findD_none h t ht
theorem findD_some {a b : Int} : ∀ {D : List (Int × Int × Int)} {i : Nat} {y : Nat × Value}, findD a b D i = some y → ∃ t ∈ D, a = t.1 ∧ b = t.2.1 ∧ y.2 = .int .i64 t.2.2
  | [], _, _, h => by simp [findD] at h
  | u :: r, i, y, h => by
    unfold findD at h
    by_cases hc : a = u.1 ∧ b = u.2.1
    · rw [if_pos hc] at h
      injection h with h
      exact ⟨u, by simp, hc.1, hc.2, by rw [← h]⟩
    · rw [if_neg hc] at h
      obtain ⟨t, ht, r⟩ := findD_some h
      exact ⟨t, by simp [ht], r⟩
theorem find_good {D : List (Int × Int × Int)} (h : Good D) (a b : Int) (hA : HasA a D ∨ wholesL a = []) : (0 ≤ pairP a b → ∃ j, findD a b D 0 = some (j, .int .i64 (pairP a b))) ∧ (¬ 0 ≤ pairP a b → findD a b D 0 = none) := by
  constructor
  · intro h0
    have hx := pair_whole h0
    have hA' : HasA a D := hA.resolve_right (fun e => by rw [e] at hx; simp at hx)
    have hm := h.2 a hA' _ hx
    rw [sec_pair h0] at hm
    cases hf : findD a b D 0 with
    | none => exact (findD_none hf _ hm ⟨rfl, rfl⟩).elim
    | some y =>
      obtain ⟨t, ht, e1, e2, e3⟩ := findD_some hf
      obtain ⟨j, v⟩ := y
      refine ⟨j, ?_⟩
      have e4 := (h.1 t ht).1
      rw [← e1, ← e2] at e4
      rw [e4]
      congr 2
  · intro h0
    cases hf : findD a b D 0 with
    | none => rfl
    | some y =>
      obtain ⟨t, ht, e1, e2, _⟩ := findD_some hf
      have e4 := h.1 t ht
      rw [← e1, ← e2] at e4
      exact (h0 (by rw [e4.1]; exact e4.2)).elim
end Go.Proofs.YtjdginjohajmaaaGreatDoor
