/- The quick check: no Go in sight. -/
import Derived.Test.YtncfjpdbfojfoaaDoorEquP
import Derived.Test.YtncfjpdbfojfoaaDoorWelP
namespace Go.Proofs.YtncfjpdbfojfoaaDoor
open Go.RowKit
/-- A point by itself in its own form, as the program asks it. -/
def ownB (f p : Int) : Bool := decide ((pairZ (isK f) p).1 = p) || (isC f && decide (pairP (pairZ (isK f) p).1 (pairZ (isK f) p).2 = p))
theorem pairZ_none {k : Bool} {p : Int} (h : partsZ k p = []) : pairZ k p = (p, -1) := by unfold pairZ; rw [h]
theorem pairZ_one {k : Bool} {p a : Int} (h : partsZ k p = [a]) : pairZ k p = (a, -1) := by unfold pairZ; rw [h]
theorem pairZ_two {k : Bool} {p a b : Int} (h : partsZ k p = [a, b]) : pairZ k p = (a, b) := by unfold pairZ; rw [h]
theorem cmp_one (x : Int) : cmpQ [x] = ([x], if clsZ x = 0 then 0 else -1) := by
  have e : cmpQ [x] = stepC ([], -1) x := rfl
  rw [e, stepC, if_neg (by intro h; have := h.1; simp [opn] at this)]
  rfl
theorem cmp_more {L : List Int} {a b : Int} (h : cmpQ L = ([a], 0)) (hp : 0 ≤ pairP a b) : cmpQ (L ++ [b]) = ([pairP a b], 0) := by
  rw [cmpQ_snoc, h, stepC]
  have e : nth ([a], (0 : Int)).1 ([a], (0 : Int)).2.toNat = a := rfl
  rw [e, if_pos ⟨rfl, hp⟩]
  rfl
theorem letNo_letter {i : Int} (h : 0 ≤ i ∧ i ≤ 51) : letNo (letterZ i) = i := by
  unfold letNo letterZ
  by_cases h1 : i < 26
  · rw [if_pos h1, if_pos (by omega)]
    omega
  · rw [if_neg h1, if_neg (by omega), if_pos (by omega)]
    omega
theorem cls_low {x : Int} (h : x ≤ 1583 ∨ (1586 ≤ x ∧ x < 4096) ∨ 4152 ≤ x) : clsZ x = 0 := by
  unfold clsZ
  rw [if_neg (by omega), if_neg (by omega)]
  by_cases h1 : x < 4096
  · rw [if_pos h1]
  · rw [if_neg h1, if_neg (by omega), if_neg (by omega), if_neg (by omega), if_neg (by omega), if_neg (by omega)]
theorem pair_a {p : Int} (h : 8192 ≤ p ∧ p ≤ 8607) : pairP (letterZ ((p - 8192) / 8)) (4096 + (p - 8192) % 8) = p := by
  unfold pairP
  rw [letNo_letter (by omega), if_pos (by omega)]
  omega
theorem pair_b {p : Int} (h : 8704 ≤ p ∧ p ≤ 9119) : pairP (letterZ ((p - 8704) / 8)) (4112 + (p - 8704) % 8) = p := by
  unfold pairP
  rw [letNo_letter (by omega), if_neg (by omega), if_pos (by omega)]
  omega
theorem no_letter {a : Int} (h : 122 < a) : letNo a = -1 := by
  unfold letNo
  rw [if_neg (by omega), if_neg (by omega)]
theorem pair_c {p : Int} (h : 9216 ≤ p ∧ p ≤ 9631) : pairP (p - 512) 4096 = p := by
  unfold pairP
  rw [no_letter (by omega), if_neg (by omega), if_neg (by omega), if_pos (by omega)]
  omega
theorem pair_d {p : Int} (h : 12288 ≤ p ∧ p ≤ 23459) (h0 : (p - 12288) % 28 = 0) : pairP (1792 + (p - 12288) / 588) (1824 + (p - 12288) / 28 % 21) = p := by
  unfold pairP
  rw [no_letter (by omega), if_neg (by omega), if_neg (by omega), if_neg (by omega), if_pos (by omega)]
  omega
theorem pair_e {p : Int} (h : 12288 ≤ p ∧ p ≤ 23459) (h0 : 0 < (p - 12288) % 28) : pairP (p - (p - 12288) % 28) (1856 + (p - 12288) % 28) = p := by
  unfold pairP
  rw [no_letter (by omega), if_neg (by omega), if_neg (by omega), if_neg (by omega), if_neg (by omega), if_pos (by omega)]
  omega
theorem parts_b {p : Int} (h : 8704 ≤ p ∧ p ≤ 9119) : partsZ false p = [letterZ ((p - 8704) / 8), 4112 + (p - 8704) % 8] := by
  unfold partsZ
  rw [if_neg (by omega), if_pos (by omega)]
theorem parts_d {p : Int} (h : 12288 ≤ p ∧ p ≤ 23459) (h0 : (p - 12288) % 28 = 0) : partsZ false p = [1792 + (p - 12288) / 588, 1824 + (p - 12288) / 28 % 21] := by
  unfold partsZ
  rw [if_neg (by omega), if_neg (by omega), if_neg (by omega), if_neg (by omega), if_pos (by omega), if_neg (by omega)]
/-- What is known of the first part. -/
def FstP (a b : Int) : Prop := Bare a ∨ ∃ x y, partsZ false a = [x, y] ∧ pairP x y = a ∧ clsZ x = 0 ∧ Bare x ∧ Bare y ∧ (clsZ b = 0 ∨ clsZ y ≤ clsZ b)
/-- The parts of a point by the table come to it. -/
theorem parts_pair {p a b : Int} (h : partsZ false p = [a, b]) : pairP a b = p ∧ clsZ a = 0 ∧ FstP a b := by
  unfold partsZ at h
  by_cases h1 : 8192 ≤ p ∧ p ≤ 8607
  · rw [if_pos h1] at h
    injection h with e1 h
    injection h with e2 _
    have hl := letterZ_bd ((p - 8192) / 8) (by omega)
    rw [← e1, ← e2]
    exact ⟨pair_a h1, cls_low (by omega), .inl (.inl (by omega))⟩
  rw [if_neg h1] at h
  by_cases h2 : 8704 ≤ p ∧ p ≤ 9119
  · rw [if_pos h2] at h
    injection h with e1 h
    injection h with e2 _
    have hl := letterZ_bd ((p - 8704) / 8) (by omega)
    rw [← e1, ← e2]
    exact ⟨pair_b h2, cls_low (by omega), .inl (.inl (by omega))⟩
  rw [if_neg h2] at h
  by_cases h3 : 9216 ≤ p ∧ p ≤ 9631
  · rw [if_pos h3] at h
    injection h with e1 h
    injection h with e2 _
    rw [← e1, ← e2]
    have hl := letterZ_bd ((p - 512 - 8704) / 8) (by omega)
    refine ⟨pair_c h3, cls_low (by omega), .inr ⟨_, _, parts_b (by omega), pair_b (by omega), cls_low (by omega), .inl (by omega), .inr (.inr (by omega)), .inr ?_⟩⟩
    have e : clsZ (4112 + (p - 512 - 8704) % 8) = 220 := by
      unfold clsZ
      rw [if_neg (by omega), if_neg (by omega), if_neg (by omega), if_neg (by omega), if_pos (by omega)]
    rw [e]
    decide
  rw [if_neg h3] at h
  by_cases h4 : 9728 ≤ p ∧ p ≤ 9753
  · rw [if_pos h4] at h
    injection h with e1 h
    cases h
  rw [if_neg h4] at h
  by_cases h5 : 12288 ≤ p ∧ p ≤ 23459
  · rw [if_pos h5] at h
    by_cases h6 : 0 < (p - 12288) % 28
    · rw [if_pos h6] at h
      injection h with e1 h
      injection h with e2 _
      rw [← e1, ← e2]
      have h7 : (p - (p - 12288) % 28 - 12288) % 28 = 0 := by omega
      exact ⟨pair_e h5 h6, cls_low (by omega), .inr ⟨_, _, parts_d (by omega) h7, pair_d (by omega) h7, cls_low (by omega), .inr (.inl (by omega)), .inr (.inl (by omega)), .inl (cls_low (by omega))⟩⟩
    · rw [if_neg h6] at h
      injection h with e1 h
      injection h with e2 _
      rw [← e1, ← e2]
      exact ⟨pair_d h5 (by omega), cls_low (by omega), .inl (.inr (.inl (by omega)))⟩
  rw [if_neg h5, if_neg (by simp)] at h
  cases h
/-- With K: the table first. -/
theorem parts_k (k : Bool) (p : Int) : partsZ k p = partsZ false p ∨ (partsZ false p = [] ∧ partsZ k p = wideZ p) := by
  cases k with
  | false => exact .inl rfl
  | true =>
    unfold partsZ
    by_cases h1 : 8192 ≤ p ∧ p ≤ 8607
    · rw [if_pos h1, if_pos h1]
      exact .inl rfl
    by_cases h2 : 8704 ≤ p ∧ p ≤ 9119
    · rw [if_neg h1, if_neg h1, if_pos h2, if_pos h2]
      exact .inl rfl
    by_cases h3 : 9216 ≤ p ∧ p ≤ 9631
    · rw [if_neg h1, if_neg h1, if_neg h2, if_neg h2, if_pos h3, if_pos h3]
      exact .inl rfl
    by_cases h4 : 9728 ≤ p ∧ p ≤ 9753
    · rw [if_neg h1, if_neg h1, if_neg h2, if_neg h2, if_neg h3, if_neg h3, if_pos h4, if_pos h4]
      exact .inl rfl
    by_cases h5 : 12288 ≤ p ∧ p ≤ 23459
    · rw [if_neg h1, if_neg h1, if_neg h2, if_neg h2, if_neg h3, if_neg h3, if_neg h4, if_neg h4, if_pos h5, if_pos h5]
      exact .inl rfl
    · rw [if_neg h1, if_neg h1, if_neg h2, if_neg h2, if_neg h3, if_neg h3, if_neg h4, if_neg h4, if_neg h5, if_neg h5, if_pos rfl, if_neg (by simp)]
      exact .inr ⟨rfl, rfl⟩
theorem parts_full {k : Bool} {p : Int} (h : partsZ false p ≠ []) : partsZ k p = partsZ false p := by
  rcases parts_k k p with e | ⟨e, _⟩
  · exact e
  · exact absurd e h
theorem adj_one (a : Int) : Adj [a] := trivial
theorem adj_two {a b : Int} (h : clsZ a = 0) : Adj [a, b] := ⟨.inr (by have := cls_nonneg b; omega), trivial⟩
theorem nrmA_one (k : Bool) (p : Int) : nrmA k [p] = allF k 2 p := by rw [nrmA_cons]; exact List.append_nil _
theorem nrm_c {f : Int} {l : List Int} (h : isC f = true) : nrmL f l = (cmpQ (ordL (nrmA (isK f) l))).1 := by unfold nrmL; rw [if_pos h]
theorem nrm_d {f : Int} {l : List Int} (h : isC f = false) : nrmL f l = ordL (nrmA (isK f) l) := by unfold nrmL; rw [if_neg (by rw [h]; simp)]
/-- A point of two parts by the table is its own form, composed. -/
theorem own_two {f p a b : Int} (hc : isC f = true) (h : partsZ false p = [a, b]) (hb : Bare b) (hp : 0 ≤ p) : nrmL f [p] = [p] := by
  obtain ⟨h1, h2, h3⟩ := parts_pair h
  have hk : partsZ (isK f) p = [a, b] := by rw [parts_full (by rw [h]; simp), h]
  rw [nrm_c hc, nrmA_one, allF_two hk, allF_none (bare_none hb)]
  rcases h3 with h3 | ⟨x, y, e, h4, h5, h6, h7, h8⟩
  · rw [allF_none (bare_none h3)]
    show (cmpQ (ordL [a, b])).1 = _
    rw [ord_adj _ _ rfl (adj_two h2), show [a, b] = [a] ++ [b] from rfl, cmp_more (by rw [cmp_one, if_pos h2]) (by omega), h1]
  · have hk2 : partsZ (isK f) a = [x, y] := by rw [parts_full (by rw [e]; simp), e]
    rw [allF_two hk2, allF_none (bare_none h6), allF_none (bare_none h7)]
    show (cmpQ (ordL [x, y, b])).1 = _
    have ha : 0 ≤ pairP x y := by
      by_cases q : 0 ≤ pairP x y
      · exact q
      · have h9 := pairP_neg q
        rw [h4] at h9
        rw [h9, show partsZ false (-1) = [] by decide] at e
        cases e
    have hA : Adj [x, y, b] := ⟨.inr (by have := cls_nonneg y; omega), h8, trivial⟩
    rw [ord_adj _ _ rfl hA, show [x, y, b] = [x] ++ [y] ++ [b] from rfl, cmp_more (a := a) (by rw [cmp_more (by rw [cmp_one, if_pos h5]) ha, h4]) (by omega), h1]
theorem wide_two {p a b : Int} (h : wideZ p = [a, b]) : Bare a ∧ Bare b ∧ isSec b = false ∧ clsZ a = 0 := by
  rcases wide_cases p with e | ⟨x, e, _⟩ | ⟨x, y, e, _, h1, h2, h3, h4⟩
  · rw [e] at h
    cases h
  · rw [e] at h
    cases h
  · rw [e] at h
    injection h with e1 h
    injection h with e2 _
    rw [← e1, ← e2]
    exact ⟨.inl ⟨h1, h2⟩, .inl ⟨h3, h4⟩, decide_eq_false (by omega), cls_low (by omega)⟩
theorem own_iff (f p : Int) (hp : 0 ≤ p) : nrmL f [p] = [p] ↔ ownB f p = true := by
  rcases parts_cases (isK f) p with e | ⟨a, e, hne, ha⟩ | ⟨a, b, e, hne, ha, hb⟩
  · have h1 : nrmL f [p] = [p] := by
      have e2 : nrmA (isK f) [p] = [p] := by rw [nrmA_one, allF_none e]
      cases hc : isC f with
      | false => rw [nrm_d hc, e2]; exact ord_adj _ _ rfl (adj_one _)
      | true => rw [nrm_c hc, e2, ord_adj _ _ rfl (adj_one _), cmp_one]
    have h2 : ownB f p = true := by unfold ownB; rw [pairZ_none e]; simp
    exact ⟨fun _ => h2, fun _ => h1⟩
  · have h1 : nrmL f [p] = [a] := by
      have e2 : nrmA (isK f) [p] = [a] := by rw [nrmA_one, allF_one e, allF_none (bare_none ha)]
      cases hc : isC f with
      | false => rw [nrm_d hc, e2]; exact ord_adj _ _ rfl (adj_one _)
      | true => rw [nrm_c hc, e2, ord_adj _ _ rfl (adj_one _), cmp_one]
    have h2 : ownB f p = false := by
      unfold ownB
      rw [pairZ_one e]
      simp only
      rw [pair_sec (show isSec (-1) = false by decide), decide_eq_false hne, decide_eq_false (show ¬ (-1 : Int) = p by omega)]
      simp
    rw [h1, h2]
    exact ⟨fun h => by injection h with h _; exact absurd h hne, fun h => by cases h⟩
  · cases hc : isC f with
    | false =>
      have h1 : ¬ nrmL f [p] = [p] := by
        intro h
        have := congrArg List.length h
        rw [nrm_d hc, ordL_len, nrmA_one, allF_two e, List.length_append, List.length_singleton] at this
        have h3 := (allF_len (isK f) 1 a).1
        have h4 := (allF_len (isK f) 1 b).1
        omega
      have h2 : ownB f p = false := by
        unfold ownB
        rw [pairZ_two e, hc]
        simp only
        rw [decide_eq_false hne]
        simp
      rw [h2]
      exact ⟨fun h => absurd h h1, fun h => by cases h⟩
    | true =>
      rcases parts_k (isK f) p with e2 | ⟨_, e2⟩
      · rw [e2] at e
        have h1 := own_two hc e hb hp
        have h2 : ownB f p = true := by
          unfold ownB
          rw [pairZ_two (e2.trans e), hc]
          simp only
          rw [(parts_pair e).1]
          simp
        exact ⟨fun _ => h2, fun _ => h1⟩
      · have e3 := e
        rw [e2] at e3
        obtain ⟨w1, w2, w3, w4⟩ := wide_two e3
        have h2 : ownB f p = false := by
          unfold ownB
          rw [pairZ_two e]
          simp only
          rw [pair_sec w3, decide_eq_false hne, decide_eq_false (show ¬ (-1 : Int) = p by omega)]
          simp
        have ca : clsZ a = 0 := w4
        have h1 : nrmL f [p] = [a, b] := by
          rw [nrm_c hc, nrmA_one, allF_two e, allF_none (bare_none w1), allF_none (bare_none w2)]
          show (cmpQ (ordL [a, b])).1 = _
          have hn : ¬ (opn [a] 0 b = true ∧ 0 ≤ pairP (nth [a] (0 : Int).toNat) b) := by
            intro h
            have h3 := h.2
            rw [pair_sec w3] at h3
            omega
          rw [ord_adj _ _ rfl (adj_two ca), show [a, b] = [a] ++ [b] from rfl, cmpQ_snoc, cmp_one, if_pos ca, stepC, if_neg hn]
        rw [h1, h2]
        exact ⟨fun h => (by injection h with _ h; cases h), fun h => (by cases h)⟩
/-- One point more. -/
def qStep (f : Int) (q : Option (Int × Int)) (p : Int) : Option (Int × Int) :=
  match q with
  | none => none
  | some (a, o) => if (clsZ p ≠ 0 ∧ clsZ p < a) ∨ ownB f p = false then none else some (clsZ p, if isC f = true ∧ isSec p = true then 3 else o)
def qS (f : Int) (l : List Int) : Option (Int × Int) := l.foldl (qStep f) (some (0, 1))
def qOut : Option (Int × Int) → Int
  | none => 2
  | some (_, o) => o
theorem q_none (f : Int) : ∀ l : List Int, l.foldl (qStep f) none = none
  | [] => rfl
  | _ :: l => q_none f l
theorem qS_snoc (f : Int) (l : List Int) (p : Int) : qS f (l ++ [p]) = qStep f (qS f l) p := by rw [qS, List.foldl_append]; rfl
theorem qS_pre {f : Int} {l : List Int} (m : List Int) (h : qS f l = none) : qS f (l ++ m) = none := by
  unfold qS at h ⊢
  rw [List.foldl_append, h, q_none]
theorem steps_pre (s : ByteArray) (n : Nat) : ∀ m, ∃ l, (steps s (n + m)).1 = (steps s n).1 ++ l
  | 0 => ⟨[], by simp⟩
  | m + 1 => by
    obtain ⟨l, e⟩ := steps_pre s n m
    by_cases hs : (steps s (n + m)).2 < s.size
    · rw [← Nat.add_assoc, steps_next s _ hs]
      exact ⟨l ++ [(dP s (steps s (n + m)).2 : Int)], by rw [e, List.append_assoc]⟩
    · have e2 : steps s (n + m + 1) = steps s (n + m) := by
        show (if (steps s (n + m)).2 < s.size then _ else _) = _
        rw [if_neg hs]
      rw [← Nat.add_assoc, e2]
      exact ⟨l, e⟩
theorem pts_pre (s : ByteArray) (n : Nat) : ∃ l, pts s = (steps s n).1 ++ l := by
  have h1 := steps_go s (s.size + n)
  have h2 : s.size ≤ (steps s (n + s.size)).2 := by rw [Nat.add_comm]; omega
  obtain ⟨l, e⟩ := steps_pre s n s.size
  exact ⟨l, by rw [← steps_pts s _ h2, e]⟩
def qckOut (f : Int) (s : ByteArray) : Int := if 65536 < s.size ∨ isF f = false then 0 else if vB s = false then 2 else qOut (qS f (pts s))
theorem qck_no {f : Int} {s : ByteArray} (h1 : s.size ≤ 65536) (h2 : isF f = true) (h : vB s = false ∨ qS f (pts s) = none) : qckOut f s = 2 := by
  unfold qckOut
  rw [if_neg (by rw [h2]; rintro (h | h); omega; cases h)]
  rcases h with h | h
  · rw [if_pos h]
  · rw [h]
    split <;> rfl
theorem qck_yes {f : Int} {s : ByteArray} {a o : Int} (h1 : s.size ≤ 65536) (h2 : isF f = true) (h : vB s = true) (h3 : qS f (pts s) = some (a, o)) : qckOut f s = o := by
  unfold qckOut
  rw [if_neg (by rw [h2]; rintro (h | h); omega; cases h), if_neg (by rw [h]; simp), h3]
  rfl
end Go.Proofs.YtncfjpdbfojfoaaDoor
