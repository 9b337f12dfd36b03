/- Sizes of texts in a form, and what FnEquivalent asks of two texts: no Go in sight. -/
import Derived.Test.YtncfjpdbfojfoaaDoorEquP
namespace Go.Proofs.YtncfjpdbfojfoaaDoor
open Go.RowKit
def wid (l : List Int) : Nat := (textL l).length
theorem wid_app (a b : List Int) : wid (a ++ b) = wid a + wid b := by
  unfold wid textL
  rw [List.flatMap_append, List.length_append]
theorem wid_cons (p : Int) (l : List Int) : wid (p :: l) = (Lib.encodeRuneZ p).length + wid l := by
  unfold wid textL
  rw [List.flatMap_cons, List.length_append]
theorem wid_nil : wid [] = 0 := rfl
theorem wid_ord : ∀ (n : Nat) (L : List Int), L.length = n → wid (ordL L) = wid L
  | 0, L, h => by
    obtain rfl := List.length_eq_zero_iff.1 h
    rfl
  | n + 1, L, h => by
    rcases snoc_cases L with rfl | ⟨L', x, rfl⟩
    · simp at h
    · have ih := wid_ord n L' (by simpa using h)
      rw [ordL_snoc, wid_app]
      by_cases hx : clsZ x = 0
      · rw [insO_zero _ hx, wid_app, ih]
      · obtain ⟨Z1, Z2, e, h2, h1⟩ := split_last x _ (ordL L') rfl
        rw [e] at ih
        rw [e, insO_at hx h2 h1, wid_app, wid_cons, ← ih, wid_app, wid_cons, wid_nil]
        omega
theorem enc3 {p : Int} (h0 : 2048 ≤ p) (h1 : p < 55296) : (Lib.encodeRuneZ p).length = 3 := by rw [Lib.encodeRuneZ_three (.inl ⟨h0, h1⟩)]; rfl
theorem enc_le3 {p : Int} (h : p < 65536) : (Lib.encodeRuneZ p).length ≤ 3 := by
  by_cases h0 : p < 0
  · rw [Lib.encodeRuneZ_bad (.inl h0)]; simp
  by_cases h1 : p ≤ 127
  · rw [Lib.encodeRuneZ_one (by omega) h1]; simp
  by_cases h2 : p ≤ 2047
  · rw [Lib.encodeRuneZ_two (by omega) h2]; simp
  by_cases h3 : p < 55296
  · rw [enc3 (by omega) h3]; simp
  by_cases h4 : p ≤ 57343
  · rw [Lib.encodeRuneZ_bad (.inr (.inl ⟨by omega, h4⟩))]; simp
  · rw [Lib.encodeRuneZ_three (.inr ⟨by omega, by omega⟩)]; simp
theorem pairP_bd {a b : Int} (h : 0 ≤ pairP a b) : 2048 ≤ pairP a b ∧ pairP a b < 55296 ∧ 128 ≤ b ∧ b < 65536 := by
  have hs : isSec b = true := by
    cases hb : isSec b with
    | true => rfl
    | false =>
      rw [pair_sec hb] at h
      omega
  have hb := of_decide_eq_true hs
  have hw := pair_whole h
  generalize pairP a b = x at *
  unfold wholesL at hw
  have hl := letNo_bd a
  by_cases h1 : 0 ≤ letNo a
  · rw [if_pos h1, List.mem_append] at hw
    rcases hw with hw | hw <;> (obtain ⟨i, hi, rfl⟩ := rowL_mem.1 hw; omega)
  rw [if_neg h1] at hw
  by_cases h2 : 8704 ≤ a ∧ a ≤ 9119
  · rw [if_pos h2] at hw
    obtain ⟨i, hi, rfl⟩ := rowL_mem.1 hw
    omega
  rw [if_neg h2] at hw
  by_cases h3 : 1792 ≤ a ∧ a ≤ 1810
  · rw [if_pos h3] at hw
    obtain ⟨i, hi, rfl⟩ := rowL_mem.1 hw
    omega
  rw [if_neg h3] at hw
  by_cases h4 : 12288 ≤ a ∧ a ≤ 23459 ∧ (a - 12288) % 28 = 0
  · rw [if_pos h4] at hw
    obtain ⟨i, hi, rfl⟩ := rowL_mem.1 hw
    omega
  rw [if_neg h4] at hw
  simp at hw
theorem enc_ge2 {p : Int} (h : 128 ≤ p) : 2 ≤ (Lib.encodeRuneZ p).length := by
  by_cases h2 : p ≤ 2047
  · rw [Lib.encodeRuneZ_two h h2]; simp
  by_cases h3 : p < 55296
  · rw [enc3 (by omega) h3]; simp
  by_cases h4 : p ≤ 57343
  · rw [Lib.encodeRuneZ_bad (.inr (.inl ⟨by omega, h4⟩))]; simp
  by_cases h5 : p ≤ 65535
  · rw [Lib.encodeRuneZ_three (.inr ⟨by omega, by omega⟩)]; simp
  by_cases h6 : p ≤ 1114111
  · rw [Lib.encodeRuneZ_four (by omega) h6]; simp
  · rw [Lib.encodeRuneZ_bad (.inr (.inr (by omega)))]; simp
/-- Composing makes no text longer, and no point worse. -/
theorem cmp_wid : ∀ (n : Nat) (L : List Int), L.length = n → wid (cmpQ L).1 ≤ wid L ∧ ((∀ x ∈ L, isPt x = true) → ∀ x ∈ (cmpQ L).1, isPt x = true)
  | 0, L, h => by
    obtain rfl := List.length_eq_zero_iff.1 h
    exact ⟨Nat.le_refl _, fun _ x hx => by cases hx⟩
  | n + 1, L, h => by
    rcases snoc_cases L with rfl | ⟨L', c, rfl⟩
    · simp at h
    · have hl : L'.length = n := by simpa using h
      obtain ⟨ih, ip⟩ := cmp_wid n L' hl
      have hb := cmpQ_bd n L' hl
      rw [cmpQ_snoc]
      generalize cmpQ L' = q at *
      obtain ⟨D, s⟩ := q
      obtain ⟨b1, b2, b3⟩ := hb
      simp only at b1 b2 b3 ih ip
      unfold stepC
      simp only
      by_cases ho : opn D s c = true ∧ 0 ≤ pairP (nth D s.toNat) c
      · rw [if_pos ho]
        simp only
        obtain ⟨ho, hp⟩ := ho
        unfold opn at ho
        rw [Bool.and_eq_true] at ho
        have h0 := of_decide_eq_true ho.1
        have hs : s.toNat < D.length := by omega
        obtain ⟨p1, p2, p3, p4⟩ := pairP_bd hp
        have e1 := enc3 p1 p2
        have e2 := enc_ge2 p3
        have e3 := (Lib.encodeRuneZ_length (nth D s.toNat)).1
        refine ⟨?_, fun hL x hx => ?_⟩
        · have eD : wid D = wid (D.take s.toNat) + ((Lib.encodeRuneZ (nth D s.toNat)).length + wid (D.drop (s.toNat + 1))) := by
            conv => lhs; rw [nth_split hs]
            rw [wid_app, wid_cons]
          rw [List.set_eq_take_append_cons_drop, if_pos hs, wid_app, wid_cons, wid_app, wid_cons, wid_nil]
          omega
        · rw [List.set_eq_take_append_cons_drop, if_pos hs] at hx
          have ip' := ip (fun y hy => hL y (by simp [hy]))
          rcases List.mem_append.1 hx with hx | hx
          · exact ip' x (List.mem_of_mem_take hx)
          · rcases List.mem_cons.1 hx with rfl | hx
            · exact (isPt_iff _).2 (by omega)
            · exact ip' x (List.mem_of_mem_drop hx)
      · rw [if_neg ho]
        simp only
        refine ⟨by rw [wid_app, wid_app]; omega, fun hL x hx => ?_⟩
        rcases List.mem_append.1 hx with hx | hx
        · exact ip (fun y hy => hL y (by simp [hy])) x hx
        · exact hL x (by simp at hx; simp [hx])
theorem parts_low {k : Bool} {p x : Int} (h : x ∈ partsZ k p) : x < 65536 := by
  rcases parts_cases k p with e | ⟨a, e, _, ha⟩ | ⟨a, b, e, _, ha, hb⟩
  · rw [e] at h; simp at h
  · rw [e] at h
    simp at h
    subst h
    unfold Bare at ha
    omega
  · rw [e] at h
    simp at h
    rcases h with rfl | rfl
    · unfold Near Bare at ha
      omega
    · unfold Bare at hb
      omega
theorem allF_low (k : Bool) : ∀ (n : Nat) (p : Int), p < 65536 → ∀ x ∈ allF k n p, x < 65536
  | 0, p, hp, x, hx => by
    rw [allF, List.mem_singleton] at hx
    rw [hx]
    exact hp
  | n + 1, p, hp, x, hx => by
    rw [allF_eq] at hx
    split at hx
    · rw [List.mem_singleton] at hx
      rw [hx]
      exact hp
    · obtain ⟨y, hy, hx⟩ := List.mem_flatMap.1 hx
      exact allF_low k n y (parts_low hy) x hx
theorem wid_low : ∀ (l : List Int), (∀ x ∈ l, x < 65536) → wid l ≤ 3 * l.length
  | [], _ => Nat.le_refl _
  | x :: l, h => by
    have h1 := wid_low l (fun y hy => h y (by simp [hy]))
    have h2 := enc_le3 (h x (by simp))
    rw [wid_cons, List.length_cons]
    omega
theorem parts_no {p : Int} (h : p < 8192 ∨ 23459 < p) : partsZ false p = [] := by
  unfold partsZ
  rw [if_neg (by omega), if_neg (by omega), if_neg (by omega), if_neg (by omega), if_neg (by omega), if_neg (by simp)]
/-- What is read of some bytes is at most four times as long with its parts. -/
theorem wid_dec {size pos b0 b1 b2 b3 p n : Nat} (h0 : b0 < 256) (hd : dec size pos b0 b1 b2 b3 = (p, n)) : wid (allF false 2 p) ≤ 4 * n := by
  have big : ∀ q : Nat, q < 65536 → wid (allF false 2 q) ≤ 12 := fun q hq => by
    have h1 := wid_low _ (allF_low false 2 q (by omega))
    have h2 : (allF false 2 (q : Int)).length ≤ 4 := (allF_len false 2 q).2
    omega
  have one : ∀ q : Nat, (q < 8192 ∨ 23459 < q) → wid (allF false 2 q) = (Lib.encodeRuneZ q).length := fun q hq => by
    rw [allF_none (parts_no (by omega)), wid_cons, wid_nil]
    omega
  have bad : wid (allF false 2 (65533 : Nat)) ≤ 4 * 1 := by
    rw [one 65533 (by omega)]
    decide
  unfold dec at hd
  split at hd
  · injection hd with e1 e2
    subst e1
    subst e2
    rw [one b0 (by omega), Lib.encodeRuneZ_one (by omega) (by omega)]
    simp
  split at hd
  · split at hd
    · injection hd with e1 e2
      rw [← e2, ← e1, one _ (by omega)]
      have := (Lib.encodeRuneZ_length ((b0 % 32 * 64 + b1 % 64 : Nat) : Int)).2
      omega
    · injection hd with e1 e2
      rw [← e2, ← e1]
      exact bad
  split at hd
  · split at hd
    · injection hd with e1 e2
      rw [← e2, ← e1]
      exact big _ (by omega)
    · injection hd with e1 e2
      rw [← e2, ← e1]
      exact bad
  split at hd
  · split at hd
    · injection hd with e1 e2
      rw [← e2, ← e1, one _ (by omega)]
      have := (Lib.encodeRuneZ_length ((b0 % 8 * 262144 + b1 % 64 * 4096 + b2 % 64 * 64 + b3 % 64 : Nat) : Int)).2
      omega
    · injection hd with e1 e2
      rw [← e2, ← e1]
      exact bad
  · injection hd with e1 e2
    rw [← e2, ← e1]
    exact bad
theorem wid_steps (s : ByteArray) : ∀ n, wid (nrmA false (steps s n).1) ≤ 4 * (steps s n).2
  | 0 => Nat.le_refl _
  | n + 1 => by
    have ih := wid_steps s n
    by_cases hs : (steps s n).2 < s.size
    · rw [steps_next s n hs]
      simp only
      have hd : dec s.size (steps s n).2 (bt s (steps s n).2) (bt s ((steps s n).2 + 1)) (bt s ((steps s n).2 + 2)) (bt s ((steps s n).2 + 3)) = (dP s (steps s n).2, dN s (steps s n).2) := (decode_dec s _).symm
      have h1 := wid_dec (bt_lt _ _) hd
      have e : nrmA false [(dP s (steps s n).2 : Int)] = allF false 2 (dP s (steps s n).2) := by rw [nrmA_cons]; exact List.append_nil _
      rw [nrmA_app, wid_app, e]
      omega
    · have e : steps s (n + 1) = steps s n := by
        show (if (steps s n).2 < s.size then _ else _) = _
        rw [if_neg hs]
      rw [e]
      exact ih
theorem wid_d (s : ByteArray) : wid (nrmL 1 (pts s)) ≤ 4 * s.size := by
  have h := wid_steps s s.size
  have h2 := (steps_le s s.size).1
  have e : wid (nrmL 1 (pts s)) = wid (nrmA false (pts s)) := wid_ord _ _ rfl
  have e2 : pts s = (steps s s.size).1 := rfl
  rw [e, e2]
  omega
theorem wid_c (s : ByteArray) : wid (nrmL 2 (pts s)) ≤ 4 * s.size := by
  have h := wid_d s
  have h2 : wid (nrmL 2 (pts s)) ≤ wid (nrmL 1 (pts s)) := (cmp_wid _ (nrmL 1 (pts s)) rfl).1
  omega
theorem nrm2_pt (s : ByteArray) : ∀ x ∈ nrmL 2 (pts s), isPt x = true := (cmp_wid _ (nrmL 1 (pts s)) rfl).2 (nrm1_pt s)
theorem nml_small {f : Int} {s : ByteArray} (hf : isF f = true) (h : s.size ≤ 10000) (hw : wid (nrmL f (pts s)) ≤ 4 * s.size) : nmlOut f s = textL (nrmL f (pts s)) := by
  unfold nmlOut
  rw [if_neg (by rw [hf]; rintro (h | h); omega; cases h)]
  have e : (nrmT f s).length = wid (nrmL f (pts s)) := rfl
  unfold small
  rw [if_neg (by omega)]
  rfl
theorem eqv_d {s : ByteArray} (h : s.size ≤ 10000) : eqvB s (strOfNums (nmlOut 1 s)) = true ∧ (strOfNums (nmlOut 1 s)).size ≤ 65536 := by
  have hw := wid_d s
  have e := nml_small (f := 1) (by decide) h hw
  have hz : (strOfNums (nmlOut 1 s)).size ≤ 65536 := by
    rw [e, strOfNums_size]
    unfold wid at hw
    omega
  refine ⟨?_, hz⟩
  have hz' := hz
  rw [e] at hz' ⊢
  unfold eqvB
  rw [decide_eq_true (show s.size ≤ 65536 by omega), decide_eq_true hz', pts_text _ (nrm1_pt s), dd]
  simp [sameB]
theorem eqv_c {s : ByteArray} (h : s.size ≤ 10000) : eqvB s (strOfNums (nmlOut 2 s)) = true ∧ (strOfNums (nmlOut 2 s)).size ≤ 65536 := by
  have hw := wid_c s
  have e := nml_small (f := 2) (by decide) h hw
  have hz : (strOfNums (nmlOut 2 s)).size ≤ 65536 := by
    rw [e, strOfNums_size]
    unfold wid at hw
    omega
  refine ⟨?_, hz⟩
  have hz' := hz
  rw [e] at hz' ⊢
  unfold eqvB
  rw [decide_eq_true (show s.size ≤ 65536 by omega), decide_eq_true hz', pts_text _ (nrm2_pt s), dc]
  simp [sameB]
/-- Two texts are equivalent just if their C are one text. -/
theorem eqv_iff {s t : ByteArray} (h : s.size ≤ 10000) (g : t.size ≤ 10000) : eqvB s t = decide (strOfNums (nmlOut 2 s) = strOfNums (nmlOut 2 t)) := by
  rw [nml_small (f := 2) (by decide) h (wid_c s), nml_small (f := 2) (by decide) g (wid_c t)]
  unfold eqvB sameB
  rw [decide_eq_true (show s.size ≤ 65536 by omega), decide_eq_true (show t.size ≤ 65536 by omega), Bool.true_and, Bool.true_and]
  refine decide_eq_decide.2 ?_
  rw [← cc_iff]
  constructor
  · intro e
    rw [e]
  · intro e
    have := congrArg pts e
    rwa [pts_text _ (nrm2_pt s), pts_text _ (nrm2_pt t)] at this
theorem eqv_comm (s t : ByteArray) : eqvB s t = eqvB t s := by
  unfold eqvB sameB
  have e : decide (nrmL 1 (pts s) = nrmL 1 (pts t)) = decide (nrmL 1 (pts t) = nrmL 1 (pts s)) := decide_eq_decide.2 ⟨fun h => h.symm, fun h => h.symm⟩
  rw [e]
  cases decide (s.size ≤ 65536) <;> cases decide (t.size ≤ 65536) <;> rfl
end Go.Proofs.YtncfjpdbfojfoaaDoor
