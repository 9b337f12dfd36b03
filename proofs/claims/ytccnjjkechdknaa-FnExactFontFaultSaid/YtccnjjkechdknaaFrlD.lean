/- Rules that are right, as the program and as the specification tell it. -/
import Derived.Test.YtccnjjkechdknaaFrlC
import Derived.Test.YtccnjjkechdknaaFrlI
namespace Go.Proofs.Ytccnjjkechdknaa.Frl
open Go.RowKit
set_option linter.unusedVariables false
/-- One rule is right. -/
def ok1 (L0 L1 L2 L3 : List Int) : Bool := decide (0 < L1.length) && okI L1 8 && okI L3 8 && okI L0 4 && okI L2 4
def okq (Q : List (List Int)) (i : Nat) : Bool := ok1 (qn Q (i * 4)) (qn Q (i * 4 + 1)) (qn Q (i * 4 + 2)) (qn Q (i * 4 + 3))
/-- The first k rules are right. -/
def okk (Q : List (List Int)) : Nat → Bool
  | 0 => true
  | k + 1 => okk Q k && okq Q k
/-- All rules are right. -/
def okR (n : Nat) (Q : List (List Int)) : Bool := decide (n ≤ 100) && okk Q n
theorem okk_bad {Q : List (List Int)} {i n : Nat} (hi : i < n) (h : okq Q i = false) : okk Q n = false := by
  induction n with
  | zero => omega
  | succ n ih =>
    unfold okk
    by_cases e : i = n
    · subst e; rw [h, Bool.and_false]
    · rw [ih (by omega), Bool.false_and]
theorem okk_at {Q : List (List Int)} {i n : Nat} (hi : i < n) (h : okk Q n = true) : okq Q i = true := by
  cases e : okq Q i
  · rw [okk_bad hi e] at h; cases h
  · rfl
theorem okR_long {n : Nat} {Q : List (List Int)} (h : 100 < n) : okR n Q = false := by unfold okR; rw [decide_eq_false (by omega), Bool.false_and]
theorem okR_bad {n i : Nat} {Q : List (List Int)} (hi : i < n) (h : okq Q i = false) : okR n Q = false := by unfold okR; rw [okk_bad hi h, Bool.and_false]
theorem okR_good {n : Nat} {Q : List (List Int)} (hn : n ≤ 100) (h : okk Q n = true) : okR n Q = true := by unfold okR; rw [decide_eq_true hn, h]; rfl
theorem okR_is {n : Nat} {Q : List (List Int)} (h : okR n Q = true) : n ≤ 100 ∧ okk Q n = true := by
  unfold okR at h
  simpa using h
set_option maxRecDepth 100000 in
set_option maxHeartbeats 4000000 in
theorem isRight_any (u0 u1 u2 u3 : Value) (L0 L1 L2 L3 : List Int) (w : World) (h0 : IntsAt w u0 L0) (h1 : IntsAt w u1 L1) (h2 : IntsAt w u2 L2) (h3 : IntsAt w u3 L3) (l0 : L0.length ≤ 1048576) (l1 : L1.length ≤ 1048576) (l2 : L2.length ≤ 1048576) (l3 : L3.length ≤ 1048576) :
    Calls Try.prog 47 #[.agg #[u0, u1, u2, u3]] w fun e w' => e = .returned (.bool (ok1 L0 L1 L2 L3)) ∧ Below w.heap.size w w' := by
  have bel := (Below.refl w.heap.size w).alloc (Nat.le_refl _) (.cells #[u0, u1, u2, u3] 68)
  have B1 := hide bel
  have C0 := hide (areIds_any u0 L0 4 _ (h0.below bel) l0 (by omega))
  have C1 := hide (areIds_any u1 L1 8 _ (h1.below bel) l1 (by omega))
  have C2 := hide (areIds_any u2 L2 4 _ (h2.below bel) l2 (by omega))
  have C3 := hide (areIds_any u3 L3 8 _ (h3.below bel) l3 (by omega))
  obtain ⟨a1, c1, rfl⟩ := ints_form h1
  obtain ⟨R, hR⟩ : ∃ R, ok1 L0 L1 L2 L3 = R := ⟨_, rfl⟩
  rw [hR]
  unfold ok1 at hR
  clear h0 h1 h2 h3 l0 l1 l2 l3 bel
  by_cases t : 0 < L1.length
  · rw [decide_eq_true t] at hR
    have t' : (0 : Int) < (L1.length : Int) := by omega
    cases y0 : okI L1 8
    · rw [y0] at C1 hR
      have HR : Hid (false = R) := hide (by rw [← hR]; simp)
      clear hR
      go_enter Try.func47, Try.ntmps47
      go_wp2_with fail
      refine (unhide C1).mono ?_
      rintro e w1 ⟨rfl, e1⟩
      have e2 := e1.symm
      subst e2
      clear e1
      go_wp2
      go_ret
      exact ⟨by rw [← unhide HR]; rfl, unhide B1⟩
    · rw [y0] at C1 hR
      cases y1 : okI L3 8
      · rw [y1] at C3 hR
        have HR : Hid (false = R) := hide (by rw [← hR]; simp)
        clear hR
        go_enter Try.func47, Try.ntmps47
        go_wp2_with fail
        refine (unhide C1).mono ?_
        rintro e w1 ⟨rfl, e1⟩
        have e2 := e1.symm
        subst e2
        clear e1
        go_wp2_with fail
        refine (unhide C3).mono ?_
        rintro e w1 ⟨rfl, e1⟩
        have e2 := e1.symm
        subst e2
        clear e1
        go_wp2
        go_ret
        exact ⟨by rw [← unhide HR]; rfl, unhide B1⟩
      · rw [y1] at C3 hR
        cases y2 : okI L0 4
        · rw [y2] at C0 hR
          have HR : Hid (false = R) := hide (by rw [← hR]; simp)
          clear hR
          go_enter Try.func47, Try.ntmps47
          go_wp2_with fail
          refine (unhide C1).mono ?_
          rintro e w1 ⟨rfl, e1⟩
          have e2 := e1.symm
          subst e2
          clear e1
          go_wp2_with fail
          refine (unhide C3).mono ?_
          rintro e w1 ⟨rfl, e1⟩
          have e2 := e1.symm
          subst e2
          clear e1
          go_wp2_with fail
          refine (unhide C0).mono ?_
          rintro e w1 ⟨rfl, e1⟩
          have e2 := e1.symm
          subst e2
          clear e1
          go_wp2
          go_ret
          exact ⟨by rw [← unhide HR]; rfl, unhide B1⟩
        · rw [y2] at C0 hR
          cases y3 : okI L2 4
          · rw [y3] at C2 hR
            have HR : Hid (false = R) := hide (by rw [← hR]; simp)
            clear hR
            go_enter Try.func47, Try.ntmps47
            go_wp2_with fail
            refine (unhide C1).mono ?_
            rintro e w1 ⟨rfl, e1⟩
            have e2 := e1.symm
            subst e2
            clear e1
            go_wp2_with fail
            refine (unhide C3).mono ?_
            rintro e w1 ⟨rfl, e1⟩
            have e2 := e1.symm
            subst e2
            clear e1
            go_wp2_with fail
            refine (unhide C0).mono ?_
            rintro e w1 ⟨rfl, e1⟩
            have e2 := e1.symm
            subst e2
            clear e1
            go_wp2_with fail
            refine (unhide C2).mono ?_
            rintro e w1 ⟨rfl, e1⟩
            have e2 := e1.symm
            subst e2
            clear e1
            go_wp2
            go_ret
            exact ⟨by rw [← unhide HR]; rfl, unhide B1⟩
          · rw [y3] at C2 hR
            have HR : Hid (true = R) := hide (by rw [← hR]; rfl)
            clear hR
            go_enter Try.func47, Try.ntmps47
            go_wp2_with fail
            refine (unhide C1).mono ?_
            rintro e w1 ⟨rfl, e1⟩
            have e2 := e1.symm
            subst e2
            clear e1
            go_wp2_with fail
            refine (unhide C3).mono ?_
            rintro e w1 ⟨rfl, e1⟩
            have e2 := e1.symm
            subst e2
            clear e1
            go_wp2_with fail
            refine (unhide C0).mono ?_
            rintro e w1 ⟨rfl, e1⟩
            have e2 := e1.symm
            subst e2
            clear e1
            go_wp2_with fail
            refine (unhide C2).mono ?_
            rintro e w1 ⟨rfl, e1⟩
            have e2 := e1.symm
            subst e2
            clear e1
            go_wp2
            go_ret
            exact ⟨by rw [← unhide HR]; rfl, unhide B1⟩
  · rw [decide_eq_false t] at hR
    have t' : ¬ (0 : Int) < (L1.length : Int) := by omega
    have HR : Hid (false = R) := hide (by rw [← hR]; simp)
    clear hR
    go_enter Try.func47, Try.ntmps47
    go_wp2
    go_ret
    exact ⟨by rw [← unhide HR]; rfl, unhide B1⟩
set_option maxRecDepth 100000 in
set_option maxHeartbeats 4000000 in
theorem areRules_any (v : Value) (n : Nat) (Q : List (List Int)) (w : World) (hv : RuI w v n Q) (hl : n ≤ 1048576) (hs : AllB Q 1048576) :
    Calls Try.prog 29 #[v] w fun e w' => e = .returned (.bool (okR n Q)) ∧ Below w.heap.size w w' := by
  obtain ⟨a, cap, rfl, hf⟩ := hv.form
  have HV := hide hf
  have HS := hide hs
  clear hv hs hf
  by_cases h1 : 100 < n
  · have h1' : (100 : Int) < (n : Int) := by omega
    have HR := hide (okR_long (Q := Q) h1)
    generalize okR n Q = R at *
    go_enter Try.func29, Try.ntmps29
    go_wp2
    go_ret
    exact ⟨by rw [unhide HR]; rfl, Below.refl _ _⟩
  have h1' : ¬ (100 : Int) < (n : Int) := by omega
  have HBad := hide (fun i hi h => okR_bad (n := n) (Q := Q) (i := i) hi h)
  have HGood := hide (fun h => okR_good (n := n) (Q := Q) (by omega) h)
  generalize okR n Q = R at *
  go_enter Try.func29, Try.ntmps29
  go_wp2
  go_loopw [10] (fun i wr => ∃ k : Nat, k ≤ n ∧ i = .int .i64 k ∧ Hid (okk Q k = true) ∧ Hid (Below w.heap.size w wr)) (fun i _ => n - (intOf i).toNat)
  case atStart => exact ⟨0, Nat.zero_le _, rfl, hide rfl, hide (Below.refl _ _)⟩
  case round =>
    obtain ⟨k, hk, rfl, HK, HB⟩ := hrel
    by_cases hlt : k < n
    · have hlt' : (k : Int) < (n : Int) := by omega
      obtain ⟨b, off, rfl, hbs, u0, u1, u2, u3, ⟨x0, x1, x2, x3⟩, i0, i1, i2, i3⟩ := (unhide HV) k hlt
      have d0 := ((unhide HB).cell (p := ⟨b, off + k * 4, none⟩) hbs).trans x0
      have d1 := ((unhide HB).cell (p := ⟨b, off + k * 4 + 1, none⟩) hbs).trans x1
      have d2 := ((unhide HB).cell (p := ⟨b, off + k * 4 + 2, none⟩) hbs).trans x2
      have d3 := ((unhide HB).cell (p := ⟨b, off + k * 4 + 3, none⟩) hbs).trans x3
      have B1 := hide ((unhide HB).alloc (unhide HB).size (.cells #[u0, u1, u2, u3] 68))
      have C := hide (isRight_any u0 u1 u2 u3 _ _ _ _ (wr.alloc (.cells #[u0, u1, u2, u3] 68)) (i0.below (unhide B1)) (i1.below (unhide B1)) (i2.below (unhide B1)) (i3.below (unhide B1)) ((unhide HS) _) ((unhide HS) _) ((unhide HS) _) ((unhide HS) _))
      have C2 : Hid (Calls Try.prog 47 #[.agg #[u0, u1, u2, u3]] (wr.alloc (.cells #[u0, u1, u2, u3] 68)) fun e w' => e = .returned (.bool (okq Q k)) ∧ Below (wr.alloc (.cells #[u0, u1, u2, u3] 68)).heap.size (wr.alloc (.cells #[u0, u1, u2, u3] 68)) w') := C
      obtain ⟨a0, c0, rfl⟩ := ints_form i0
      obtain ⟨a1, c1, rfl⟩ := ints_form i1
      obtain ⟨a2, c2, rfl⟩ := ints_form i2
      obtain ⟨a3, c3, rfl⟩ := ints_form i3
      clear x0 x1 x2 x3 i0 i1 i2 i3 C
      generalize (qn Q (k * 4)).length = m0 at *
      generalize (qn Q (k * 4 + 1)).length = m1 at *
      generalize (qn Q (k * 4 + 2)).length = m2 at *
      generalize (qn Q (k * 4 + 3)).length = m3 at *
      cases y : okq Q k
      · have HR := hide ((unhide HBad) k hlt y)
        rw [y] at C2
        go_wp2_with fail
        refine (unhide C2).mono ?_
        rintro e w2 ⟨rfl, hb2⟩
        have B2 := hide ((unhide B1).trans (hb2.mono (unhide B1).size))
        clear hb2
        go_wp2
        go_ret
        exact ⟨by rw [unhide HR]; rfl, unhide B2⟩
      · have HK2 : Hid (okk Q (k + 1) = true) := hide (by unfold okk; rw [unhide HK, y]; rfl)
        rw [y] at C2
        go_wp2_with fail
        refine (unhide C2).mono ?_
        rintro e w2 ⟨rfl, hb2⟩
        have B2 := hide ((unhide B1).trans (hb2.mono (unhide B1).size))
        clear hb2
        go_wp2
        go_roundw
        case rel => exact ⟨k + 1, by omega, by go_num, HK2, B2⟩
        case measure => simp [intOf]; omega
    · obtain rfl : k = n := by omega
      have HR := hide ((unhide HGood) (unhide HK))
      go_wp2
      go_ret
      exact ⟨by rw [unhide HR]; rfl, unhide HB⟩
theorem ok1_no (L0 L1 L2 L3 : List Int) (h : ¬ 0 < L1.length ∨ okI L1 8 = false ∨ okI L0 4 = false ∨ okI L2 4 = false ∨ okI L3 8 = false) : ok1 L0 L1 L2 L3 = false := by
  unfold ok1
  rcases h with h | h | h | h | h
  · rw [decide_eq_false h]; simp
  · rw [h]; simp
  · rw [h]; simp
  · rw [h]; simp
  · rw [h]; simp
theorem ok1_yes (L0 L1 L2 L3 : List Int) (h : 0 < L1.length) (h1 : okI L1 8 = true) (h0 : okI L0 4 = true) (h2 : okI L2 4 = true) (h3 : okI L3 8 = true) : ok1 L0 L1 L2 L3 = true := by
  unfold ok1
  rw [decide_eq_true h, h1, h0, h2, h3]; rfl
set_option maxRecDepth 100000 in
set_option maxHeartbeats 8000000 in
theorem rulesRight_any (v : Value) (n : Nat) (Q : List (List Int)) (w : World) (hv : RuI w v n Q) (hl : n ≤ 1048576) (hs : AllB Q 1048576) :
    Calls Try.prog 24 #[v] w fun e w' => e = .returned (.bool (okR n Q)) ∧ Below w.heap.size w w' := by
  obtain ⟨a, cap, rfl, hf⟩ := hv.form
  have HV := hide hf
  have HS := hide hs
  clear hv hs hf
  have HBad := hide (fun i hi h => okR_bad (n := n) (Q := Q) (i := i) hi h)
  have HGood := hide (fun h1 h => okR_good (n := n) (Q := Q) h1 h)
  have HLong := hide (fun h1 => okR_long (n := n) (Q := Q) h1)
  generalize okR n Q = R at *
  go_enter Try.func24, Try.ntmps24
  go_wp2
  go_loopw [3] (fun i wr => ∃ k : Nat, k ≤ n ∧ i = .int .i64 k ∧ Hid (okk Q k = true) ∧ Hid (Below w.heap.size w wr)) (fun i _ => n - (intOf i).toNat)
  case atStart => exact ⟨0, Nat.zero_le _, rfl, hide rfl, hide (Below.refl _ _)⟩
  case round =>
    obtain ⟨k, hk, rfl, HK, HB⟩ := hrel
    by_cases hlt : k < n
    · have hlt' : (k : Int) < (n : Int) := by omega
      obtain ⟨b, off, rfl, hbs, u0, u1, u2, u3, ⟨x0, x1, x2, x3⟩, i0, i1, i2, i3⟩ := (unhide HV) k hlt
      have d0 := ((unhide HB).cell (p := ⟨b, off + k * 4, none⟩) hbs).trans x0
      have d1 := ((unhide HB).cell (p := ⟨b, off + k * 4 + 1, none⟩) hbs).trans x1
      have d2 := ((unhide HB).cell (p := ⟨b, off + k * 4 + 2, none⟩) hbs).trans x2
      have d3 := ((unhide HB).cell (p := ⟨b, off + k * 4 + 3, none⟩) hbs).trans x3
      have B1 := hide ((unhide HB).alloc (unhide HB).size (.cells #[u0, u1, u2, u3] 68))
      have C0 := hide (l10Ids_any u0 _ 4 _ (i0.below (unhide B1)) ((unhide HS) _) (by omega))
      have C1 := hide (l10Ids_any u1 _ 8 _ (i1.below (unhide B1)) ((unhide HS) _) (by omega))
      have C2 := hide (l10Ids_any u2 _ 4 _ (i2.below (unhide B1)) ((unhide HS) _) (by omega))
      have C3 := hide (l10Ids_any u3 _ 8 _ (i3.below (unhide B1)) ((unhide HS) _) (by omega))
      have HNo := hide (fun h => (unhide HBad) k hlt (ok1_no (qn Q (k * 4)) (qn Q (k * 4 + 1)) (qn Q (k * 4 + 2)) (qn Q (k * 4 + 3)) h))
      have HYes : Hid (∀ h h1 h0 h2 h3, okk Q (k + 1) = true) := hide (fun h h1 h0 h2 h3 => by
        unfold okk
        rw [unhide HK]
        exact ok1_yes (qn Q (k * 4)) (qn Q (k * 4 + 1)) (qn Q (k * 4 + 2)) (qn Q (k * 4 + 3)) h h1 h0 h2 h3)
      obtain ⟨a0, c0, rfl⟩ := ints_form i0
      obtain ⟨a1, c1, rfl⟩ := ints_form i1
      obtain ⟨a2, c2, rfl⟩ := ints_form i2
      obtain ⟨a3, c3, rfl⟩ := ints_form i3
      clear x0 x1 x2 x3 i0 i1 i2 i3
      generalize qn Q (k * 4) = L0 at *
      generalize qn Q (k * 4 + 1) = L1 at *
      generalize qn Q (k * 4 + 2) = L2 at *
      generalize qn Q (k * 4 + 3) = L3 at *
      by_cases t : 0 < L1.length
      · have t' : ¬ (L1.length : Int) < 1 := by omega
        cases y0 : okI L1 8
        · rw [y0] at C1
          have HR := hide ((unhide HNo) (.inr (.inl y0)))
          go_wp2_with fail
          refine (unhide C1).mono ?_
          rintro e w1 ⟨rfl, e1⟩
          have e2 := e1.symm
          subst e2
          clear e1
          go_wp2
          go_ret
          exact ⟨by rw [unhide HR]; rfl, unhide B1⟩
        · rw [y0] at C1
          cases y1 : okI L0 4
          · rw [y1] at C0
            have HR := hide ((unhide HNo) (.inr (.inr (.inl y1))))
            go_wp2_with fail
            refine (unhide C1).mono ?_
            rintro e w1 ⟨rfl, e1⟩
            have e2 := e1.symm
            subst e2
            clear e1
            go_wp2_with fail
            refine (unhide C0).mono ?_
            rintro e w1 ⟨rfl, e1⟩
            have e2 := e1.symm
            subst e2
            clear e1
            go_wp2
            go_ret
            exact ⟨by rw [unhide HR]; rfl, unhide B1⟩
          · rw [y1] at C0
            cases y2 : okI L2 4
            · rw [y2] at C2
              have HR := hide ((unhide HNo) (.inr (.inr (.inr (.inl y2)))))
              go_wp2_with fail
              refine (unhide C1).mono ?_
              rintro e w1 ⟨rfl, e1⟩
              have e2 := e1.symm
              subst e2
              clear e1
              go_wp2_with fail
              refine (unhide C0).mono ?_
              rintro e w1 ⟨rfl, e1⟩
              have e2 := e1.symm
              subst e2
              clear e1
              go_wp2_with fail
              refine (unhide C2).mono ?_
              rintro e w1 ⟨rfl, e1⟩
              have e2 := e1.symm
              subst e2
              clear e1
              go_wp2
              go_ret
              exact ⟨by rw [unhide HR]; rfl, unhide B1⟩
            · rw [y2] at C2
              cases y3 : okI L3 8
              · rw [y3] at C3
                have HR := hide ((unhide HNo) (.inr (.inr (.inr (.inr y3)))))
                go_wp2_with fail
                refine (unhide C1).mono ?_
                rintro e w1 ⟨rfl, e1⟩
                have e2 := e1.symm
                subst e2
                clear e1
                go_wp2_with fail
                refine (unhide C0).mono ?_
                rintro e w1 ⟨rfl, e1⟩
                have e2 := e1.symm
                subst e2
                clear e1
                go_wp2_with fail
                refine (unhide C2).mono ?_
                rintro e w1 ⟨rfl, e1⟩
                have e2 := e1.symm
                subst e2
                clear e1
                go_wp2_with fail
                refine (unhide C3).mono ?_
                rintro e w1 ⟨rfl, e1⟩
                have e2 := e1.symm
                subst e2
                clear e1
                go_wp2
                go_ret
                exact ⟨by rw [unhide HR]; rfl, unhide B1⟩
              · rw [y3] at C3
                have HK2 := hide ((unhide HYes) t y0 y1 y2 y3)
                go_wp2_with fail
                refine (unhide C1).mono ?_
                rintro e w1 ⟨rfl, e1⟩
                have e2 := e1.symm
                subst e2
                clear e1
                go_wp2_with fail
                refine (unhide C0).mono ?_
                rintro e w1 ⟨rfl, e1⟩
                have e2 := e1.symm
                subst e2
                clear e1
                go_wp2_with fail
                refine (unhide C2).mono ?_
                rintro e w1 ⟨rfl, e1⟩
                have e2 := e1.symm
                subst e2
                clear e1
                go_wp2_with fail
                refine (unhide C3).mono ?_
                rintro e w1 ⟨rfl, e1⟩
                have e2 := e1.symm
                subst e2
                clear e1
                go_wp2
                go_roundw
                case rel => exact ⟨k + 1, by omega, by go_num, HK2, B1⟩
                case measure => simp [intOf]; omega
      · have t' : (L1.length : Int) < 1 := by omega
        have HR := hide ((unhide HNo) (.inl t))
        go_wp2
        go_ret
        exact ⟨by rw [unhide HR]; rfl, unhide B1⟩
    · obtain rfl : k = n := by omega
      by_cases t : k ≤ 100
      · have t' : (k : Int) ≤ 100 := by omega
        have HR := hide ((unhide HGood) t (unhide HK))
        go_wp2
        go_ret
        exact ⟨by rw [unhide HR]; rfl, unhide HB⟩
      · have t' : ¬ (k : Int) ≤ 100 := by omega
        have HR := hide ((unhide HLong) (by omega))
        go_wp2
        go_ret
        exact ⟨by rw [unhide HR]; rfl, unhide HB⟩
end Go.Proofs.Ytccnjjkechdknaa.Frl
