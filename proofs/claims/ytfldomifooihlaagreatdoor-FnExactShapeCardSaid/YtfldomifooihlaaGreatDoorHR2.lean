/- Several texts in one. -/
import Derived.Test.YtfldomifooihlaaGreatDoorHR1
import Derived.Deep.RegionHeld3
import Derived.Deep.Cut
import Derived.Deep.CutRange
import Derived.Stop.Asserts
/- Rules that are right, as the program and as the specification tell it. -/
namespace Go.Proofs.YtfldomifooihlaaGreatDoor.Rul
open Go.RowKit
set_option linter.unusedVariables false
/-- One rule is right. -/
def ok1 (L0 L1 L2 L3 : List Int) : Bool := decide (0 < L1.length) && okI L1 8 && okI L3 8 && okI L0 4 && okI L2 4
def okq (Q : List (List Int)) (i : Nat) : Bool := ok1 (qn Q (i * 4)) (qn Q (i * 4 + 1)) (qn Q (i * 4 + 2)) (qn Q (i * 4 + 3))
/-- The first k rules are right. -/
def okk (Q : List (List Int)) : Nat → Bool
  | 0 => true
  | k + 1 => okk Q k && okq Q k
/-- All rules are right. -/
def okR (n : Nat) (Q : List (List Int)) : Bool := decide (n ≤ 100) && okk Q n
theorem okk_bad {Q : List (List Int)} {i n : Nat} (hi : i < n) (h : okq Q i = false) : okk Q n = false := by
  induction n with
  | zero => omega
  | succ n ih =>
    unfold okk
    by_cases e : i = n
    · subst e; rw [h, Bool.and_false]
    · rw [ih (by omega), Bool.false_and]
theorem okk_at {Q : List (List Int)} {i n : Nat} (hi : i < n) (h : okk Q n = true) : okq Q i = true := by
  cases e : okq Q i
  · rw [okk_bad hi e] at h; cases h
  · rfl
theorem okR_long {n : Nat} {Q : List (List Int)} (h : 100 < n) : okR n Q = false := by unfold okR; rw [decide_eq_false (by omega), Bool.false_and]
theorem okR_bad {n i : Nat} {Q : List (List Int)} (hi : i < n) (h : okq Q i = false) : okR n Q = false := by unfold okR; rw [okk_bad hi h, Bool.and_false]
theorem okR_good {n : Nat} {Q : List (List Int)} (hn : n ≤ 100) (h : okk Q n = true) : okR n Q = true := by unfold okR; rw [decide_eq_true hn, h]; rfl
theorem okR_is {n : Nat} {Q : List (List Int)} (h : okR n Q = true) : n ≤ 100 ∧ okk Q n = true := by
  unfold okR at h
  simpa using h
set_option maxRecDepth 100000 in
set_option maxHeartbeats 4000000 in
theorem isRight_any (u0 u1 u2 u3 : Value) (L0 L1 L2 L3 : List Int) (w : World) (h0 : IntsAt w u0 L0) (h1 : IntsAt w u1 L1) (h2 : IntsAt w u2 L2) (h3 : IntsAt w u3 L3) (l0 : L0.length ≤ 1048576) (l1 : L1.length ≤ 1048576) (l2 : L2.length ≤ 1048576) (l3 : L3.length ≤ 1048576) :
    Calls Tryz.prog 80 #[.agg #[u0, u1, u2, u3]] w fun e w' => e = .returned (.bool (ok1 L0 L1 L2 L3)) ∧ Below w.heap.size w w' := by
  have bel := (Below.refl w.heap.size w).alloc (Nat.le_refl _) (.cells #[u0, u1, u2, u3] 77)
  have B1 := hide bel
  have C0 := hide (areIds_any u0 L0 4 _ (h0.below bel) l0 (by omega))
  have C1 := hide (areIds_any u1 L1 8 _ (h1.below bel) l1 (by omega))
  have C2 := hide (areIds_any u2 L2 4 _ (h2.below bel) l2 (by omega))
  have C3 := hide (areIds_any u3 L3 8 _ (h3.below bel) l3 (by omega))
  obtain ⟨a1, c1, rfl⟩ := ints_form h1
  obtain ⟨R, hR⟩ : ∃ R, ok1 L0 L1 L2 L3 = R := ⟨_, rfl⟩
  rw [hR]
  unfold ok1 at hR
  clear h0 h1 h2 h3 l0 l1 l2 l3 bel
  by_cases t : 0 < L1.length
  · rw [decide_eq_true t] at hR
    have t' : (0 : Int) < (L1.length : Int) := by omega
    cases y0 : okI L1 8
    · rw [y0] at C1 hR
      have HR : Hid (false = R) := hide (by rw [← hR]; simp)
      clear hR
      go_enter Tryz.func80, Tryz.ntmps80
      go_wp2_with fail
      refine (unhide C1).mono ?_
      rintro e w1 ⟨rfl, e1⟩
      have e2 := e1.symm
      subst e2
      clear e1
      go_wp2
      go_ret
      exact ⟨by rw [← unhide HR]; rfl, unhide B1⟩
    · rw [y0] at C1 hR
      cases y1 : okI L3 8
      · rw [y1] at C3 hR
        have HR : Hid (false = R) := hide (by rw [← hR]; simp)
        clear hR
        go_enter Tryz.func80, Tryz.ntmps80
        go_wp2_with fail
        refine (unhide C1).mono ?_
        rintro e w1 ⟨rfl, e1⟩
        have e2 := e1.symm
        subst e2
        clear e1
        go_wp2_with fail
        refine (unhide C3).mono ?_
        rintro e w1 ⟨rfl, e1⟩
        have e2 := e1.symm
        subst e2
        clear e1
        go_wp2
        go_ret
        exact ⟨by rw [← unhide HR]; rfl, unhide B1⟩
      · rw [y1] at C3 hR
        cases y2 : okI L0 4
        · rw [y2] at C0 hR
          have HR : Hid (false = R) := hide (by rw [← hR]; simp)
          clear hR
          go_enter Tryz.func80, Tryz.ntmps80
          go_wp2_with fail
          refine (unhide C1).mono ?_
          rintro e w1 ⟨rfl, e1⟩
          have e2 := e1.symm
          subst e2
          clear e1
          go_wp2_with fail
          refine (unhide C3).mono ?_
          rintro e w1 ⟨rfl, e1⟩
          have e2 := e1.symm
          subst e2
          clear e1
          go_wp2_with fail
          refine (unhide C0).mono ?_
          rintro e w1 ⟨rfl, e1⟩
          have e2 := e1.symm
          subst e2
          clear e1
          go_wp2
          go_ret
          exact ⟨by rw [← unhide HR]; rfl, unhide B1⟩
        · rw [y2] at C0 hR
          cases y3 : okI L2 4
          · rw [y3] at C2 hR
            have HR : Hid (false = R) := hide (by rw [← hR]; simp)
            clear hR
            go_enter Tryz.func80, Tryz.ntmps80
            go_wp2_with fail
            refine (unhide C1).mono ?_
            rintro e w1 ⟨rfl, e1⟩
            have e2 := e1.symm
            subst e2
            clear e1
            go_wp2_with fail
            refine (unhide C3).mono ?_
            rintro e w1 ⟨rfl, e1⟩
            have e2 := e1.symm
            subst e2
            clear e1
            go_wp2_with fail
            refine (unhide C0).mono ?_
            rintro e w1 ⟨rfl, e1⟩
            have e2 := e1.symm
            subst e2
            clear e1
            go_wp2_with fail
            refine (unhide C2).mono ?_
            rintro e w1 ⟨rfl, e1⟩
            have e2 := e1.symm
            subst e2
            clear e1
            go_wp2
            go_ret
            exact ⟨by rw [← unhide HR]; rfl, unhide B1⟩
          · rw [y3] at C2 hR
            have HR : Hid (true = R) := hide (by rw [← hR]; rfl)
            clear hR
            go_enter Tryz.func80, Tryz.ntmps80
            go_wp2_with fail
            refine (unhide C1).mono ?_
            rintro e w1 ⟨rfl, e1⟩
            have e2 := e1.symm
            subst e2
            clear e1
            go_wp2_with fail
            refine (unhide C3).mono ?_
            rintro e w1 ⟨rfl, e1⟩
            have e2 := e1.symm
            subst e2
            clear e1
            go_wp2_with fail
            refine (unhide C0).mono ?_
            rintro e w1 ⟨rfl, e1⟩
            have e2 := e1.symm
            subst e2
            clear e1
            go_wp2_with fail
            refine (unhide C2).mono ?_
            rintro e w1 ⟨rfl, e1⟩
            have e2 := e1.symm
            subst e2
            clear e1
            go_wp2
            go_ret
            exact ⟨by rw [← unhide HR]; rfl, unhide B1⟩
  · rw [decide_eq_false t] at hR
    have t' : ¬ (0 : Int) < (L1.length : Int) := by omega
    have HR : Hid (false = R) := hide (by rw [← hR]; simp)
    clear hR
    go_enter Tryz.func80, Tryz.ntmps80
    go_wp2
    go_ret
    exact ⟨by rw [← unhide HR]; rfl, unhide B1⟩
set_option maxRecDepth 100000 in
set_option maxHeartbeats 4000000 in
theorem areRules_any (v : Value) (n : Nat) (Q : List (List Int)) (w : World) (hv : RuI w v n Q) (hl : n ≤ 1048576) (hs : AllB Q 1048576) :
    Calls Tryz.prog 52 #[v] w fun e w' => e = .returned (.bool (okR n Q)) ∧ Below w.heap.size w w' := by
  obtain ⟨a, cap, rfl, hf⟩ := hv.form
  have HV := hide hf
  have HS := hide hs
  clear hv hs hf
  by_cases h1 : 100 < n
  · have h1' : (100 : Int) < (n : Int) := by omega
    have HR := hide (okR_long (Q := Q) h1)
    generalize okR n Q = R at *
    go_enter Tryz.func52, Tryz.ntmps52
    go_wp2
    go_ret
    exact ⟨by rw [unhide HR]; rfl, Below.refl _ _⟩
  have h1' : ¬ (100 : Int) < (n : Int) := by omega
  have HBad := hide (fun i hi h => okR_bad (n := n) (Q := Q) (i := i) hi h)
  have HGood := hide (fun h => okR_good (n := n) (Q := Q) (by omega) h)
  generalize okR n Q = R at *
  go_enter Tryz.func52, Tryz.ntmps52
  go_wp2
  go_loopw [10] (fun i wr => ∃ k : Nat, k ≤ n ∧ i = .int .i64 k ∧ Hid (okk Q k = true) ∧ Hid (Below w.heap.size w wr)) (fun i _ => n - (intOf i).toNat)
  case atStart => exact ⟨0, Nat.zero_le _, rfl, hide rfl, hide (Below.refl _ _)⟩
  case round =>
    obtain ⟨k, hk, rfl, HK, HB⟩ := hrel
    by_cases hlt : k < n
    · have hlt' : (k : Int) < (n : Int) := by omega
      obtain ⟨b, off, rfl, hbs, u0, u1, u2, u3, ⟨x0, x1, x2, x3⟩, i0, i1, i2, i3⟩ := (unhide HV) k hlt
      have d0 := ((unhide HB).cell (p := ⟨b, off + k * 4, none⟩) hbs).trans x0
      have d1 := ((unhide HB).cell (p := ⟨b, off + k * 4 + 1, none⟩) hbs).trans x1
      have d2 := ((unhide HB).cell (p := ⟨b, off + k * 4 + 2, none⟩) hbs).trans x2
      have d3 := ((unhide HB).cell (p := ⟨b, off + k * 4 + 3, none⟩) hbs).trans x3
      have B1 := hide ((unhide HB).alloc (unhide HB).size (.cells #[u0, u1, u2, u3] 77))
      have C := hide (isRight_any u0 u1 u2 u3 _ _ _ _ (wr.alloc (.cells #[u0, u1, u2, u3] 77)) (i0.below (unhide B1)) (i1.below (unhide B1)) (i2.below (unhide B1)) (i3.below (unhide B1)) ((unhide HS) _) ((unhide HS) _) ((unhide HS) _) ((unhide HS) _))
      have C2 : Hid (Calls Tryz.prog 80 #[.agg #[u0, u1, u2, u3]] (wr.alloc (.cells #[u0, u1, u2, u3] 77)) fun e w' => e = .returned (.bool (okq Q k)) ∧ Below (wr.alloc (.cells #[u0, u1, u2, u3] 77)).heap.size (wr.alloc (.cells #[u0, u1, u2, u3] 77)) w') := C
      obtain ⟨a0, c0, rfl⟩ := ints_form i0
      obtain ⟨a1, c1, rfl⟩ := ints_form i1
      obtain ⟨a2, c2, rfl⟩ := ints_form i2
      obtain ⟨a3, c3, rfl⟩ := ints_form i3
      clear x0 x1 x2 x3 i0 i1 i2 i3 C
      generalize (qn Q (k * 4)).length = m0 at *
      generalize (qn Q (k * 4 + 1)).length = m1 at *
      generalize (qn Q (k * 4 + 2)).length = m2 at *
      generalize (qn Q (k * 4 + 3)).length = m3 at *
      cases y : okq Q k
      · have HR := hide ((unhide HBad) k hlt y)
        rw [y] at C2
        go_wp2_with fail
        refine (unhide C2).mono ?_
        rintro e w2 ⟨rfl, hb2⟩
        have B2 := hide ((unhide B1).trans (hb2.mono (unhide B1).size))
        clear hb2
        go_wp2
        go_ret
        exact ⟨by rw [unhide HR]; rfl, unhide B2⟩
      · have HK2 : Hid (okk Q (k + 1) = true) := hide (by unfold okk; rw [unhide HK, y]; rfl)
        rw [y] at C2
        go_wp2_with fail
        refine (unhide C2).mono ?_
        rintro e w2 ⟨rfl, hb2⟩
        have B2 := hide ((unhide B1).trans (hb2.mono (unhide B1).size))
        clear hb2
        go_wp2
        go_roundw
        case rel => exact ⟨k + 1, by omega, by go_num, HK2, B2⟩
        case measure => simp [intOf]; omega
    · obtain rfl : k = n := by omega
      have HR := hide ((unhide HGood) (unhide HK))
      go_wp2
      go_ret
      exact ⟨by rw [unhide HR]; rfl, unhide HB⟩
theorem ok1_no (L0 L1 L2 L3 : List Int) (h : ¬ 0 < L1.length ∨ okI L1 8 = false ∨ okI L0 4 = false ∨ okI L2 4 = false ∨ okI L3 8 = false) : ok1 L0 L1 L2 L3 = false := by
  unfold ok1
  rcases h with h | h | h | h | h
  · rw [decide_eq_false h]; simp
  · rw [h]; simp
  · rw [h]; simp
  · rw [h]; simp
  · rw [h]; simp
theorem ok1_yes (L0 L1 L2 L3 : List Int) (h : 0 < L1.length) (h1 : okI L1 8 = true) (h0 : okI L0 4 = true) (h2 : okI L2 4 = true) (h3 : okI L3 8 = true) : ok1 L0 L1 L2 L3 = true := by
  unfold ok1
  rw [decide_eq_true h, h1, h0, h2, h3]; rfl
set_option maxRecDepth 100000 in
set_option maxHeartbeats 8000000 in
theorem rulesRight_any (v : Value) (n : Nat) (Q : List (List Int)) (w : World) (hv : RuI w v n Q) (hl : n ≤ 1048576) (hs : AllB Q 1048576) :
    Calls Tryz.prog 40 #[v] w fun e w' => e = .returned (.bool (okR n Q)) ∧ Below w.heap.size w w' := by
  obtain ⟨a, cap, rfl, hf⟩ := hv.form
  have HV := hide hf
  have HS := hide hs
  clear hv hs hf
  have HBad := hide (fun i hi h => okR_bad (n := n) (Q := Q) (i := i) hi h)
  have HGood := hide (fun h1 h => okR_good (n := n) (Q := Q) h1 h)
  have HLong := hide (fun h1 => okR_long (n := n) (Q := Q) h1)
  generalize okR n Q = R at *
  go_enter Tryz.func40, Tryz.ntmps40
  go_wp2
  go_loopw [3] (fun i wr => ∃ k : Nat, k ≤ n ∧ i = .int .i64 k ∧ Hid (okk Q k = true) ∧ Hid (Below w.heap.size w wr)) (fun i _ => n - (intOf i).toNat)
  case atStart => exact ⟨0, Nat.zero_le _, rfl, hide rfl, hide (Below.refl _ _)⟩
  case round =>
    obtain ⟨k, hk, rfl, HK, HB⟩ := hrel
    by_cases hlt : k < n
    · have hlt' : (k : Int) < (n : Int) := by omega
      obtain ⟨b, off, rfl, hbs, u0, u1, u2, u3, ⟨x0, x1, x2, x3⟩, i0, i1, i2, i3⟩ := (unhide HV) k hlt
      have d0 := ((unhide HB).cell (p := ⟨b, off + k * 4, none⟩) hbs).trans x0
      have d1 := ((unhide HB).cell (p := ⟨b, off + k * 4 + 1, none⟩) hbs).trans x1
      have d2 := ((unhide HB).cell (p := ⟨b, off + k * 4 + 2, none⟩) hbs).trans x2
      have d3 := ((unhide HB).cell (p := ⟨b, off + k * 4 + 3, none⟩) hbs).trans x3
      have B1 := hide ((unhide HB).alloc (unhide HB).size (.cells #[u0, u1, u2, u3] 77))
      have C0 := hide (l10Ids_any u0 _ 4 _ (i0.below (unhide B1)) ((unhide HS) _) (by omega))
      have C1 := hide (l10Ids_any u1 _ 8 _ (i1.below (unhide B1)) ((unhide HS) _) (by omega))
      have C2 := hide (l10Ids_any u2 _ 4 _ (i2.below (unhide B1)) ((unhide HS) _) (by omega))
      have C3 := hide (l10Ids_any u3 _ 8 _ (i3.below (unhide B1)) ((unhide HS) _) (by omega))
      have HNo := hide (fun h => (unhide HBad) k hlt (ok1_no (qn Q (k * 4)) (qn Q (k * 4 + 1)) (qn Q (k * 4 + 2)) (qn Q (k * 4 + 3)) h))
      have HYes : Hid (∀ h h1 h0 h2 h3, okk Q (k + 1) = true) := hide (fun h h1 h0 h2 h3 => by
        unfold okk
        rw [unhide HK]
        exact ok1_yes (qn Q (k * 4)) (qn Q (k * 4 + 1)) (qn Q (k * 4 + 2)) (qn Q (k * 4 + 3)) h h1 h0 h2 h3)
      obtain ⟨a0, c0, rfl⟩ := ints_form i0
      obtain ⟨a1, c1, rfl⟩ := ints_form i1
      obtain ⟨a2, c2, rfl⟩ := ints_form i2
      obtain ⟨a3, c3, rfl⟩ := ints_form i3
      clear x0 x1 x2 x3 i0 i1 i2 i3
      generalize qn Q (k * 4) = L0 at *
      generalize qn Q (k * 4 + 1) = L1 at *
      generalize qn Q (k * 4 + 2) = L2 at *
      generalize qn Q (k * 4 + 3) = L3 at *
      by_cases t : 0 < L1.length
      · have t' : ¬ (L1.length : Int) < 1 := by omega
        cases y0 : okI L1 8
        · rw [y0] at C1
          have HR := hide ((unhide HNo) (.inr (.inl y0)))
          go_wp2_with fail
          refine (unhide C1).mono ?_
          rintro e w1 ⟨rfl, e1⟩
          have e2 := e1.symm
          subst e2
          clear e1
          go_wp2
          go_ret
          exact ⟨by rw [unhide HR]; rfl, unhide B1⟩
        · rw [y0] at C1
          cases y1 : okI L0 4
          · rw [y1] at C0
            have HR := hide ((unhide HNo) (.inr (.inr (.inl y1))))
            go_wp2_with fail
            refine (unhide C1).mono ?_
            rintro e w1 ⟨rfl, e1⟩
            have e2 := e1.symm
            subst e2
            clear e1
            go_wp2_with fail
            refine (unhide C0).mono ?_
            rintro e w1 ⟨rfl, e1⟩
            have e2 := e1.symm
            subst e2
            clear e1
            go_wp2
            go_ret
            exact ⟨by rw [unhide HR]; rfl, unhide B1⟩
          · rw [y1] at C0
            cases y2 : okI L2 4
            · rw [y2] at C2
              have HR := hide ((unhide HNo) (.inr (.inr (.inr (.inl y2)))))
              go_wp2_with fail
              refine (unhide C1).mono ?_
              rintro e w1 ⟨rfl, e1⟩
              have e2 := e1.symm
              subst e2
              clear e1
              go_wp2_with fail
              refine (unhide C0).mono ?_
              rintro e w1 ⟨rfl, e1⟩
              have e2 := e1.symm
              subst e2
              clear e1
              go_wp2_with fail
              refine (unhide C2).mono ?_
              rintro e w1 ⟨rfl, e1⟩
              have e2 := e1.symm
              subst e2
              clear e1
              go_wp2
              go_ret
              exact ⟨by rw [unhide HR]; rfl, unhide B1⟩
            · rw [y2] at C2
              cases y3 : okI L3 8
              · rw [y3] at C3
                have HR := hide ((unhide HNo) (.inr (.inr (.inr (.inr y3)))))
                go_wp2_with fail
                refine (unhide C1).mono ?_
                rintro e w1 ⟨rfl, e1⟩
                have e2 := e1.symm
                subst e2
                clear e1
                go_wp2_with fail
                refine (unhide C0).mono ?_
                rintro e w1 ⟨rfl, e1⟩
                have e2 := e1.symm
                subst e2
                clear e1
                go_wp2_with fail
                refine (unhide C2).mono ?_
                rintro e w1 ⟨rfl, e1⟩
                have e2 := e1.symm
                subst e2
                clear e1
                go_wp2_with fail
                refine (unhide C3).mono ?_
                rintro e w1 ⟨rfl, e1⟩
                have e2 := e1.symm
                subst e2
                clear e1
                go_wp2
                go_ret
                exact ⟨by rw [unhide HR]; rfl, unhide B1⟩
              · rw [y3] at C3
                have HK2 := hide ((unhide HYes) t y0 y1 y2 y3)
                go_wp2_with fail
                refine (unhide C1).mono ?_
                rintro e w1 ⟨rfl, e1⟩
                have e2 := e1.symm
                subst e2
                clear e1
                go_wp2_with fail
                refine (unhide C0).mono ?_
                rintro e w1 ⟨rfl, e1⟩
                have e2 := e1.symm
                subst e2
                clear e1
                go_wp2_with fail
                refine (unhide C2).mono ?_
                rintro e w1 ⟨rfl, e1⟩
                have e2 := e1.symm
                subst e2
                clear e1
                go_wp2_with fail
                refine (unhide C3).mono ?_
                rintro e w1 ⟨rfl, e1⟩
                have e2 := e1.symm
                subst e2
                clear e1
                go_wp2
                go_roundw
                case rel => exact ⟨k + 1, by omega, by go_num, HK2, B1⟩
                case measure => simp [intOf]; omega
      · have t' : (L1.length : Int) < 1 := by omega
        have HR := hide ((unhide HNo) (.inl t))
        go_wp2
        go_ret
        exact ⟨by rw [unhide HR]; rfl, unhide B1⟩
    · obtain rfl : k = n := by omega
      by_cases t : k ≤ 100
      · have t' : (k : Int) ≤ 100 := by omega
        have HR := hide ((unhide HGood) t (unhide HK))
        go_wp2
        go_ret
        exact ⟨by rw [unhide HR]; rfl, unhide HB⟩
      · have t' : ¬ (k : Int) ≤ 100 := by omega
        have HR := hide ((unhide HLong) (by omega))
        go_wp2
        go_ret
        exact ⟨by rw [unhide HR]; rfl, unhide HB⟩
end Go.Proofs.YtfldomifooihlaaGreatDoor.Rul
/- A rule done on a row of glyphs, step by step. No Go in sight. -/
namespace Go.Proofs.YtfldomifooihlaaGreatDoor.Rul
set_option linter.unusedVariables false
/-- The first k numbers of L stand in G from o on. -/
def bwk (G : List Gl) (o : Nat) (L : List Int) : Nat → Bool
  | 0 => true
  | k + 1 => bwk G o L k && ((gat G (o + k)).1 == nth L k)
def atq (G : List Gl) (o : Nat) (L : List Int) : Bool := decide (o + L.length ≤ G.length) && bwk G o L L.length
theorem bwk_bad {G : List Gl} {o : Nat} {L : List Int} {k j : Nat} (hj : j < k) (h : ((gat G (o + j)).1 == nth L j) = false) : bwk G o L k = false := by
  induction k with
  | zero => omega
  | succ k ih =>
    unfold bwk
    by_cases e : j = k
    · subst e; rw [h, Bool.and_false]
    · rw [ih (by omega), Bool.false_and]
theorem atq_long {G : List Gl} {o : Nat} {L : List Int} (h : G.length < o + L.length) : atq G o L = false := by unfold atq; rw [decide_eq_false (by omega), Bool.false_and]
theorem atq_bad {G : List Gl} {o : Nat} {L : List Int} {j : Nat} (hj : j < L.length) (h : ((gat G (o + j)).1 == nth L j) = false) : atq G o L = false := by unfold atq; rw [bwk_bad hj h, Bool.and_false]
theorem atq_good {G : List Gl} {o : Nat} {L : List Int} (h : o + L.length ≤ G.length) (hb : bwk G o L L.length = true) : atq G o L = true := by unfold atq; rw [decide_eq_true h, hb]; rfl
theorem atq_le {G : List Gl} {o : Nat} {L : List Int} (h : atq G o L = true) : o + L.length ≤ G.length := by
  unfold atq at h
  simp at h
  exact h.1
theorem gat_drop (G : List Gl) (i j : Nat) : gat (G.drop i) j = gat G (i + j) := by
  unfold gat
  rw [List.getD_eq_getElem?_getD, List.getD_eq_getElem?_getD, List.getElem?_drop]
theorem bwk_drop (G : List Gl) (i : Nat) (L : List Int) (k : Nat) : bwk (G.drop i) 0 L k = bwk G i L k := by
  induction k with
  | zero => rfl
  | succ k ih => unfold bwk; rw [ih, gat_drop, Nat.zero_add]
theorem atq_drop (G : List Gl) (i : Nat) (L : List Int) (hi : i ≤ G.length) : atq (G.drop i) 0 L = atq G i L := by
  unfold atq
  rw [bwk_drop]
  congr 1
  rw [List.length_drop]
  exact decide_eq_decide.2 (by omega)
theorem atq_nil (G : List Gl) (o : Nat) (h : o ≤ G.length) : atq G o [] = true := atq_good (by simpa using h) rfl
/-- A rule fits: A ahead, I itself, B behind; D is what is done, i how far. -/
def fit (A I B : List Int) (G : List Gl) (i : Nat) (D : List Gl) : Bool := atq G i I && (decide (A.length ≤ D.length) && atq D (D.length - A.length) A && atq G (i + I.length) B)
theorem fit_le {A I B : List Int} {G : List Gl} {i : Nat} {D : List Gl} (h : fit A I B G i D = true) : i + I.length ≤ G.length := by
  unfold fit at h
  simp at h
  exact atq_le h.1
theorem fit_plain {I : List Int} {G : List Gl} {i : Nat} {D : List Gl} : fit [] I [] G i D = atq G i I := by
  unfold fit
  cases h : atq G i I
  · rfl
  · have := atq_le h
    rw [atq_nil D _ (by simp), atq_nil G _ this]
    simp
/-- What a rule puts in the place of a glyph. -/
def mkg (g : Gl) (x : Int) : Gl := (x, g.2.1, g.2.2.1, 0, 0)
def stp (A I B P : List Int) (G : List Gl) (s : Nat × List Gl) : Nat × List Gl :=
  if s.1 < G.length then (if fit A I B G s.1 s.2 = true then (s.1 + I.length, s.2 ++ P.map (mkg (gat G s.1))) else (s.1 + 1, s.2 ++ [gat G s.1])) else s
def itr (A I B P : List Int) (G : List Gl) : Nat → Nat × List Gl
  | 0 => (0, [])
  | k + 1 => stp A I B P G (itr A I B P G k)
/-- What a rule makes of a row of glyphs. -/
def rul (A I B P : List Int) (G : List Gl) : List Gl := (itr A I B P G G.length).2
theorem itr_fit {A I B P : List Int} {G : List Gl} {k i : Nat} {D : List Gl} (h : itr A I B P G k = (i, D)) (hi : i < G.length) (hf : fit A I B G i D = true) : itr A I B P G (k + 1) = (i + I.length, D ++ P.map (mkg (gat G i))) := by
  show stp A I B P G (itr A I B P G k) = _
  rw [h]
  unfold stp
  rw [if_pos hi, if_pos hf]
theorem itr_not {A I B P : List Int} {G : List Gl} {k i : Nat} {D : List Gl} (h : itr A I B P G k = (i, D)) (hi : i < G.length) (hf : fit A I B G i D = false) : itr A I B P G (k + 1) = (i + 1, D ++ [gat G i]) := by
  show stp A I B P G (itr A I B P G k) = _
  rw [h]
  unfold stp
  rw [if_pos hi, if_neg (by rw [hf]; simp)]
theorem itr_end {A I B P : List Int} {G : List Gl} {k : Nat} (h : ¬ (itr A I B P G k).1 < G.length) (m : Nat) : itr A I B P G (k + m) = itr A I B P G k := by
  induction m with
  | zero => rfl
  | succ m ih =>
    show stp A I B P G (itr A I B P G (k + m)) = _
    rw [ih]
    unfold stp
    rw [if_neg h]
theorem itr_far {A I B P : List Int} (hI : 0 < I.length) (G : List Gl) (k : Nat) : k ≤ (itr A I B P G k).1 ∨ ¬ (itr A I B P G k).1 < G.length := by
  induction k with
  | zero => exact .inl (Nat.zero_le _)
  | succ k ih =>
    by_cases hi : (itr A I B P G k).1 < G.length
    · rcases ih with h | h
      · left
        cases hf : fit A I B G (itr A I B P G k).1 (itr A I B P G k).2
        · rw [itr_not (i := (itr A I B P G k).1) (D := (itr A I B P G k).2) rfl hi hf]; simp; omega
        · rw [itr_fit (i := (itr A I B P G k).1) (D := (itr A I B P G k).2) rfl hi hf]; simp; omega
      · exact absurd hi h
    · right
      rw [itr_end hi 1]
      exact hi
theorem rul_is {A I B P : List Int} (hI : 0 < I.length) {G : List Gl} {k i : Nat} {D : List Gl} (h : itr A I B P G k = (i, D)) (hi : ¬ i < G.length) : rul A I B P G = D := by
  unfold rul
  by_cases hk : k ≤ G.length
  · have := itr_end (A := A) (I := I) (B := B) (P := P) (G := G) (k := k) (by rw [h]; exact hi) (G.length - k)
    rw [show k + (G.length - k) = G.length by omega] at this
    rw [this, h]
  · have hl : ¬ (itr A I B P G G.length).1 < G.length := by
      rcases itr_far (A := A) (B := B) (P := P) hI G G.length with e | e
      · omega
      · exact e
    have := itr_end hl (k - G.length)
    rw [show G.length + (k - G.length) = k by omega] at this
    rw [← this, h]
theorem itr_le {A I B P : List Int} (hI : 0 < I.length) (hP : P.length ≤ 8) (G : List Gl) (k : Nat) : (itr A I B P G k).1 ≤ G.length ∧ (itr A I B P G k).2.length ≤ 8 * (itr A I B P G k).1 := by
  induction k with
  | zero => simp [itr]
  | succ k ih =>
    by_cases hi : (itr A I B P G k).1 < G.length
    · cases hf : fit A I B G (itr A I B P G k).1 (itr A I B P G k).2
      · rw [itr_not (i := (itr A I B P G k).1) (D := (itr A I B P G k).2) rfl hi hf]; simp; omega
      · have := fit_le hf
        rw [itr_fit (i := (itr A I B P G k).1) (D := (itr A I B P G k).2) rfl hi hf]; simp; omega
    · rw [itr_end hi 1]; exact ih
theorem rul_len {A I B P : List Int} (hI : 0 < I.length) (hP : P.length ≤ 8) (G : List Gl) : (rul A I B P G).length ≤ 8 * G.length := by
  have h := itr_le (A := A) (B := B) (P := P) hI hP G G.length
  unfold rul
  omega
/-- The rule i of a row of rules. -/
def rulq (Q : List (List Int)) (i : Nat) (G : List Gl) : List Gl := rul (qn Q (i * 4)) (qn Q (i * 4 + 1)) (qn Q (i * 4 + 2)) (qn Q (i * 4 + 3)) G
/-- The first k rules, one after the other, as long as there are not too many glyphs. -/
def alk (Q : List (List Int)) (G : List Gl) : Nat → List Gl
  | 0 => G
  | k + 1 => if (alk Q G k).length ≤ 1000 then rulq Q k (alk Q G k) else alk Q G k
theorem alk_more {Q : List (List Int)} {G : List Gl} {k : Nat} (h : (alk Q G k).length ≤ 1000) : alk Q G (k + 1) = rulq Q k (alk Q G k) := if_pos h
theorem alk_stop {Q : List (List Int)} {G : List Gl} {k n : Nat} (hk : k ≤ n) (h : ¬ (alk Q G k).length ≤ 1000) : alk Q G n = alk Q G k := by
  induction n with
  | zero => obtain rfl : k = 0 := by omega
            rfl
  | succ n ih =>
    by_cases e : k = n + 1
    · subst e; rfl
    · have i := ih (by omega)
      show (if (alk Q G n).length ≤ 1000 then _ else alk Q G n) = _
      rw [i, if_neg h]
/-- What ApplyRules answers. -/
def apl (n : Nat) (Q : List (List Int)) (G : List Gl) : List Gl := if G.length ≤ 1000 ∧ okR n Q = true ∧ (alk Q G n).length ≤ 1000 then alk Q G n else []
theorem okq_parts {Q : List (List Int)} {i : Nat} (h : okq Q i = true) : 0 < (qn Q (i * 4 + 1)).length ∧ (qn Q (i * 4 + 1)).length ≤ 8 ∧ (qn Q (i * 4 + 3)).length ≤ 8 ∧ (qn Q (i * 4)).length ≤ 4 ∧ (qn Q (i * 4 + 2)).length ≤ 4 := by
  unfold okq ok1 okI at h
  simp at h
  omega
end Go.Proofs.YtfldomifooihlaaGreatDoor.Rul
/- Ids at a place; glyphs put in the place of one. -/
namespace Go.Proofs.YtfldomifooihlaaGreatDoor.Rul
open Go.RowKit
set_option linter.unusedVariables false
theorem wrap_inR (x : Int) (h1 : -9223372036854775808 ≤ x) (h2 : x ≤ 9223372036854775807) : IntKind.i64.wrap x = x := by
  simp [IntKind.wrap, IntKind.bits, IntKind.signed]
  omega
theorem ints_cells {w : World} {a : Option Addr} {n c : Nat} {L : List Int} (h : IntsAt w (.slice a n c) L) : n = L.length ∧ ∀ k, k < L.length → ∃ b off, a = some ⟨b, off, none⟩ ∧ b < w.heap.size ∧ w.cell? ⟨b, off + k, none⟩ = some (.int .i64 (nth L k)) := by
  obtain ⟨a', c', e, h⟩ := h
  injection e with e1 e2 e3
  subst e1
  refine ⟨e2, fun k hk => ?_⟩
  rcases h with rfl | ⟨b, off, rfl, hb, hc⟩
  · simp at hk
  · exact ⟨b, off, rfl, hb, hc k hk⟩
set_option maxRecDepth 100000 in
set_option maxHeartbeats 4000000 in
theorem begin_any (v u : Value) (R : List Gl) (L : List Int) (w : World) (hv : GA w v R) (hu : IntsAt w u L) (hR : R.length ≤ 1048576) (hL : L.length ≤ 1048576) :
    Calls Tryz.prog 108 #[v, u] w fun e w' => e = .returned (.bool (atq R 0 L)) ∧ w' = w := by
  obtain ⟨a, c, rfl, hf⟩ := hv.form
  obtain ⟨a2, c2, rfl⟩ := ints_form hu
  have HV := hide hf
  have HU := hide (ints_cells hu).2
  clear hv hu hf
  by_cases h : R.length < L.length
  · have h' : (R.length : Int) < (L.length : Int) := by omega
    have HE := hide (atq_long (G := R) (o := 0) (L := L) (by omega))
    generalize atq R 0 L = Z at *
    go_enter Tryz.func108, Tryz.ntmps108
    go_wp2
    go_ret
    exact ⟨by rw [unhide HE]; rfl, rfl⟩
  have h' : ¬ (R.length : Int) < (L.length : Int) := by omega
  have HBad := hide (fun j hj e => atq_bad (G := R) (o := 0) (L := L) (j := j) hj e)
  have HGood := hide (fun e => atq_good (G := R) (o := 0) (L := L) (by omega) e)
  generalize atq R 0 L = Z at *
  go_enter Tryz.func108, Tryz.ntmps108
  go_wp2
  go_loopw [14] (fun i wr => ∃ k : Nat, k ≤ L.length ∧ i = .int .i64 k ∧ Hid (bwk R 0 L k = true) ∧ wr = w) (fun i _ => L.length - (intOf i).toNat)
  case atStart => exact ⟨0, Nat.zero_le _, rfl, hide rfl, rfl⟩
  case round =>
    obtain ⟨k, hk, rfl, HK, rfl⟩ := hrel
    by_cases hlt : k < L.length
    · have hlt' : (k : Int) < (L.length : Int) := by omega
      have hltR : (k : Int) < (R.length : Int) := by omega
      obtain ⟨b, off, rfl, _, c0, _⟩ := (unhide HV) k (by omega)
      obtain ⟨b2, o2, rfl, _, d0⟩ := (unhide HU) k hlt
      have hB := (unhide HBad) k hlt
      have hG : Hid (((gat R k).1 == nth L k) = true → bwk R 0 L (k + 1) = true) := hide (fun e => by
        unfold bwk
        rw [unhide HK, Nat.zero_add, e]; rfl)
      rw [Nat.zero_add] at hB
      have HB2 := hide hB
      clear hB
      generalize (gat R k).1 = x at *
      generalize nth L k = y at *
      by_cases e : x = y
      · have e1 : (x != y) = false := by simp [e]
        have HK2 := hide ((unhide hG) (by simp [e]))
        clear e hG HB2
        go_wp2
        go_roundw
        case rel => exact ⟨k + 1, by omega, by go_num, HK2, trivial⟩
        case measure => simp [intOf]; omega
      · have e1 : (x != y) = true := by simp [e]
        have HZ := hide ((unhide HB2) (by simp [e]))
        clear e hG HB2
        go_wp2
        go_ret
        exact ⟨by rw [unhide HZ]; rfl, rfl⟩
    · obtain rfl : k = L.length := by omega
      have HZ := hide ((unhide HGood) (unhide HK))
      go_wp2
      go_ret
      exact ⟨by rw [unhide HZ]; rfl, rfl⟩
theorem l10At_neg (v u : Value) (R : List Gl) (L : List Int) (at0 : Int) (w : World) (hv : GA w v R) (hu : IntsAt w u L) (h : at0 < 0) :
    Calls Tryz.prog 71 #[v, .int .i64 at0, u] w fun e w' => e = .returned (.bool false) ∧ w' = w := by
  obtain ⟨a, c, rfl, hf⟩ := hv.form
  obtain ⟨a2, c2, rfl⟩ := ints_form hu
  clear hv hu hf
  go_enter Tryz.func71, Tryz.ntmps71
  go_wp2
  go_ret
  exact ⟨rfl, rfl⟩
set_option maxRecDepth 100000 in
set_option maxHeartbeats 4000000 in
theorem l10At_any (v u : Value) (R : List Gl) (L : List Int) (o : Nat) (w : World) (hv : GA w v R) (hu : IntsAt w u L) (hR : R.length ≤ 1048576) (hL : L.length ≤ 1048576) (ho : o ≤ 2097152) :
    Calls Tryz.prog 71 #[v, .int .i64 o, u] w fun e w' => e = .returned (.bool (atq R o L)) ∧ Below w.heap.size w w' := by
  obtain ⟨a, c, rfl, hf⟩ := hv.form
  obtain ⟨a2, c2, rfl⟩ := ints_form hu
  have HV := hide hf
  have HU := hide (ints_cells hu).2
  clear hv hu hf
  have h0 : ¬ (o : Int) < 0 := by omega
  by_cases h : R.length < o + L.length
  · have h' : (R.length : Int) < (o : Int) + (L.length : Int) := by omega
    have HE := hide (atq_long (G := R) (o := o) (L := L) (by omega))
    generalize atq R o L = Z at *
    go_enter Tryz.func71, Tryz.ntmps71
    go_wp2
    go_ret
    exact ⟨by rw [unhide HE]; rfl, Below.refl _ _⟩
  have h' : ¬ (R.length : Int) < (o : Int) + (L.length : Int) := by omega
  have HBad := hide (fun j hj e => atq_bad (G := R) (o := o) (L := L) (j := j) hj e)
  have HGood := hide (fun e => atq_good (G := R) (o := o) (L := L) (by omega) e)
  generalize atq R o L = Z at *
  go_enter Tryz.func71, Tryz.ntmps71
  go_wp2
  go_loopw [7] (fun i wr => ∃ k : Nat, k ≤ L.length ∧ i = .int .i64 k ∧ Hid (bwk R o L k = true) ∧ Hid (Below w.heap.size w wr)) (fun i _ => L.length - (intOf i).toNat)
  case atStart => exact ⟨0, Nat.zero_le _, rfl, hide rfl, hide (Below.refl _ _)⟩
  case round =>
    obtain ⟨k, hk, rfl, HK, HB⟩ := hrel
    by_cases hlt : k < L.length
    · have hlt' : (k : Int) < (L.length : Int) := by omega
      obtain ⟨q, hq⟩ : ∃ q, q = o + k := ⟨_, rfl⟩
      have hqq : (o : Int) + (k : Int) = (q : Int) := by omega
      have hq2 : (q : Int) < (R.length : Int) := by omega
      have hq3 : (0 : Int) ≤ (q : Int) := by omega
      have hk3 : (0 : Int) ≤ (k : Int) := by omega
      have hwr : IntKind.i64.wrap (q : Int) = (q : Int) := wrap_inR _ (by omega) (by omega)
      obtain ⟨b, off, rfl, hb, c0, _⟩ := (unhide HV) q (by omega)
      obtain ⟨b2, o2, rfl, hb2, d0⟩ := (unhide HU) k hlt
      have c1 := ((unhide HB).cell (p := ⟨b, off + q * 5, none⟩) hb).trans c0
      have d1 := ((unhide HB).cell (p := ⟨b2, o2 + k, none⟩) hb2).trans d0
      have hB := (unhide HBad) k hlt
      rw [← hq] at hB
      have hG : Hid (((gat R q).1 == nth L k) = true → bwk R o L (k + 1) = true) := hide (fun e => by
        unfold bwk
        rw [unhide HK, ← hq, e]; rfl)
      have HB2 := hide hB
      clear hB c0 d0 hq
      generalize (gat R q).1 = x at *
      generalize nth L k = y at *
      by_cases e : x = y
      · have e1 : (x != y) = false := by simp [e]
        have HK2 := hide ((unhide hG) (by simp [e]))
        clear e hG HB2
        go_wp2
        go_quiet (fail)
        go_wp2
        go_roundw
        case rel => exact ⟨k + 1, by omega, by go_num, HK2, hide (bdrew (unhide HB) _)⟩
        case measure => simp [intOf]; omega
      · have e1 : (x != y) = true := by simp [e]
        have HZ := hide ((unhide HB2) (by simp [e]))
        clear e hG HB2
        go_wp2
        go_quiet (fail)
        go_wp2
        go_ret
        exact ⟨by rw [unhide HZ]; rfl, bdrew (unhide HB) _⟩
    · obtain rfl : k = L.length := by omega
      have HZ := hide ((unhide HGood) (unhide HK))
      go_wp2
      go_ret
      exact ⟨by rw [unhide HZ]; rfl, unhide HB⟩
/-- The row of what is done: of one's own since w0. -/
structure GD (w0 w : World) (va : Option Addr) (m vc : Nat) (D : List Gl) : Prop where
  len : m = D.length
  som : ∃ g, va = some ⟨g, 0, none⟩
  row : w.ownsRow w0.heap.size 52 5 (.slice va m vc) m ((flt D).map (Value.int .i64))
  bel : Below w0.heap.size w0 w
theorem GD.gr {w0 w : World} {va : Option Addr} {m vc : Nat} {D : List Gl} (h : GD w0 w va m vc D) : GR w w0.heap.size (.slice va m vc) D := by
  have := h.row
  rw [h.len] at this ⊢
  exact this
theorem GD.below {w0 w w' : World} {va : Option Addr} {m vc : Nat} {D : List Gl} (h : GD w0 w va m vc D) (hb : Below w.heap.size w w') : GD w0 w' va m vc D := ⟨h.len, h.som, ownsRow_below h.row hb, h.bel.trans (hb.mono h.bel.size)⟩
theorem GD.ow {w0 w : World} {va : Option Addr} {m vc : Nat} {D : List Gl} (h : GD w0 w va m vc D) : ∀ k, (Value.slice va m vc).ownBlock = some k → w0.heap.size ≤ k ∧ k < w.heap.size := fun k hk => World.ownsRow.lt h.row k hk
theorem GD.cap {w0 w : World} {va : Option Addr} {m vc : Nat} {D : List Gl} (h : GD w0 w va m vc D) : m ≤ vc := by
  rcases h.row.2 with ⟨hv, h0⟩ | ⟨g, cap, cur, hv, _, _, hc, _⟩
  · injection hv with _ _ e3; omega
  · injection hv with _ _ e3; omega
def cv (g : Gl) : List Value := [.int .i64 g.1, .int .i64 g.2.1, .int .i64 g.2.2.1, .int .i64 g.2.2.2.1, .int .i64 g.2.2.2.2]
theorem own_form {w : World} {B : Nat} {e : TypeId} {s n : Nat} {v : Value} {xs : List Value} (h : w.ownsRow B e s v n xs) : ∃ a c, v = .slice a n c := by
  rcases h.2 with ⟨hv, h0⟩ | ⟨g, cap, cur, hv, hg, _⟩
  · subst h0; exact ⟨_, _, hv⟩
  · exact ⟨_, _, hv⟩
theorem GD.app {w0 w w3 : World} {o : Obj} {va : Option Addr} {m vc : Nat} {D : List Gl} {v' : Value} {g : Gl} (h : GD w0 w va m vc D) (hown : w3.ownsRow w0.heap.size 52 5 v' (m + 1) ((flt D).map (Value.int .i64) ++ cv g)) (hgrow : (w.alloc o).grownBy w3 (Value.slice va m vc).ownBlock) :
    ∃ va' vc', v' = .slice va' (m + 1) vc' ∧ GD w0 w3 va' (m + 1) vc' (D ++ [g]) := by
  obtain ⟨g', c, rfl⟩ : ∃ g' c, v' = .slice (some ⟨g', 0, none⟩) (m + 1) c := by
    rcases hown.2 with ⟨_, h0⟩ | ⟨g', cap, cur, hv, hg, _⟩
    · omega
    · exact ⟨_, _, hv⟩
  refine ⟨_, c, rfl, by rw [List.length_append, h.len]; rfl, ⟨_, rfl⟩, ?_, ?_⟩
  · rw [flt_app, flt_one, List.map_append]
    exact hown
  · have b1 := h.bel.alloc h.bel.size o
    exact b1.trans ((Below.refl _ _).grown hgrow b1.size (fun k hk => (h.ow k hk).1))
theorem five_cells {w : World} {q : Nat} {a b c d e : Value} {T : TypeId} (h : w.heap[q]? = some (.cells #[a, b, c, d, e] T (0, 0))) : w.cell? ⟨q, 0, none⟩ = some a ∧ w.cell? ⟨q, 1, none⟩ = some b ∧ w.cell? ⟨q, 2, none⟩ = some c ∧ w.cell? ⟨q, 3, none⟩ = some d ∧ w.cell? ⟨q, 4, none⟩ = some e := by
  simp [World.cell?, h]
theorem five_new (w : World) (g : Gl) : ∀ j u, (cv g)[j]? = some u → (w.alloc (.cells #[.int .i64 g.1, .int .i64 g.2.1, .int .i64 g.2.2.1, .int .i64 g.2.2.2.1, .int .i64 g.2.2.2.2] 52)).cell? ((⟨w.heap.size, 0, none⟩ : Addr).add j) = some u := by
  intro j u h
  have hb := heap_new w (.cells #[.int .i64 g.1, .int .i64 g.2.1, .int .i64 g.2.2.1, .int .i64 g.2.2.2.1, .int .i64 g.2.2.2.2] 52)
  have hj : j < 5 := by
    have := (List.getElem?_eq_some_iff.1 h).1
    simpa [cv] using this
  obtain ⟨c0, c1, c2, c3, c4⟩ := five_cells hb
  have hj2 : j = 0 ∨ j = 1 ∨ j = 2 ∨ j = 3 ∨ j = 4 := by omega
  have ea : (⟨w.heap.size, 0, none⟩ : Addr).add j = ⟨w.heap.size, j, none⟩ := by
    simp [Addr.add]
    omega
  rw [ea]
  rcases hj2 with rfl | rfl | rfl | rfl | rfl <;> simp [cv] at h <;> subst h
  · exact c0
  · exact c1
  · exact c2
  · exact c3
  · exact c4
theorem five_one (g : Gl) : ∀ u ∈ cv g, u.oneCell' = true := by
  intro u hu
  simp [cv] at hu
  rcases hu with rfl | rfl | rfl | rfl | rfl <;> rfl
/-- What is done when k of the glyphs are put. -/
def ptk (D : List Gl) (P : List Int) (g : Gl) (k : Nat) : List Gl := D ++ (P.take k).map (mkg g)
theorem map_take {P : List Int} {k : Nat} (hk : k < P.length) (g : Gl) (D : List Gl) : ptk D P g k ++ [mkg g (nth P k)] = ptk D P g (k + 1) := by
  unfold ptk
  rw [List.take_succ_eq_append_getElem hk, List.map_append, List.append_assoc]
  have e2 : nth P k = P[k] := by simp [nth, List.getD, hk]
  rw [e2]
  rfl
set_option maxRecDepth 100000 in
set_option maxHeartbeats 8000000 in
theorem appendPut_any (w0 w : World) (va : Option Addr) (m vc : Nat) (D : List Gl) (u : Value) (P : List Int) (x f c d e : Int) (hD : GD w0 w va m vc D) (hu : IntsAt w0 u P) (hm : m ≤ 1048576) (hP : P.length ≤ 8) :
    Calls Tryz.prog 83 #[.slice va m vc, u, .agg #[.int .i64 x, .int .i64 f, .int .i64 c, .int .i64 d, .int .i64 e]] w fun r w' => ∃ va' vc', r = .returned (.slice va' (m + P.length) vc') ∧ GD w0 w' va' (m + P.length) vc' (D ++ P.map (mkg (x, f, c, d, e))) := by
  obtain ⟨i0, hi, hz0, hz1, hz2⟩ := info_parts infoG
  obtain ⟨a2, c2, rfl⟩ := ints_form hu
  have HU := hide (ints_cells hu).2
  have HD1 := hide (hD.below ((Below.refl w.heap.size w).alloc (Nat.le_refl _) (.cells #[.int .i64 x, .int .i64 f, .int .i64 c, .int .i64 d, .int .i64 e] 52)))
  have HQ := hide (heap_new w (.cells #[.int .i64 x, .int .i64 f, .int .i64 c, .int .i64 d, .int .i64 e] 52))
  have HN : Hid (∀ k, (Value.slice va m vc).ownBlock = some k → k ≠ w.heap.size) := hide (fun k hk => by have := (hD.ow k hk).2; omega)
  have hw0 := hD.bel.size
  clear hD hu
  go_enter Tryz.func83, Tryz.ntmps83
  go_wp2
  go_loopw [0, 11] (fun dv i wr => ∃ (k mk : Nat) (va' : Option Addr) (vc' : Nat), k ≤ P.length ∧ Hid (mk = m + k) ∧ i = .int .i64 k ∧ dv = .slice va' mk vc' ∧ Hid (GD w0 wr va' mk vc' (ptk D P (x, f, c, d, e) k)) ∧ Hid (wr.heap[w.heap.size]? = some (.cells #[.int .i64 x, .int .i64 f, .int .i64 c, .int .i64 d, .int .i64 e] 52 (0, 0))) ∧ Hid (∀ k, (Value.slice va' mk vc').ownBlock = some k → k ≠ w.heap.size)) (fun _ i _ => P.length - (intOf i).toNat)
  case atStart => exact ⟨0, m, va, vc, Nat.zero_le _, hide rfl, rfl, rfl, by have := unhide HD1; unfold ptk; rw [List.take_zero, List.map_nil, List.append_nil]; exact hide this, HQ, HN⟩
  case round =>
    obtain ⟨k, mk, va', vc', hk, hmk, rfl, rfl, HG, HQ2, HN2⟩ := hrel
    clear HD1 HQ HN
    by_cases hlt : k < P.length
    · have hlt' : (k : Int) < (P.length : Int) := by omega
      obtain ⟨b2, o2, rfl, hb2, d0⟩ := (unhide HU) k hlt
      have d1 := ((unhide HG).bel.cell (p := ⟨b2, o2 + k, none⟩) hb2).trans d0
      obtain ⟨_, y1, y2, _, _⟩ := five_cells (unhide HQ2)
      have hq : w.heap.size < wr.heap.size := (Array.getElem?_eq_some_iff.1 (unhide HQ2)).1
      have HT := hide (map_take hlt (x, f, c, d, e) D)
      have hwr := (unhide HG).bel.size
      have hmk2 : mk ≤ 1048576 + 8 := by have := unhide hmk; omega
      have HM2 : Hid (mk + 1 = m + (k + 1)) := hide (by have := unhide hmk; omega)
      clear hmk
      clear d0
      generalize nth P k = y at *
      go_wp2_with (at_builtin; go_loud (refine wpList_appG _ rfl _ _ 28 rfl w0.heap.size 52 i0 (.agg #[.int .i64 0, .int .i64 0, .int .i64 0, .int .i64 0, .int .i64 0]) 5 40 Tryz.underlying28 hi hz0 hz1 hz2 rfl (by decide) _ _ _ rfl (World.ownsRow.alloc (unhide HG).row _) ⟨wr.heap.size, 0, none⟩ 1 1 (cv (y, f, c, 0, 0)) rfl rfl (five_new wr (y, f, c, 0, 0)) (five_one _) (by unfold maxLen; omega) (by omega) (by simp; omega) ?_))
      intro v' w3 hown' hgrow hblk
      obtain ⟨va3, vc3, rfl, HG3⟩ := (unhide HG).app hown' hgrow
      have HG4 : Hid (GD w0 w3 va3 (mk + 1) vc3 (ptk D P (x, f, c, d, e) (k + 1))) := hide (by rw [← unhide HT]; exact HG3)
      have HQ4 : Hid (w3.heap[w.heap.size]? = some (.cells #[.int .i64 x, .int .i64 f, .int .i64 c, .int .i64 d, .int .i64 e] 52 (0, 0))) := hide ((hgrow.block w.heap.size (by simp; omega) (fun e => (unhide HN2) w.heap.size e.symm rfl)).trans ((Below.heap_alloc _ _ _ hq).trans (unhide HQ2)))
      have HN4 : Hid (∀ j, (Value.slice va3 (mk + 1) vc3).ownBlock = some j → j ≠ w.heap.size) := hide (fun j hj => by
        rcases hblk j hj with e | e
        · exact (unhide HN2) j e
        · have e2 : wr.heap.size ≤ j := Nat.le_trans (by simp) e
          omega)
      clear HG HG3 hown' hgrow hblk HQ2 HN2 HT
      go_wp2
      go_roundw
      case rel => exact ⟨k + 1, mk + 1, va3, vc3, by omega, HM2, by go_num, rfl, HG4, HQ4, HN4⟩
      case measure => simp [intOf]; omega
    · obtain rfl : k = P.length := by omega
      have HG4 : Hid (GD w0 wr va' (m + P.length) vc' (D ++ P.map (mkg (x, f, c, d, e)))) := hide (by have := unhide HG; unfold ptk at this; rw [List.take_length, unhide hmk] at this; exact this)
      have hmk2 := unhide hmk
      subst hmk2
      clear hmk
      go_wp2
      go_ret
      exact ⟨_, _, rfl, unhide HG4⟩
end Go.Proofs.YtfldomifooihlaaGreatDoor.Rul
/- A rule at work: what it takes and puts, where it stands, whether it fits. -/
namespace Go.Proofs.YtfldomifooihlaaGreatDoor.Rul
open Go.RowKit
set_option linter.unusedVariables false
/-- Take number i first; its temporary is told. -/
theorem tkR {P : Program} {ops : Array Oper} {Q : Exit → Act → World → Prop} {md : Region.Mode} {S : World → Prop} {i : Nat} {oi : Oper} {d : Option Tmp} {v : Value} {fuel : Nat} {listed : Array Bool} {a : Act} {w : World} (hi : ops[i]? = some oi) (hd : oi.dst = d)
    (hs : Region.noSelect ops = true) (hf : Region.free md ops listed i = true) (hr : (Region.ready md ops listed).contains i = true)
    (hQ : ∀ c a w, Q (.panic c) (a.put d v) w → Q (.panic c) a w) (hy : YieldsIf P ops S oi v a) (hS : S w)
    (h : wpAnyH P md ops Q S fuel (listed.setIfInBounds i true) (a.put d v) w) : wpAnyH P md ops Q S (fuel + 1) listed a w := by
  subst hd
  exact wpAnyH_take hi hs hf hr hQ hy hS h
theorem GA.empty (w : World) (a : Option Addr) (c : Nat) : GA w (.slice a 0 c) [] := ⟨a, c, rfl, .inl rfl⟩
theorem GA.cut {w : World} {b off n c k c' : Nat} {R : List Gl} (h : GA w (.slice (some ⟨b, off, none⟩) n c) R) (hk : k ≤ n) : GA w (.slice (some ⟨b, off + k * 5, none⟩) (n - k) c') (R.drop k) := by
  obtain ⟨a, cap, e, h⟩ := h
  injection e with e1 e2 e3
  subst e2
  refine ⟨some ⟨b, off + k * 5, none⟩, c', by rw [List.length_drop], ?_⟩
  rcases h with rfl | ⟨b', off', e4, hb, hc⟩
  · exact .inl (by simp)
  · rw [e4] at e1
    injection e1 with e5
    injection e5 with e6 e7
    subst e6 e7
    refine .inr ⟨b, off + k * 5, rfl, hb, fun j hj => ?_⟩
    rw [List.length_drop] at hj
    have c1 := hc (k * 5 + j) (by omega)
    rw [← Nat.add_assoc] at c1
    rw [c1]
    have hq : j = j / 5 * 5 + j % 5 := by omega
    have h1 := nth_flt R (k + j / 5) (j % 5) (by omega) (by omega)
    have h2 := nth_flt (R.drop k) (j / 5) (j % 5) (by rw [List.length_drop]; omega) (by omega)
    rw [gat_drop] at h2
    rw [← h1] at h2
    rw [← hq] at h2
    rw [h2]
    congr 3
    omega
set_option maxHeartbeats 1000000 in
theorem taken_any (a b : Option Addr) (n m c d : Nat) (w : World) : Calls Tryz.prog 150 #[.agg #[.slice a n c, .slice b m d]] w fun e w' => e = .returned (.slice a n c) ∧ Below w.heap.size w w' := by
  go_enter Tryz.func150, Tryz.ntmps150
  go_wp2
  go_ret
  exact ⟨rfl, (Below.refl _ _).alloc (Nat.le_refl _) _⟩
set_option maxHeartbeats 1000000 in
theorem put_any (a b : Option Addr) (n m c d : Nat) (w : World) : Calls Tryz.prog 149 #[.agg #[.slice a n c, .slice b m d]] w fun e w' => e = .returned (.slice b m d) ∧ Below w.heap.size w w' := by
  go_enter Tryz.func149, Tryz.ntmps149
  go_wp2
  go_ret
  exact ⟨rfl, (Below.refl _ _).alloc (Nat.le_refl _) _⟩
/-- What standsBetween tells. -/
def stB (A B : List Int) (D R : List Gl) : Bool := decide (A.length ≤ D.length) && atq D (D.length - A.length) A && atq R 0 B
theorem GA.drew {w : World} {v : Value} {R : List Gl} (h : GA w v R) : GA w.drew v R := h.below (drew_bel w)
theorem ints_drew {w : World} {v : Value} {L : List Int} (h : IntsAt w v L) : IntsAt w.drew v L := h.below (drew_bel w)
theorem stB_eq {A B : List Int} {D R : List Gl} {b1 b2 : Bool} (h : A.length ≤ D.length) (h1 : atq (D.drop (D.length - A.length)) 0 A = b1) (h2 : atq R 0 B = b2) : stB A B D R = (b1 && b2) := by
  unfold stB
  rw [decide_eq_true h, Bool.true_and, ← h1, ← h2, atq_drop D _ A (by omega)]
set_option maxRecDepth 100000 in
set_option maxHeartbeats 8000000 in
theorem stands_any (u0 u1 : Value) (aa ab : Option Addr) (ca cb : Nat) (A B : List Int) (db off n dc : Nat) (rv : Value) (D R : List Gl) (w : World) (hA : IntsAt w (.slice aa A.length ca) A) (hB : IntsAt w (.slice ab B.length cb) B) (hD : GA w (.slice (some ⟨db, off, none⟩) n dc) D) (hn : n = D.length) (hR : GA w rv R)
    (lA : A.length ≤ 4) (lB : B.length ≤ 4) (lD : D.length ≤ 1048576) (lR : R.length ≤ 1048576) (hc : n ≤ dc) :
    Calls Tryz.prog 151 #[.agg #[u0, u1, .slice aa A.length ca, .slice ab B.length cb], .slice (some ⟨db, off, none⟩) n dc, rv] w fun e w' => e = .returned (.bool (stB A B D R)) ∧ Below w.heap.size w w' := by
  have bel := (Below.refl w.heap.size w).alloc (Nat.le_refl _) (.cells #[u0, u1, .slice aa A.length ca, .slice ab B.length cb] 128)
  obtain ⟨⟨_, _, k2, k3⟩, _⟩ := four_cells (heap_new w (.cells #[u0, u1, .slice aa A.length ca, .slice ab B.length cb] 128))
  have B1 := hide bel
  have HA := hide (hA.below bel)
  have HB := hide (hB.below bel)
  have HD := hide (hD.below bel)
  have HR := hide (hR.below bel)
  have hU : undef = Value.tuple #[] := rfl
  clear hA hB hD hR bel
  by_cases t : n < A.length
  · obtain ⟨z, hz⟩ : ∃ z : Int, (n : Int) - (A.length : Int) = z := ⟨_, rfl⟩
    have t' : ¬ (0 : Int) ≤ z := by omega
    have t3 : (decide ((0 : Int) ≤ z)) = false := decide_eq_false t'
    have HE : Hid (stB A B D R = false) := hide (by unfold stB; rw [decide_eq_false (by omega), Bool.false_and, Bool.false_and])
    have hw : IntKind.i64.wrap z = z := wrap_inR _ (by omega) (by omega)
    generalize stB A B D R = Z at *
    clear hn lD lR hc
    go_enter Tryz.func151, Tryz.ntmps151
    go_upto_region 2 with fail
    generalize w.alloc (.cells #[u0, u1, .slice aa A.length ca, .slice ab B.length cb] 128) = wa at *
    have KS := (show (fun w' => w'.cell? ⟨w.heap.size, 2, none⟩ = some (.slice aa A.length ca) ∧ w'.cell? ⟨w.heap.size, 3, none⟩ = some (.slice ab B.length cb)) wa from ⟨k2, k3⟩)
    refine wp_region_held_drew (S := fun w' => w'.cell? ⟨w.heap.size, 2, none⟩ = some (.slice aa A.length ca) ∧ w'.cell? ⟨w.heap.size, 3, none⟩ = some (.slice ab B.length cb)) (by kernel_rfl) (by first | go_keep | exact KS) (fun hHeld => ?_)
    refine tkR (i := 0) (d := some 14) (v := ?_) rfl rfl (by kernel_rfl) (by kernel_rfl) (by kernel_rfl) (fun _ _ _ h => h) (Or.inl ⟨by rfl, ?_⟩) (by assumption) ?_
    rotate_left
    · intro w hSw; (try dsimp only at hSw); go_simp; try with_reducible rfl
    try simp only [Act.put, List.setIfInBounds_toArray, List.set_cons_zero, List.set_cons_succ]
    refine tkR (i := 1) (d := some 15) (v := ?_) rfl rfl (by kernel_rfl) (by kernel_rfl) (by kernel_rfl) (fun _ _ _ h => h) (Or.inl ⟨by rfl, ?_⟩) (by assumption) ?_
    rotate_left
    · intro w hSw; (try dsimp only at hSw); go_simp; try with_reducible rfl
    try simp only [Act.put, List.setIfInBounds_toArray, List.set_cons_zero, List.set_cons_succ]
    refine tkR (i := 2) (d := some 16) (v := ?_) rfl rfl (by kernel_rfl) (by kernel_rfl) (by kernel_rfl) (fun _ _ _ h => h) (Or.inl ⟨by rfl, ?_⟩) (by assumption) ?_
    rotate_left
    · intro w hSw; (try dsimp only at hSw); go_simp; try with_reducible rfl
    try simp only [Act.put, List.setIfInBounds_toArray, List.set_cons_zero, List.set_cons_succ]
    refine tkR (i := 3) (d := some 17) (v := undef) rfl rfl (by kernel_rfl) (by kernel_rfl) (by kernel_rfl) (fun _ _ _ h => h) (Or.inr ⟨by rfl, rfl⟩) (by assumption) ?_
    try simp only [Act.put, List.setIfInBounds_toArray, List.set_cons_zero, List.set_cons_succ]
    refine tkR (i := 4) (d := some 18) (v := undef) rfl rfl (by kernel_rfl) (by kernel_rfl) (by kernel_rfl) (fun _ _ _ h => h) (Or.inr ⟨by rfl, rfl⟩) (by assumption) ?_
    try simp only [Act.put, List.setIfInBounds_toArray, List.set_cons_zero, List.set_cons_succ]
    refine tkR (i := 5) (d := some 19) (v := undef) rfl rfl (by kernel_rfl) (by kernel_rfl) (by kernel_rfl) (fun _ _ _ h => h) (Or.inr ⟨by rfl, rfl⟩) (by assumption) ?_
    try simp only [Act.put, List.setIfInBounds_toArray, List.set_cons_zero, List.set_cons_succ]
    refine tkR (i := 6) (d := some 20) (v := undef) rfl rfl (by kernel_rfl) (by kernel_rfl) (by kernel_rfl) (fun _ _ _ h => h) (Or.inr ⟨by rfl, rfl⟩) (by assumption) ?_
    try simp only [Act.put, List.setIfInBounds_toArray, List.set_cons_zero, List.set_cons_succ]
    refine tkR (i := 7) (d := some 21) (v := undef) rfl rfl (by kernel_rfl) (by kernel_rfl) (by kernel_rfl) (fun _ _ _ h => h) (Or.inr ⟨by rfl, rfl⟩) (by assumption) ?_
    try simp only [Act.put, List.setIfInBounds_toArray, List.set_cons_zero, List.set_cons_succ]
    refine tkR (i := 8) (d := some 22) (v := undef) rfl rfl (by kernel_rfl) (by kernel_rfl) (by kernel_rfl) (fun _ _ _ h => h) (Or.inr ⟨by rfl, rfl⟩) (by assumption) ?_
    try simp only [Act.put, List.setIfInBounds_toArray, List.set_cons_zero, List.set_cons_succ]
    refine tkR (i := 9) (d := some 23) (v := ?_) rfl rfl (by kernel_rfl) (by kernel_rfl) (by kernel_rfl) (fun _ _ _ h => h) (Or.inl ⟨by rfl, ?_⟩) (by assumption) ?_
    rotate_left
    · intro w hSw; (try dsimp only at hSw); go_simp; try with_reducible rfl
    try simp only [Act.put, List.setIfInBounds_toArray, List.set_cons_zero, List.set_cons_succ]
    refine tkR (i := 10) (d := some 24) (v := ?_) rfl rfl (by kernel_rfl) (by kernel_rfl) (by kernel_rfl) (fun _ _ _ h => h) (Or.inl ⟨by rfl, ?_⟩) (by assumption) ?_
    rotate_left
    · intro w hSw; (try dsimp only at hSw); go_simp; try with_reducible rfl
    try simp only [Act.put, List.setIfInBounds_toArray, List.set_cons_zero, List.set_cons_succ]
    refine tkR (i := 11) (d := some 25) (v := undef) rfl rfl (by kernel_rfl) (by kernel_rfl) (by kernel_rfl) (fun _ _ _ h => h) (Or.inr ⟨by rfl, rfl⟩) (by assumption) ?_
    try simp only [Act.put, List.setIfInBounds_toArray, List.set_cons_zero, List.set_cons_succ]
    refine tkR (i := 12) (d := some 26) (v := undef) rfl rfl (by kernel_rfl) (by kernel_rfl) (by kernel_rfl) (fun _ _ _ h => h) (Or.inr ⟨by rfl, rfl⟩) (by assumption) ?_
    try simp only [Act.put, List.setIfInBounds_toArray, List.set_cons_zero, List.set_cons_succ]
    refine tkR (i := 13) (d := some 27) (v := undef) rfl rfl (by kernel_rfl) (by kernel_rfl) (by kernel_rfl) (fun _ _ _ h => h) (Or.inr ⟨by rfl, rfl⟩) (by assumption) ?_
    try simp only [Act.put, List.setIfInBounds_toArray, List.set_cons_zero, List.set_cons_succ]
    refine tkR (i := 14) (d := some 28) (v := undef) rfl rfl (by kernel_rfl) (by kernel_rfl) (by kernel_rfl) (fun _ _ _ h => h) (Or.inr ⟨by rfl, rfl⟩) (by assumption) ?_
    try simp only [Act.put, List.setIfInBounds_toArray, List.set_cons_zero, List.set_cons_succ]
    refine tkR (i := 15) (d := some 29) (v := ?_) rfl rfl (by kernel_rfl) (by kernel_rfl) (by kernel_rfl) (fun _ _ _ h => h) (Or.inl ⟨by rfl, ?_⟩) (by assumption) ?_
    rotate_left
    · intro w hSw; (try dsimp only at hSw); go_simp; try with_reducible rfl
    try simp only [Act.put, List.setIfInBounds_toArray, List.set_cons_zero, List.set_cons_succ]
    refine tkR (i := 16) (d := some 6) (v := ?_) rfl rfl (by kernel_rfl) (by kernel_rfl) (by kernel_rfl) (fun _ _ _ h => h) (Or.inl ⟨by rfl, ?_⟩) (by assumption) ?_
    rotate_left
    · intro w hSw; (try dsimp only at hSw); go_simp; try with_reducible rfl
    try simp only [Act.put, List.setIfInBounds_toArray, List.set_cons_zero, List.set_cons_succ]
    refine wpAnyH_done (by kernel_rfl) ?_ _
    go_wp2
    go_ret
    exact ⟨by rw [unhide HE]; rfl, (unhide B1).trans ((drew_bel _).mono (unhide B1).size)⟩
  · obtain ⟨f, hf⟩ : ∃ f : Nat, f = n - A.length := ⟨_, rfl⟩
    have hfi : (n : Int) - (A.length : Int) = (f : Int) := by omega
    have t2 : (0 : Int) ≤ (f : Int) := by omega
    have t3 : (decide ((0 : Int) ≤ (f : Int))) = true := decide_eq_true t2
    have t4 : (f : Int) ≤ (n : Int) := by omega
    have t5 : f ≤ n := by omega
    have t6 : (n : Int) ≤ (dc : Int) := by omega
    have hw : IntKind.i64.wrap (f : Int) = (f : Int) := wrap_inR _ (by omega) (by omega)
    have hfn : D.length - A.length = f := by omega
    have C2 := hide (begin_any rv (.slice ab B.length cb) R B _ (unhide HR).drew (ints_drew (unhide HB)) lR (by omega))
    obtain ⟨b1, hb1⟩ : ∃ b, atq (D.drop f) 0 A = b := ⟨_, rfl⟩
    obtain ⟨b2, hb2⟩ : ∃ b, atq R 0 B = b := ⟨_, rfl⟩
    have HE := hide (stB_eq (A := A) (B := B) (D := D) (R := R) (b1 := b1) (b2 := b2) (by omega) (by rw [hfn]; exact hb1) hb2)
    rw [hb2] at C2
    have hdl : (D.drop f).length ≤ 1048576 := by rw [List.length_drop]; omega
    by_cases hcap : dc = f
    · have e1 : dc = f := hcap
      have e2 : n = f := by omega
      have e3 : D.drop f = [] := List.drop_eq_nil_of_le (by omega)
      have eb : b1 = true := by rw [← hb1, e3]; exact atq_good (by rw [show A.length = 0 by omega]; exact Nat.le_refl _) (by rw [show A.length = 0 by omega]; rfl)
      rw [e3] at hb1
      have C1 := hide (begin_any (.slice (some ⟨db, off, none⟩) 0 0) (.slice aa A.length ca) [] A _ (GA.empty (w.alloc (.cells #[u0, u1, .slice aa A.length ca, .slice ab B.length cb] 128)).drew _ 0) (ints_drew (unhide HA)) (by simp) (by omega))
      rw [hb1] at C1
      subst eb
      rw [Bool.true_and] at HE
      subst e1
      subst e2
      have hcap' : (n : Int) = (n : Int) := rfl
      clear hb1 hb2 hfn hdl hf hn hcap e3
      generalize stB A B D R = Z at *
      go_enter Tryz.func151, Tryz.ntmps151
      go_upto_region 2 with fail
      generalize w.alloc (.cells #[u0, u1, .slice aa A.length ca, .slice ab B.length cb] 128) = wa at *
      have KS := (show (fun w' => w'.cell? ⟨w.heap.size, 2, none⟩ = some (.slice aa A.length ca) ∧ w'.cell? ⟨w.heap.size, 3, none⟩ = some (.slice ab B.length cb)) wa from ⟨k2, k3⟩)
      refine wp_region_held_drew (S := fun w' => w'.cell? ⟨w.heap.size, 2, none⟩ = some (.slice aa A.length ca) ∧ w'.cell? ⟨w.heap.size, 3, none⟩ = some (.slice ab B.length cb)) (by kernel_rfl) (by first | go_keep | exact KS) (fun hHeld => ?_)
      refine tkR (i := 0) (d := some 14) (v := ?_) rfl rfl (by kernel_rfl) (by kernel_rfl) (by kernel_rfl) (fun _ _ _ h => h) (Or.inl ⟨by rfl, ?_⟩) (by assumption) ?_
      rotate_left
      · intro w hSw; (try dsimp only at hSw); go_simp; try with_reducible rfl
      try simp only [Act.put, List.setIfInBounds_toArray, List.set_cons_zero, List.set_cons_succ]
      refine tkR (i := 1) (d := some 15) (v := ?_) rfl rfl (by kernel_rfl) (by kernel_rfl) (by kernel_rfl) (fun _ _ _ h => h) (Or.inl ⟨by rfl, ?_⟩) (by assumption) ?_
      rotate_left
      · intro w hSw; (try dsimp only at hSw); go_simp; try with_reducible rfl
      try simp only [Act.put, List.setIfInBounds_toArray, List.set_cons_zero, List.set_cons_succ]
      refine tkR (i := 2) (d := some 16) (v := ?_) rfl rfl (by kernel_rfl) (by kernel_rfl) (by kernel_rfl) (fun _ _ _ h => h) (Or.inl ⟨by rfl, ?_⟩) (by assumption) ?_
      rotate_left
      · intro w hSw; (try dsimp only at hSw); go_simp; try with_reducible rfl
      try simp only [Act.put, List.setIfInBounds_toArray, List.set_cons_zero, List.set_cons_succ]
      refine tkR (i := 3) (d := some 17) (v := ?_) rfl rfl (by kernel_rfl) (by kernel_rfl) (by kernel_rfl) (fun _ _ _ h => h) (Or.inl ⟨by rfl, ?_⟩) (by assumption) ?_
      rotate_left
      · intro w hSw; (try dsimp only at hSw); go_simp; try with_reducible rfl
      try simp only [Act.put, List.setIfInBounds_toArray, List.set_cons_zero, List.set_cons_succ]
      refine tkR (i := 4) (d := some 18) (v := ?_) rfl rfl (by kernel_rfl) (by kernel_rfl) (by kernel_rfl) (fun _ _ _ h => h) (Or.inl ⟨by rfl, ?_⟩) (by assumption) ?_
      rotate_left
      · intro w hSw; (try dsimp only at hSw); go_simp; try with_reducible rfl
      try simp only [Act.put, List.setIfInBounds_toArray, List.set_cons_zero, List.set_cons_succ]
      refine tkR (i := 5) (d := some 19) (v := ?_) rfl rfl (by kernel_rfl) (by kernel_rfl) (by kernel_rfl) (fun _ _ _ h => h) (Or.inl ⟨by rfl, ?_⟩) (by assumption) ?_
      rotate_left
      · intro w hSw; (try dsimp only at hSw); go_simp; try with_reducible rfl
      try simp only [Act.put, List.setIfInBounds_toArray, List.set_cons_zero, List.set_cons_succ]
      refine tkR (i := 6) (d := some 20) (v := ?_) rfl rfl (by kernel_rfl) (by kernel_rfl) (by kernel_rfl) (fun _ _ _ h => h) (Or.inl ⟨by rfl, ?_⟩) (by assumption) ?_
      rotate_left
      · intro w hSw; (try dsimp only at hSw); go_simp; try with_reducible rfl
      try simp only [Act.put, List.setIfInBounds_toArray, List.set_cons_zero, List.set_cons_succ]
      refine tkR (i := 7) (d := some 21) (v := ?_) rfl rfl (by kernel_rfl) (by kernel_rfl) (by kernel_rfl) (fun _ _ _ h => h) (Or.inl ⟨by rfl, ?_⟩) (by assumption) ?_
      rotate_left
      · intro w hSw; (try dsimp only at hSw); go_simp; try with_reducible rfl
      try simp only [Act.put, List.setIfInBounds_toArray, List.set_cons_zero, List.set_cons_succ]
      refine wpAnyH_ready (rs := [8]) (by kernel_rfl) (by simp) (AllReadyH.cons rfl (fun K hK => ?_) AllReadyH.nil)
      go_simp
      go_at_call 108
      refine (unhide C1).mono ?_
      rintro e w8 ⟨rfl, e8⟩
      have f8 := e8.symm
      subst f8
      clear e8
      try go_wp2_with fail
      refine hK.out _ _ KS (fun hHeld8 => ?_)
      clear hK K
      try simp only [Act.put, List.setIfInBounds_toArray, List.set_cons_zero, List.set_cons_succ]
      refine tkR (i := 9) (d := some 23) (v := ?_) rfl rfl (by kernel_rfl) (by kernel_rfl) (by kernel_rfl) (fun _ _ _ h => h) (Or.inl ⟨by rfl, ?_⟩) (by assumption) ?_
      rotate_left
      · intro w hSw; (try dsimp only at hSw); go_simp; try with_reducible rfl
      try simp only [Act.put, List.setIfInBounds_toArray, List.set_cons_zero, List.set_cons_succ]
      refine tkR (i := 10) (d := some 24) (v := ?_) rfl rfl (by kernel_rfl) (by kernel_rfl) (by kernel_rfl) (fun _ _ _ h => h) (Or.inl ⟨by rfl, ?_⟩) (by assumption) ?_
      rotate_left
      · intro w hSw; (try dsimp only at hSw); go_simp; try with_reducible rfl
      try simp only [Act.put, List.setIfInBounds_toArray, List.set_cons_zero, List.set_cons_succ]
      refine tkR (i := 11) (d := some 25) (v := ?_) rfl rfl (by kernel_rfl) (by kernel_rfl) (by kernel_rfl) (fun _ _ _ h => h) (Or.inl ⟨by rfl, ?_⟩) (by assumption) ?_
      rotate_left
      · intro w hSw; (try dsimp only at hSw); go_simp; try with_reducible rfl
      try simp only [Act.put, List.setIfInBounds_toArray, List.set_cons_zero, List.set_cons_succ]
      refine tkR (i := 12) (d := some 26) (v := ?_) rfl rfl (by kernel_rfl) (by kernel_rfl) (by kernel_rfl) (fun _ _ _ h => h) (Or.inl ⟨by rfl, ?_⟩) (by assumption) ?_
      rotate_left
      · intro w hSw; (try dsimp only at hSw); go_simp; try with_reducible rfl
      try simp only [Act.put, List.setIfInBounds_toArray, List.set_cons_zero, List.set_cons_succ]
      refine tkR (i := 13) (d := some 27) (v := ?_) rfl rfl (by kernel_rfl) (by kernel_rfl) (by kernel_rfl) (fun _ _ _ h => h) (Or.inl ⟨by rfl, ?_⟩) (by assumption) ?_
      rotate_left
      · intro w hSw; (try dsimp only at hSw); go_simp; try with_reducible rfl
      try simp only [Act.put, List.setIfInBounds_toArray, List.set_cons_zero, List.set_cons_succ]
      refine wpAnyH_ready (rs := [14]) (by kernel_rfl) (by simp) (AllReadyH.cons rfl (fun K hK => ?_) AllReadyH.nil)
      go_simp
      go_at_call 108
      refine (unhide C2).mono ?_
      rintro e w9 ⟨rfl, e9⟩
      have f9 := e9.symm
      subst f9
      clear e9
      try go_wp2_with fail
      refine hK.out _ _ KS (fun hHeld9 => ?_)
      clear hK K
      try simp only [Act.put, List.setIfInBounds_toArray, List.set_cons_zero, List.set_cons_succ]
      refine tkR (i := 15) (d := some 29) (v := ?_) rfl rfl (by kernel_rfl) (by kernel_rfl) (by kernel_rfl) (fun _ _ _ h => h) (Or.inl ⟨by rfl, ?_⟩) (by assumption) ?_
      rotate_left
      · intro w hSw; (try dsimp only at hSw); go_simp; try with_reducible rfl
      try simp only [Act.put, List.setIfInBounds_toArray, List.set_cons_zero, List.set_cons_succ]
      refine tkR (i := 16) (d := some 6) (v := ?_) rfl rfl (by kernel_rfl) (by kernel_rfl) (by kernel_rfl) (fun _ _ _ h => h) (Or.inl ⟨by rfl, ?_⟩) (by assumption) ?_
      rotate_left
      · intro w hSw; (try dsimp only at hSw); go_simp; try with_reducible rfl
      try simp only [Act.put, List.setIfInBounds_toArray, List.set_cons_zero, List.set_cons_succ]
      refine wpAnyH_done (by kernel_rfl) ?_ _
      go_wp2
      go_ret
      exact ⟨by rw [unhide HE]; rfl, (unhide B1).trans ((drew_bel _).mono (unhide B1).size)⟩
    · have hcap' : ¬ (dc : Int) = (f : Int) := by omega
      have C1 := hide (begin_any _ (.slice aa A.length ca) (D.drop f) A _ ((unhide HD).cut (c' := dc - f) t5).drew (ints_drew (unhide HA)) hdl (by omega))
      rw [hb1] at C1
      clear hb1 hb2 hfn hdl hn hf
      generalize stB A B D R = Z at *
      cases b1
      · rw [Bool.false_and] at HE
        go_enter Tryz.func151, Tryz.ntmps151
        go_upto_region 2 with fail
        generalize w.alloc (.cells #[u0, u1, .slice aa A.length ca, .slice ab B.length cb] 128) = wa at *
        have KS := (show (fun w' => w'.cell? ⟨w.heap.size, 2, none⟩ = some (.slice aa A.length ca) ∧ w'.cell? ⟨w.heap.size, 3, none⟩ = some (.slice ab B.length cb)) wa from ⟨k2, k3⟩)
        refine wp_region_held_drew (S := fun w' => w'.cell? ⟨w.heap.size, 2, none⟩ = some (.slice aa A.length ca) ∧ w'.cell? ⟨w.heap.size, 3, none⟩ = some (.slice ab B.length cb)) (by kernel_rfl) (by first | go_keep | exact KS) (fun hHeld => ?_)
        refine tkR (i := 0) (d := some 14) (v := ?_) rfl rfl (by kernel_rfl) (by kernel_rfl) (by kernel_rfl) (fun _ _ _ h => h) (Or.inl ⟨by rfl, ?_⟩) (by assumption) ?_
        rotate_left
        · intro w hSw; (try dsimp only at hSw); go_simp; try with_reducible rfl
        try simp only [Act.put, List.setIfInBounds_toArray, List.set_cons_zero, List.set_cons_succ]
        refine tkR (i := 1) (d := some 15) (v := ?_) rfl rfl (by kernel_rfl) (by kernel_rfl) (by kernel_rfl) (fun _ _ _ h => h) (Or.inl ⟨by rfl, ?_⟩) (by assumption) ?_
        rotate_left
        · intro w hSw; (try dsimp only at hSw); go_simp; try with_reducible rfl
        try simp only [Act.put, List.setIfInBounds_toArray, List.set_cons_zero, List.set_cons_succ]
        refine tkR (i := 2) (d := some 16) (v := ?_) rfl rfl (by kernel_rfl) (by kernel_rfl) (by kernel_rfl) (fun _ _ _ h => h) (Or.inl ⟨by rfl, ?_⟩) (by assumption) ?_
        rotate_left
        · intro w hSw; (try dsimp only at hSw); go_simp; try with_reducible rfl
        try simp only [Act.put, List.setIfInBounds_toArray, List.set_cons_zero, List.set_cons_succ]
        refine tkR (i := 3) (d := some 17) (v := ?_) rfl rfl (by kernel_rfl) (by kernel_rfl) (by kernel_rfl) (fun _ _ _ h => h) (Or.inl ⟨by rfl, ?_⟩) (by assumption) ?_
        rotate_left
        · intro w hSw; (try dsimp only at hSw); go_simp; try with_reducible rfl
        try simp only [Act.put, List.setIfInBounds_toArray, List.set_cons_zero, List.set_cons_succ]
        refine tkR (i := 4) (d := some 18) (v := ?_) rfl rfl (by kernel_rfl) (by kernel_rfl) (by kernel_rfl) (fun _ _ _ h => h) (Or.inl ⟨by rfl, ?_⟩) (by assumption) ?_
        rotate_left
        · intro w hSw; (try dsimp only at hSw); go_simp; try with_reducible rfl
        try simp only [Act.put, List.setIfInBounds_toArray, List.set_cons_zero, List.set_cons_succ]
        refine tkR (i := 5) (d := some 19) (v := ?_) rfl rfl (by kernel_rfl) (by kernel_rfl) (by kernel_rfl) (fun _ _ _ h => h) (Or.inl ⟨by rfl, ?_⟩) (by assumption) ?_
        rotate_left
        · intro w hSw; (try dsimp only at hSw); go_simp; try with_reducible rfl
        try simp only [Act.put, List.setIfInBounds_toArray, List.set_cons_zero, List.set_cons_succ]
        refine tkR (i := 6) (d := some 20) (v := ?_) rfl rfl (by kernel_rfl) (by kernel_rfl) (by kernel_rfl) (fun _ _ _ h => h) (Or.inl ⟨by rfl, ?_⟩) (by assumption) ?_
        rotate_left
        · intro w hSw; (try dsimp only at hSw); go_simp; try with_reducible rfl
        try simp only [Act.put, List.setIfInBounds_toArray, List.set_cons_zero, List.set_cons_succ]
        refine tkR (i := 7) (d := some 21) (v := ?_) rfl rfl (by kernel_rfl) (by kernel_rfl) (by kernel_rfl) (fun _ _ _ h => h) (Or.inl ⟨by rfl, ?_⟩) (by assumption) ?_
        rotate_left
        · intro w hSw; (try dsimp only at hSw); go_simp; try with_reducible rfl
        try simp only [Act.put, List.setIfInBounds_toArray, List.set_cons_zero, List.set_cons_succ]
        refine wpAnyH_ready (rs := [8]) (by kernel_rfl) (by simp) (AllReadyH.cons rfl (fun K hK => ?_) AllReadyH.nil)
        go_simp
        go_at_call 108
        refine (unhide C1).mono ?_
        rintro e w8 ⟨rfl, e8⟩
        have f8 := e8.symm
        subst f8
        clear e8
        try go_wp2_with fail
        refine hK.out _ _ KS (fun hHeld8 => ?_)
        clear hK K
        try simp only [Act.put, List.setIfInBounds_toArray, List.set_cons_zero, List.set_cons_succ]
        refine tkR (i := 9) (d := some 23) (v := ?_) rfl rfl (by kernel_rfl) (by kernel_rfl) (by kernel_rfl) (fun _ _ _ h => h) (Or.inl ⟨by rfl, ?_⟩) (by assumption) ?_
        rotate_left
        · intro w hSw; (try dsimp only at hSw); go_simp; try with_reducible rfl
        try simp only [Act.put, List.setIfInBounds_toArray, List.set_cons_zero, List.set_cons_succ]
        refine tkR (i := 10) (d := some 24) (v := ?_) rfl rfl (by kernel_rfl) (by kernel_rfl) (by kernel_rfl) (fun _ _ _ h => h) (Or.inl ⟨by rfl, ?_⟩) (by assumption) ?_
        rotate_left
        · intro w hSw; (try dsimp only at hSw); go_simp; try with_reducible rfl
        try simp only [Act.put, List.setIfInBounds_toArray, List.set_cons_zero, List.set_cons_succ]
        refine tkR (i := 11) (d := some 25) (v := undef) rfl rfl (by kernel_rfl) (by kernel_rfl) (by kernel_rfl) (fun _ _ _ h => h) (Or.inr ⟨by rfl, rfl⟩) (by assumption) ?_
        try simp only [Act.put, List.setIfInBounds_toArray, List.set_cons_zero, List.set_cons_succ]
        refine tkR (i := 12) (d := some 26) (v := undef) rfl rfl (by kernel_rfl) (by kernel_rfl) (by kernel_rfl) (fun _ _ _ h => h) (Or.inr ⟨by rfl, rfl⟩) (by assumption) ?_
        try simp only [Act.put, List.setIfInBounds_toArray, List.set_cons_zero, List.set_cons_succ]
        refine tkR (i := 13) (d := some 27) (v := undef) rfl rfl (by kernel_rfl) (by kernel_rfl) (by kernel_rfl) (fun _ _ _ h => h) (Or.inr ⟨by rfl, rfl⟩) (by assumption) ?_
        try simp only [Act.put, List.setIfInBounds_toArray, List.set_cons_zero, List.set_cons_succ]
        refine tkR (i := 14) (d := some 28) (v := undef) rfl rfl (by kernel_rfl) (by kernel_rfl) (by kernel_rfl) (fun _ _ _ h => h) (Or.inr ⟨by rfl, rfl⟩) (by assumption) ?_
        try simp only [Act.put, List.setIfInBounds_toArray, List.set_cons_zero, List.set_cons_succ]
        refine tkR (i := 15) (d := some 29) (v := ?_) rfl rfl (by kernel_rfl) (by kernel_rfl) (by kernel_rfl) (fun _ _ _ h => h) (Or.inl ⟨by rfl, ?_⟩) (by assumption) ?_
        rotate_left
        · intro w hSw; (try dsimp only at hSw); go_simp; try with_reducible rfl
        try simp only [Act.put, List.setIfInBounds_toArray, List.set_cons_zero, List.set_cons_succ]
        refine tkR (i := 16) (d := some 6) (v := ?_) rfl rfl (by kernel_rfl) (by kernel_rfl) (by kernel_rfl) (fun _ _ _ h => h) (Or.inl ⟨by rfl, ?_⟩) (by assumption) ?_
        rotate_left
        · intro w hSw; (try dsimp only at hSw); go_simp; try with_reducible rfl
        try simp only [Act.put, List.setIfInBounds_toArray, List.set_cons_zero, List.set_cons_succ]
        refine wpAnyH_done (by kernel_rfl) ?_ _
        go_wp2
        go_ret
        exact ⟨by rw [unhide HE]; rfl, (unhide B1).trans ((drew_bel _).mono (unhide B1).size)⟩
      · rw [Bool.true_and] at HE
        go_enter Tryz.func151, Tryz.ntmps151
        go_upto_region 2 with fail
        generalize w.alloc (.cells #[u0, u1, .slice aa A.length ca, .slice ab B.length cb] 128) = wa at *
        have KS := (show (fun w' => w'.cell? ⟨w.heap.size, 2, none⟩ = some (.slice aa A.length ca) ∧ w'.cell? ⟨w.heap.size, 3, none⟩ = some (.slice ab B.length cb)) wa from ⟨k2, k3⟩)
        refine wp_region_held_drew (S := fun w' => w'.cell? ⟨w.heap.size, 2, none⟩ = some (.slice aa A.length ca) ∧ w'.cell? ⟨w.heap.size, 3, none⟩ = some (.slice ab B.length cb)) (by kernel_rfl) (by first | go_keep | exact KS) (fun hHeld => ?_)
        refine tkR (i := 0) (d := some 14) (v := ?_) rfl rfl (by kernel_rfl) (by kernel_rfl) (by kernel_rfl) (fun _ _ _ h => h) (Or.inl ⟨by rfl, ?_⟩) (by assumption) ?_
        rotate_left
        · intro w hSw; (try dsimp only at hSw); go_simp; try with_reducible rfl
        try simp only [Act.put, List.setIfInBounds_toArray, List.set_cons_zero, List.set_cons_succ]
        refine tkR (i := 1) (d := some 15) (v := ?_) rfl rfl (by kernel_rfl) (by kernel_rfl) (by kernel_rfl) (fun _ _ _ h => h) (Or.inl ⟨by rfl, ?_⟩) (by assumption) ?_
        rotate_left
        · intro w hSw; (try dsimp only at hSw); go_simp; try with_reducible rfl
        try simp only [Act.put, List.setIfInBounds_toArray, List.set_cons_zero, List.set_cons_succ]
        refine tkR (i := 2) (d := some 16) (v := ?_) rfl rfl (by kernel_rfl) (by kernel_rfl) (by kernel_rfl) (fun _ _ _ h => h) (Or.inl ⟨by rfl, ?_⟩) (by assumption) ?_
        rotate_left
        · intro w hSw; (try dsimp only at hSw); go_simp; try with_reducible rfl
        try simp only [Act.put, List.setIfInBounds_toArray, List.set_cons_zero, List.set_cons_succ]
        refine tkR (i := 3) (d := some 17) (v := ?_) rfl rfl (by kernel_rfl) (by kernel_rfl) (by kernel_rfl) (fun _ _ _ h => h) (Or.inl ⟨by rfl, ?_⟩) (by assumption) ?_
        rotate_left
        · intro w hSw; (try dsimp only at hSw); go_simp; try with_reducible rfl
        try simp only [Act.put, List.setIfInBounds_toArray, List.set_cons_zero, List.set_cons_succ]
        refine tkR (i := 4) (d := some 18) (v := ?_) rfl rfl (by kernel_rfl) (by kernel_rfl) (by kernel_rfl) (fun _ _ _ h => h) (Or.inl ⟨by rfl, ?_⟩) (by assumption) ?_
        rotate_left
        · intro w hSw; (try dsimp only at hSw); go_simp; try with_reducible rfl
        try simp only [Act.put, List.setIfInBounds_toArray, List.set_cons_zero, List.set_cons_succ]
        refine tkR (i := 5) (d := some 19) (v := ?_) rfl rfl (by kernel_rfl) (by kernel_rfl) (by kernel_rfl) (fun _ _ _ h => h) (Or.inl ⟨by rfl, ?_⟩) (by assumption) ?_
        rotate_left
        · intro w hSw; (try dsimp only at hSw); go_simp; try with_reducible rfl
        try simp only [Act.put, List.setIfInBounds_toArray, List.set_cons_zero, List.set_cons_succ]
        refine tkR (i := 6) (d := some 20) (v := ?_) rfl rfl (by kernel_rfl) (by kernel_rfl) (by kernel_rfl) (fun _ _ _ h => h) (Or.inl ⟨by rfl, ?_⟩) (by assumption) ?_
        rotate_left
        · intro w hSw; (try dsimp only at hSw); go_simp; try with_reducible rfl
        try simp only [Act.put, List.setIfInBounds_toArray, List.set_cons_zero, List.set_cons_succ]
        refine tkR (i := 7) (d := some 21) (v := ?_) rfl rfl (by kernel_rfl) (by kernel_rfl) (by kernel_rfl) (fun _ _ _ h => h) (Or.inl ⟨by rfl, ?_⟩) (by assumption) ?_
        rotate_left
        · intro w hSw; (try dsimp only at hSw); go_simp; try with_reducible rfl
        try simp only [Act.put, List.setIfInBounds_toArray, List.set_cons_zero, List.set_cons_succ]
        refine wpAnyH_ready (rs := [8]) (by kernel_rfl) (by simp) (AllReadyH.cons rfl (fun K hK => ?_) AllReadyH.nil)
        go_simp
        go_at_call 108
        refine (unhide C1).mono ?_
        rintro e w8 ⟨rfl, e8⟩
        have f8 := e8.symm
        subst f8
        clear e8
        try go_wp2_with fail
        refine hK.out _ _ KS (fun hHeld8 => ?_)
        clear hK K
        try simp only [Act.put, List.setIfInBounds_toArray, List.set_cons_zero, List.set_cons_succ]
        refine tkR (i := 9) (d := some 23) (v := ?_) rfl rfl (by kernel_rfl) (by kernel_rfl) (by kernel_rfl) (fun _ _ _ h => h) (Or.inl ⟨by rfl, ?_⟩) (by assumption) ?_
        rotate_left
        · intro w hSw; (try dsimp only at hSw); go_simp; try with_reducible rfl
        try simp only [Act.put, List.setIfInBounds_toArray, List.set_cons_zero, List.set_cons_succ]
        refine tkR (i := 10) (d := some 24) (v := ?_) rfl rfl (by kernel_rfl) (by kernel_rfl) (by kernel_rfl) (fun _ _ _ h => h) (Or.inl ⟨by rfl, ?_⟩) (by assumption) ?_
        rotate_left
        · intro w hSw; (try dsimp only at hSw); go_simp; try with_reducible rfl
        try simp only [Act.put, List.setIfInBounds_toArray, List.set_cons_zero, List.set_cons_succ]
        refine tkR (i := 11) (d := some 25) (v := ?_) rfl rfl (by kernel_rfl) (by kernel_rfl) (by kernel_rfl) (fun _ _ _ h => h) (Or.inl ⟨by rfl, ?_⟩) (by assumption) ?_
        rotate_left
        · intro w hSw; (try dsimp only at hSw); go_simp; try with_reducible rfl
        try simp only [Act.put, List.setIfInBounds_toArray, List.set_cons_zero, List.set_cons_succ]
        refine tkR (i := 12) (d := some 26) (v := ?_) rfl rfl (by kernel_rfl) (by kernel_rfl) (by kernel_rfl) (fun _ _ _ h => h) (Or.inl ⟨by rfl, ?_⟩) (by assumption) ?_
        rotate_left
        · intro w hSw; (try dsimp only at hSw); go_simp; try with_reducible rfl
        try simp only [Act.put, List.setIfInBounds_toArray, List.set_cons_zero, List.set_cons_succ]
        refine tkR (i := 13) (d := some 27) (v := ?_) rfl rfl (by kernel_rfl) (by kernel_rfl) (by kernel_rfl) (fun _ _ _ h => h) (Or.inl ⟨by rfl, ?_⟩) (by assumption) ?_
        rotate_left
        · intro w hSw; (try dsimp only at hSw); go_simp; try with_reducible rfl
        try simp only [Act.put, List.setIfInBounds_toArray, List.set_cons_zero, List.set_cons_succ]
        refine wpAnyH_ready (rs := [14]) (by kernel_rfl) (by simp) (AllReadyH.cons rfl (fun K hK => ?_) AllReadyH.nil)
        go_simp
        go_at_call 108
        refine (unhide C2).mono ?_
        rintro e w9 ⟨rfl, e9⟩
        have f9 := e9.symm
        subst f9
        clear e9
        try go_wp2_with fail
        refine hK.out _ _ KS (fun hHeld9 => ?_)
        clear hK K
        try simp only [Act.put, List.setIfInBounds_toArray, List.set_cons_zero, List.set_cons_succ]
        refine tkR (i := 15) (d := some 29) (v := ?_) rfl rfl (by kernel_rfl) (by kernel_rfl) (by kernel_rfl) (fun _ _ _ h => h) (Or.inl ⟨by rfl, ?_⟩) (by assumption) ?_
        rotate_left
        · intro w hSw; (try dsimp only at hSw); go_simp; try with_reducible rfl
        try simp only [Act.put, List.setIfInBounds_toArray, List.set_cons_zero, List.set_cons_succ]
        refine tkR (i := 16) (d := some 6) (v := ?_) rfl rfl (by kernel_rfl) (by kernel_rfl) (by kernel_rfl) (fun _ _ _ h => h) (Or.inl ⟨by rfl, ?_⟩) (by assumption) ?_
        rotate_left
        · intro w hSw; (try dsimp only at hSw); go_simp; try with_reducible rfl
        try simp only [Act.put, List.setIfInBounds_toArray, List.set_cons_zero, List.set_cons_succ]
        refine wpAnyH_done (by kernel_rfl) ?_ _
        go_wp2
        go_ret
        exact ⟨by rw [unhide HE]; rfl, (unhide B1).trans ((drew_bel _).mono (unhide B1).size)⟩
end Go.Proofs.YtfldomifooihlaaGreatDoor.Rul
/- Whether a rule fits: the program's fits. -/
namespace Go.Proofs.YtfldomifooihlaaGreatDoor.Rul
open Go.RowKit
set_option linter.unusedVariables false
theorem meth_taken (a b c d : Value) (W : World) : (method 284 128 (.agg #[a, b, c, d]) "loop.example/g00044/impl.taken").run Tryz.prog W = .ok (150, .agg #[a, b]) W := by kernel_rfl
theorem meth_put (a b c d : Value) (W : World) : (method 284 128 (.agg #[a, b, c, d]) "loop.example/g00044/impl.put").run Tryz.prog W = .ok (149, .agg #[a, b]) W := by kernel_rfl
theorem meth_stands (a b c d : Value) (W : World) : (method 284 128 (.agg #[a, b, c, d]) "loop.example/g00044/impl.standsBetween").run Tryz.prog W = .ok (151, .agg #[a, b, c, d]) W := by kernel_rfl
theorem meth_takenP (a b : Value) (W : World) : (method 284 126 (.agg #[a, b]) "loop.example/g00044/impl.taken").run Tryz.prog W = .ok (150, .agg #[a, b]) W := by kernel_rfl
theorem meth_putP (a b : Value) (W : World) : (method 284 126 (.agg #[a, b]) "loop.example/g00044/impl.put").run Tryz.prog W = .ok (149, .agg #[a, b]) W := by kernel_rfl
theorem nil_stands (a b c d : Value) (W : World) : (nilAhead 284 128 (.agg #[a, b, c, d]) "loop.example/g00044/impl.standsBetween").run Tryz.prog W = .ok (some false) W := by kernel_rfl
theorem assert_plain (x : Value) (W : World) : (Instr.typeAssert (.iface 126 x) 97 147 true).run Tryz.prog W = .ok (.tuple #[.nilIface, .bool false]) W := run_typeAssert_lacksB Tryz.underlying147 (by kernel_rfl) (by kernel_rfl) x 97 W
theorem assert_ctx (x : Value) (W : World) : (Instr.typeAssert (.iface 128 x) 97 147 true).run Tryz.prog W = .ok (.tuple #[.iface 128 x, .bool true]) W := by kernel_rfl
set_option maxRecDepth 100000 in
set_option maxHeartbeats 4000000 in
theorem fits_plain (ai ap : Option Addr) (np ci cp : Nat) (I : List Int) (dv : Value) (b off r c : Nat) (R : List Gl) (w : World) (hI : IntsAt w (.slice ai I.length ci) I) (hR : GA w (.slice (some ⟨b, off, none⟩) r c) R) (lI : I.length ≤ 8) (lR : R.length ≤ 1048576) :
    Calls Tryz.prog 82 #[.iface 126 (.agg #[.slice ai I.length ci, .slice ap np cp]), dv, .slice (some ⟨b, off, none⟩) r c] w fun e w' => e = .returned (.bool (atq R 0 I)) ∧ Below w.heap.size w w' := by
  have CT := hide (taken_any ai ap I.length np ci cp w)
  have CB := hide (fun W (hb : Below w.heap.size w W) => begin_any _ _ R I W (hR.below hb) (hI.below hb) lR (by omega))
  have M1 := fun W => meth_takenP (.slice ai I.length ci) (.slice ap np cp) W
  have TA := fun W => assert_plain (.agg #[.slice ai I.length ci, .slice ap np cp]) W
  clear hI hR
  cases hz : atq R 0 I
  all_goals
    rw [hz] at CB
    go_enter Tryz.func82, Tryz.ntmps82
    go_wp2_with fail
    refine (unhide CT).mono ?_
    rintro e w1 ⟨rfl, hb1⟩
    have B1 := hide hb1
    clear hb1 CT
    go_wp2_with fail
    refine ((unhide CB) _ (unhide B1)).mono ?_
    rintro e w2 ⟨rfl, e2⟩
    have e3 := e2.symm
    subst e3
    clear e2 CB
    go_wp2
    go_ret
    exact ⟨rfl, unhide B1⟩
theorem and_eq {x y z : Bool} (hx : x = true) (hy : y = z) : (x && y) = z := by rw [hx, hy]; rfl
set_option maxRecDepth 100000 in
set_option maxHeartbeats 8000000 in
theorem fits_ctx (ai ap aa ab : Option Addr) (np ci cp ca cb : Nat) (A I B : List Int) (db doff dn dc : Nat) (b off r c : Nat) (D R : List Gl) (w : World)
    (hI : IntsAt w (.slice ai I.length ci) I) (hA : IntsAt w (.slice aa A.length ca) A) (hB : IntsAt w (.slice ab B.length cb) B)
    (hD : GA w (.slice (some ⟨db, doff, none⟩) dn dc) D) (hdn : dn = D.length) (hdc : dn ≤ dc)
    (hR : GA w (.slice (some ⟨b, off, none⟩) r c) R) (hr : r = R.length) (hrc : r ≤ c) (lI : I.length ≤ 8) (lA : A.length ≤ 4) (lB : B.length ≤ 4) (lR : R.length ≤ 1048576) (lD : D.length ≤ 1048576) :
    Calls Tryz.prog 82 #[.iface 128 (.agg #[.slice ai I.length ci, .slice ap np cp, .slice aa A.length ca, .slice ab B.length cb]), .slice (some ⟨db, doff, none⟩) dn dc, .slice (some ⟨b, off, none⟩) r c] w fun e w' => e = .returned (.bool (atq R 0 I && stB A B D (R.drop I.length))) ∧ Below w.heap.size w w' := by
  have CT := hide (taken_any ai ap I.length np ci cp w)
  have CB := hide (fun W (hb : Below w.heap.size w W) => begin_any _ _ R I W (hR.below hb) (hI.below hb) lR (by omega))
  have TA := fun W => assert_ctx (.agg #[.slice ai I.length ci, .slice ap np cp, .slice aa A.length ca, .slice ab B.length cb]) W
  have M1 := fun W => meth_taken (.slice ai I.length ci) (.slice ap np cp) (.slice aa A.length ca) (.slice ab B.length cb) W
  have M2 := fun W => meth_stands (.slice ai I.length ci) (.slice ap np cp) (.slice aa A.length ca) (.slice ab B.length cb) W
  have M3 := fun W => nil_stands (.slice ai I.length ci) (.slice ap np cp) (.slice aa A.length ca) (.slice ab B.length cb) W
  have CT2 := hide (fun W => taken_any ai ap I.length np ci cp W)
  cases hz : atq R 0 I
  · rw [hz] at CB
    clear hI hA hB hD hR hdn hr hz
    rw [Bool.false_and]
    go_enter Tryz.func82, Tryz.ntmps82
    go_wp2_with fail
    refine (unhide CT).mono ?_
    rintro e w1 ⟨rfl, hb1⟩
    have B1 := hide hb1
    clear hb1 CT
    go_wp2_with fail
    refine ((unhide CB) _ (unhide B1)).mono ?_
    rintro e w2 ⟨rfl, e2⟩
    have e3 := e2.symm
    subst e3
    clear e2 CB
    go_wp2
    go_ret
    exact ⟨rfl, unhide B1⟩
  · rw [hz] at CB
    have hIR := atq_le hz
    rw [Bool.true_and]
    have t1 : (0 : Int) ≤ (I.length : Int) := by omega
    have t2 : (I.length : Int) ≤ (r : Int) := by omega
    have t3 : I.length ≤ r := by omega
    have t4 : (r : Int) ≤ (c : Int) := by omega
    have hdl : (R.drop I.length).length ≤ 1048576 := by rw [List.length_drop]; omega
    by_cases hcap : c = I.length
    · have e2 : r = I.length := by omega
      have e3 : R.drop I.length = [] := List.drop_eq_nil_of_le (by omega)
      have CS := hide (fun W (hb : Below w.heap.size w W) => stands_any (.slice ai I.length ci) (.slice ap np cp) aa ab ca cb A B db doff dn dc (.slice (some ⟨b, off, none⟩) 0 0) D (R.drop I.length) W (hA.below hb) (hB.below hb) (hD.below hb) hdn (by rw [e3]; exact GA.empty _ _ _) lA lB lD hdl hdc)
      generalize stB A B D (R.drop I.length) = Z at *
      clear hI hA hB hD hR hdl e3 hz hdn hr hIR
      subst e2
      subst hcap
      go_enter Tryz.func82, Tryz.ntmps82
      go_wp2_with fail
      refine (unhide CT).mono ?_
      rintro e w1 ⟨rfl, hb1⟩
      have B1 := hide hb1
      clear hb1 CT
      go_wp2_with fail
      refine ((unhide CB) _ (unhide B1)).mono ?_
      rintro e w2 ⟨rfl, e2⟩
      have e3 := e2.symm
      subst e3
      clear e2 CB
      go_upto_region 5 with fail
      have KS : True := trivial
      refine wp_region_held_drew (S := fun _ => True) (by kernel_rfl) (by first | go_keep | exact trivial) (fun hHeld => ?_)
      refine tkR (i := 0) (d := some 20) (v := ?_) rfl rfl (by kernel_rfl) (by kernel_rfl) (by kernel_rfl) (fun _ _ _ h => h) (Or.inl ⟨by rfl, ?_⟩) (by assumption) ?_
      rotate_left
      · intro w hSw; (try dsimp only at hSw); go_simp; try with_reducible rfl
      try simp only [Act.put, List.setIfInBounds_toArray, List.set_cons_zero, List.set_cons_succ]
      refine tkR (i := 1) (d := some 21) (v := ?_) rfl rfl (by kernel_rfl) (by kernel_rfl) (by kernel_rfl) (fun _ _ _ h => h) (Or.inl ⟨by rfl, ?_⟩) (by assumption) ?_
      rotate_left
      · intro w hSw; (try dsimp only at hSw); go_simp; try with_reducible rfl
      try simp only [Act.put, List.setIfInBounds_toArray, List.set_cons_zero, List.set_cons_succ]
      refine tkR (i := 2) (d := some 22) (v := ?_) rfl rfl (by kernel_rfl) (by kernel_rfl) (by kernel_rfl) (fun _ _ _ h => h) (Or.inl ⟨by rfl, ?_⟩) (by assumption) ?_
      rotate_left
      · intro w hSw; (try dsimp only at hSw); go_simp; try with_reducible rfl
      try simp only [Act.put, List.setIfInBounds_toArray, List.set_cons_zero, List.set_cons_succ]
      refine tkR (i := 3) (d := some 23) (v := ?_) rfl rfl (by kernel_rfl) (by kernel_rfl) (by kernel_rfl) (fun _ _ _ h => h) (Or.inl ⟨by rfl, ?_⟩) (by assumption) ?_
      rotate_left
      · intro w hSw; (try dsimp only at hSw); go_simp; try with_reducible rfl
      try simp only [Act.put, List.setIfInBounds_toArray, List.set_cons_zero, List.set_cons_succ]
      refine tkR (i := 7) (d := some 27) (v := ?_) rfl rfl (by kernel_rfl) (by kernel_rfl) (by kernel_rfl) (fun _ _ _ h => h) (Or.inl ⟨by rfl, ?_⟩) (by assumption) ?_
      rotate_left
      · intro w hSw; (try dsimp only at hSw); go_simp; try with_reducible rfl
      try simp only [Act.put, List.setIfInBounds_toArray, List.set_cons_zero, List.set_cons_succ]
      refine tkR (i := 8) (d := some 28) (v := ?_) rfl rfl (by kernel_rfl) (by kernel_rfl) (by kernel_rfl) (fun _ _ _ h => h) (Or.inl ⟨by rfl, ?_⟩) (by assumption) ?_
      rotate_left
      · intro w hSw; (try dsimp only at hSw); go_simp; try with_reducible rfl
      try simp only [Act.put, List.setIfInBounds_toArray, List.set_cons_zero, List.set_cons_succ]
      refine tkR (i := 9) (d := some 29) (v := ?_) rfl rfl (by kernel_rfl) (by kernel_rfl) (by kernel_rfl) (fun _ _ _ h => h) (Or.inl ⟨by rfl, ?_⟩) (by assumption) ?_
      rotate_left
      · intro w hSw; (try dsimp only at hSw); go_simp; try with_reducible rfl
      try simp only [Act.put, List.setIfInBounds_toArray, List.set_cons_zero, List.set_cons_succ]
      refine wpAnyH_ready (rs := [4]) (by kernel_rfl) (by simp) (AllReadyH.cons rfl (fun K hK => ?_) AllReadyH.nil)
      go_simp
      go_at_call 150
      refine ((unhide CT2) _).mono ?_
      rintro e w4 ⟨rfl, hb4⟩
      have B4 := hide ((unhide B1).trans (((drew_bel _).trans hb4).mono (unhide B1).size))
      clear hb4
      try go_wp2_with fail
      refine hK.out _ _ trivial (fun hHeld4 => ?_)
      clear hK K
      try simp only [Act.put, List.setIfInBounds_toArray, List.set_cons_zero, List.set_cons_succ]
      refine tkR (i := 5) (d := some 25) (v := ?_) rfl rfl (by kernel_rfl) (by kernel_rfl) (by kernel_rfl) (fun _ _ _ h => h) (Or.inl ⟨by rfl, ?_⟩) (by assumption) ?_
      rotate_left
      · intro w hSw; (try dsimp only at hSw); go_simp; try with_reducible rfl
      try simp only [Act.put, List.setIfInBounds_toArray, List.set_cons_zero, List.set_cons_succ]
      refine tkR (i := 6) (d := some 26) (v := ?_) rfl rfl (by kernel_rfl) (by kernel_rfl) (by kernel_rfl) (fun _ _ _ h => h) (Or.inl ⟨by rfl, ?_⟩) (by assumption) ?_
      rotate_left
      · intro w hSw; (try dsimp only at hSw); go_simp; try with_reducible rfl
      try simp only [Act.put, List.setIfInBounds_toArray, List.set_cons_zero, List.set_cons_succ]
      refine wpAnyH_ready (rs := [10]) (by kernel_rfl) (by simp) (AllReadyH.cons rfl (fun K hK => ?_) AllReadyH.nil)
      go_simp
      go_at_call 151
      refine ((unhide CS) _ (unhide B4)).mono ?_
      rintro e w5 ⟨rfl, hb5⟩
      have B5 := hide ((unhide B4).trans (hb5.mono (unhide B4).size))
      clear hb5
      try go_wp2_with fail
      refine hK.out _ _ trivial (fun hHeld10 => ?_)
      clear hK K
      try simp only [Act.put, List.setIfInBounds_toArray, List.set_cons_zero, List.set_cons_succ]
      refine tkR (i := 11) (d := some 6) (v := ?_) rfl rfl (by kernel_rfl) (by kernel_rfl) (by kernel_rfl) (fun _ _ _ h => h) (Or.inl ⟨by rfl, ?_⟩) (by assumption) ?_
      rotate_left
      · intro w hSw; (try dsimp only at hSw); go_simp; try with_reducible rfl
      try simp only [Act.put, List.setIfInBounds_toArray, List.set_cons_zero, List.set_cons_succ]
      refine wpAnyH_done (by kernel_rfl) ?_ _
      go_wp2
      go_ret
      exact ⟨rfl, unhide B5⟩
    · have hcap' : ¬ (c : Int) = (I.length : Int) := by omega
      have CS := hide (fun W (hb : Below w.heap.size w W) => stands_any (.slice ai I.length ci) (.slice ap np cp) aa ab ca cb A B db doff dn dc _ D (R.drop I.length) W (hA.below hb) (hB.below hb) (hD.below hb) hdn ((hR.below hb).cut (c' := c - I.length) t3) lA lB lD hdl hdc)
      generalize stB A B D (R.drop I.length) = Z at *
      clear hI hA hB hD hR hdl hz hdn hr hIR
      go_enter Tryz.func82, Tryz.ntmps82
      go_wp2_with fail
      refine (unhide CT).mono ?_
      rintro e w1 ⟨rfl, hb1⟩
      have B1 := hide hb1
      clear hb1 CT
      go_wp2_with fail
      refine ((unhide CB) _ (unhide B1)).mono ?_
      rintro e w2 ⟨rfl, e2⟩
      have e3 := e2.symm
      subst e3
      clear e2 CB
      go_upto_region 5 with fail
      have KS : True := trivial
      refine wp_region_held_drew (S := fun _ => True) (by kernel_rfl) (by first | go_keep | exact trivial) (fun hHeld => ?_)
      refine tkR (i := 0) (d := some 20) (v := ?_) rfl rfl (by kernel_rfl) (by kernel_rfl) (by kernel_rfl) (fun _ _ _ h => h) (Or.inl ⟨by rfl, ?_⟩) (by assumption) ?_
      rotate_left
      · intro w hSw; (try dsimp only at hSw); go_simp; try with_reducible rfl
      try simp only [Act.put, List.setIfInBounds_toArray, List.set_cons_zero, List.set_cons_succ]
      refine tkR (i := 1) (d := some 21) (v := ?_) rfl rfl (by kernel_rfl) (by kernel_rfl) (by kernel_rfl) (fun _ _ _ h => h) (Or.inl ⟨by rfl, ?_⟩) (by assumption) ?_
      rotate_left
      · intro w hSw; (try dsimp only at hSw); go_simp; try with_reducible rfl
      try simp only [Act.put, List.setIfInBounds_toArray, List.set_cons_zero, List.set_cons_succ]
      refine tkR (i := 2) (d := some 22) (v := ?_) rfl rfl (by kernel_rfl) (by kernel_rfl) (by kernel_rfl) (fun _ _ _ h => h) (Or.inl ⟨by rfl, ?_⟩) (by assumption) ?_
      rotate_left
      · intro w hSw; (try dsimp only at hSw); go_simp; try with_reducible rfl
      try simp only [Act.put, List.setIfInBounds_toArray, List.set_cons_zero, List.set_cons_succ]
      refine tkR (i := 3) (d := some 23) (v := ?_) rfl rfl (by kernel_rfl) (by kernel_rfl) (by kernel_rfl) (fun _ _ _ h => h) (Or.inl ⟨by rfl, ?_⟩) (by assumption) ?_
      rotate_left
      · intro w hSw; (try dsimp only at hSw); go_simp; try with_reducible rfl
      try simp only [Act.put, List.setIfInBounds_toArray, List.set_cons_zero, List.set_cons_succ]
      refine tkR (i := 7) (d := some 27) (v := ?_) rfl rfl (by kernel_rfl) (by kernel_rfl) (by kernel_rfl) (fun _ _ _ h => h) (Or.inl ⟨by rfl, ?_⟩) (by assumption) ?_
      rotate_left
      · intro w hSw; (try dsimp only at hSw); go_simp; try with_reducible rfl
      try simp only [Act.put, List.setIfInBounds_toArray, List.set_cons_zero, List.set_cons_succ]
      refine tkR (i := 8) (d := some 28) (v := ?_) rfl rfl (by kernel_rfl) (by kernel_rfl) (by kernel_rfl) (fun _ _ _ h => h) (Or.inl ⟨by rfl, ?_⟩) (by assumption) ?_
      rotate_left
      · intro w hSw; (try dsimp only at hSw); go_simp; try with_reducible rfl
      try simp only [Act.put, List.setIfInBounds_toArray, List.set_cons_zero, List.set_cons_succ]
      refine tkR (i := 9) (d := some 29) (v := ?_) rfl rfl (by kernel_rfl) (by kernel_rfl) (by kernel_rfl) (fun _ _ _ h => h) (Or.inl ⟨by rfl, ?_⟩) (by assumption) ?_
      rotate_left
      · intro w hSw; (try dsimp only at hSw); go_simp; try with_reducible rfl
      try simp only [Act.put, List.setIfInBounds_toArray, List.set_cons_zero, List.set_cons_succ]
      refine wpAnyH_ready (rs := [4]) (by kernel_rfl) (by simp) (AllReadyH.cons rfl (fun K hK => ?_) AllReadyH.nil)
      go_simp
      go_at_call 150
      refine ((unhide CT2) _).mono ?_
      rintro e w4 ⟨rfl, hb4⟩
      have B4 := hide ((unhide B1).trans (((drew_bel _).trans hb4).mono (unhide B1).size))
      clear hb4
      try go_wp2_with fail
      refine hK.out _ _ trivial (fun hHeld4 => ?_)
      clear hK K
      try simp only [Act.put, List.setIfInBounds_toArray, List.set_cons_zero, List.set_cons_succ]
      refine tkR (i := 5) (d := some 25) (v := ?_) rfl rfl (by kernel_rfl) (by kernel_rfl) (by kernel_rfl) (fun _ _ _ h => h) (Or.inl ⟨by rfl, ?_⟩) (by assumption) ?_
      rotate_left
      · intro w hSw; (try dsimp only at hSw); go_simp; try with_reducible rfl
      try simp only [Act.put, List.setIfInBounds_toArray, List.set_cons_zero, List.set_cons_succ]
      refine tkR (i := 6) (d := some 26) (v := ?_) rfl rfl (by kernel_rfl) (by kernel_rfl) (by kernel_rfl) (fun _ _ _ h => h) (Or.inl ⟨by rfl, ?_⟩) (by assumption) ?_
      rotate_left
      · intro w hSw; (try dsimp only at hSw); go_simp; try with_reducible rfl
      try simp only [Act.put, List.setIfInBounds_toArray, List.set_cons_zero, List.set_cons_succ]
      refine wpAnyH_ready (rs := [10]) (by kernel_rfl) (by simp) (AllReadyH.cons rfl (fun K hK => ?_) AllReadyH.nil)
      go_simp
      go_at_call 151
      refine ((unhide CS) _ (unhide B4)).mono ?_
      rintro e w5 ⟨rfl, hb5⟩
      have B5 := hide ((unhide B4).trans (hb5.mono (unhide B4).size))
      clear hb5
      try go_wp2_with fail
      refine hK.out _ _ trivial (fun hHeld10 => ?_)
      clear hK K
      try simp only [Act.put, List.setIfInBounds_toArray, List.set_cons_zero, List.set_cons_succ]
      refine tkR (i := 11) (d := some 6) (v := ?_) rfl rfl (by kernel_rfl) (by kernel_rfl) (by kernel_rfl) (fun _ _ _ h => h) (Or.inl ⟨by rfl, ?_⟩) (by assumption) ?_
      rotate_left
      · intro w hSw; (try dsimp only at hSw); go_simp; try with_reducible rfl
      try simp only [Act.put, List.setIfInBounds_toArray, List.set_cons_zero, List.set_cons_succ]
      refine wpAnyH_done (by kernel_rfl) ?_ _
      go_wp2
      go_ret
      exact ⟨rfl, unhide B5⟩
theorem fit_eq {A I B : List Int} {G D : List Gl} {i : Nat} (hi : i ≤ G.length) : (atq (G.drop i) 0 I && stB A B D ((G.drop i).drop I.length)) = fit A I B G i D := by
  unfold fit stB
  rw [atq_drop G i I hi]
  cases h : atq G i I
  · rfl
  · rw [List.drop_drop, atq_drop G _ B (by have := atq_le h; omega)]
end Go.Proofs.YtfldomifooihlaaGreatDoor.Rul
