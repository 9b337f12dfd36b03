/- PlaceOf; its law. -/
import Derived.Test.YtfnaclpkpjembaaBidE
namespace Go.Proofs.Ytfnaclpkpjembaa.Bd
open Go.RowKit
set_option linter.unusedVariables false
/-- The first place of which the caret is at x. -/
def plcL (L : List Int) (base x : Int) (ahead : Bool) : Int := (((List.range (L.length + 1)).find? fun (a : Nat) => car L base (a : Int) ahead == x).map fun (a : Nat) => (a : Int)).getD (-1)
theorem find_range (n : Nat) (f : Nat → Bool) (k : Nat) (hk : k < n) (h1 : ∀ j, j < k → f j = false) (h2 : f k = true) : (List.range n).find? f = some k := by
  rw [List.find?_range_eq_some]
  exact ⟨h2, by simpa using hk, fun j hj => by simp [h1 j hj]⟩
theorem plc_at {L : List Int} {base x : Int} {ahead : Bool} {k : Nat} (hk : k ≤ L.length) (h1 : ∀ j : Nat, j < k → car L base (j : Int) ahead ≠ x) (h2 : car L base (k : Int) ahead = x) : plcL L base x ahead = (k : Int) := by
  unfold plcL
  rw [find_range _ _ k (by omega) (fun j hj => by simpa using h1 j hj) (by simpa using h2)]
  rfl
theorem plc_no {L : List Int} {base x : Int} {ahead : Bool} (h1 : ∀ j : Nat, j < L.length + 1 → car L base (j : Int) ahead ≠ x) : plcL L base x ahead = -1 := by
  unfold plcL
  have e : ((List.range (L.length + 1)).find? fun (a : Nat) => car L base (a : Int) ahead == x) = none := by
    rw [List.find?_eq_none]
    intro a ha
    simpa using h1 a (by simpa using ha)
  rw [e]
  rfl
/-- What PlaceOf may be asked. -/
def plcOk (L : List Int) (base : Int) : Bool := okL L && decide (base = 0 ∨ base = 1)
/-- The answer of PlaceOf. -/
def plcA (L : List Int) (base x : Int) (ahead : Bool) : Int := if plcOk L base then plcL L base x ahead else -1
set_option maxHeartbeats 2000000 in
set_option maxRecDepth 100000 in
theorem specPlace (v : Value) (L : List Int) (base x : Int) (ahead : Bool) (w : World) (h : IntsAt w v L) (hl : L.length ≤ 1048576) :
    Calls Try.prog 15 #[v, .int .i64 base, .int .i64 x, .bool ahead] w fun e w' => e = .returned (.int .i64 (plcA L base x ahead)) ∧ Below w.heap.size w w' := by
  have AL := hide (l09Right_any v L w h hl)
  have HV : Hid (∀ wr, Below w.heap.size w wr → IntsAt wr v L) := hide (fun wr hb => h.below hb)
  obtain ⟨va, vc, rfl, _⟩ := h
  by_cases hc : plcOk L base = true
  · have R : Hid (plcA L base x ahead = plcL L base x ahead) := hide (by unfold plcA; rw [if_pos hc])
    unfold plcOk at hc
    simp only [Bool.and_eq_true, decide_eq_true_eq] at hc
    obtain ⟨hok, hb⟩ := hc
    have ok2 := (okL_iff L).1 hok
    have OK := hide ok2.2
    have hl2 := ok2.1
    clear ok2
    have hb0 : ¬ base < 0 := by omega
    have hb1 : ¬ 1 < base := by omega
    go_enter Try.func15, Try.ntmps15
    go_wp2_with fail
    refine (unhide AL).mono ?_
    rintro e w1 ⟨rfl, hbl⟩
    rw [hok]
    have HB := hide hbl
    clear hbl AL
    go_wp2_with fail
    refine (l09Seen_any _ L w1 (unhide HV w1 (unhide HB)) hl2).mono ?_
    rintro e w2 ⟨sv, rfl, ho, hbl⟩
    have HO := hide ho
    have HB2 := hide ((unhide HB).trans (hbl.mono (unhide HB).size))
    have CA : Hid (∀ k : Nat, k ≤ L.length → Calls Try.prog 26 #[.slice va L.length vc, sv, .int .i64 base, .int .i64 (k : Int), .bool ahead] w2 fun e w' => e = .returned (.int .i64 (car L base (k : Int) ahead)) ∧ w' = w2) :=
      hide (fun k hk => l09Caret_any _ _ L base k ahead w2 (unhide HV w2 (unhide HB2)) (unhide HO).at hb ⟨by omega, by omega⟩ hl2 (unhide OK))
    clear ho hbl HB HO
    go_wp2
    go_loopw [10] (fun i wr => ∃ k : Nat, k ≤ L.length + 1 ∧ i = .int .i64 k ∧ wr = w2 ∧ Hid (∀ j : Nat, j < k → car L base (j : Int) ahead ≠ x)) (fun i _ => L.length + 1 - (intOf i).toNat)
    case atStart => exact ⟨0, Nat.zero_le _, rfl, rfl, hide (fun j hj => by omega)⟩
    case round =>
      obtain ⟨k, hk, rfl, rfl, HN⟩ := hrel
      by_cases hlt : k ≤ L.length
      · have hlt' : (k : Int) ≤ (L.length : Int) := by omega
        have hlt2 : (k : Int) < (L.length : Int) + 1 := by omega
        by_cases hx : car L base (k : Int) ahead = x
        · have R2 := hide (plc_at hlt (unhide HN) hx)
          have hq : (car L base (k : Int) ahead == x) = true := by simpa using hx
          clear hx
          go_wp2_with fail
          refine (unhide CA k hlt).mono ?_
          rintro e w3 ⟨rfl, rfl⟩
          go_wp2
          go_ret
          rw [unhide R, unhide R2]
          exact ⟨rfl, unhide HB2⟩
        · have hq : (car L base (k : Int) ahead == x) = false := by simpa using hx
          have HN' : Hid (∀ j : Nat, j < k + 1 → car L base (j : Int) ahead ≠ x) := hide (fun j hj => by
            by_cases e : j = k
            · subst e; exact hx
            · exact unhide HN j (by omega))
          clear hx
          go_wp2_with fail
          refine (unhide CA k hlt).mono ?_
          rintro e w3 ⟨rfl, rfl⟩
          go_wp2
          go_roundw
          case rel => exact ⟨k + 1, by omega, by go_num, trivial, HN'⟩
          case measure => simp [intOf]; omega
      · obtain rfl : k = L.length + 1 := by omega
        have R2 := hide (plc_no (unhide HN))
        have hge : ¬ (((L.length + 1 : Nat) : Int) ≤ (L.length : Int)) := by omega
        have hge2 : ¬ (((L.length + 1 : Nat) : Int) < (L.length : Int) + 1) := by omega
        go_wp2
        go_ret
        rw [unhide R, unhide R2]
        exact ⟨rfl, unhide HB2⟩
  · have R : Hid (plcA L base x ahead = -1) := hide (by unfold plcA; rw [if_neg hc])
    unfold plcOk at hc
    simp only [Bool.and_eq_true, decide_eq_true_eq] at hc
    cases hok : okL L
    · go_enter Try.func15, Try.ntmps15
      go_wp2_with fail
      refine (unhide AL).mono ?_
      rintro e w1 ⟨rfl, hbl⟩
      rw [hok]
      have HB := hide hbl
      clear hbl AL hc
      go_wp2
      go_ret
      rw [unhide R]
      exact ⟨rfl, unhide HB⟩
    by_cases g1 : base < 0
    · go_enter Try.func15, Try.ntmps15
      go_wp2_with fail
      refine (unhide AL).mono ?_
      rintro e w1 ⟨rfl, hbl⟩
      rw [hok]
      have HB := hide hbl
      clear hbl AL hc
      go_wp2
      go_ret
      rw [unhide R]
      exact ⟨rfl, unhide HB⟩
    · have g2 : 1 < base := by
        have := (not_and.1 hc) hok
        omega
      go_enter Try.func15, Try.ntmps15
      go_wp2_with fail
      refine (unhide AL).mono ?_
      rintro e w1 ⟨rfl, hbl⟩
      rw [hok]
      have HB := hide hbl
      clear hbl AL hc
      go_wp2
      go_ret
      rw [unhide R]
      exact ⟨rfl, unhide HB⟩
set_option maxHeartbeats 2000000 in
set_option maxRecDepth 100000 in
theorem implPlace (v : Value) (L : List Int) (base x : Int) (ahead : Bool) (w : World) (h : IntsAt w v L) (hl : L.length ≤ 1048576) :
    Calls Try.prog 16 #[v, .int .i64 base, .int .i64 x, .bool ahead] w fun e w' => e = .returned (.int .i64 (plcA L base x ahead)) ∧ Below w.heap.size w w' := by
  have AL := hide (areLevels_any v L w h hl)
  have HV : Hid (∀ wr, Below w.heap.size w wr → IntsAt wr v L) := hide (fun wr hb => h.below hb)
  obtain ⟨va, vc, rfl, _⟩ := h
  by_cases hc : plcOk L base = true
  · have R : Hid (plcA L base x ahead = plcL L base x ahead) := hide (by unfold plcA; rw [if_pos hc])
    unfold plcOk at hc
    simp only [Bool.and_eq_true, decide_eq_true_eq] at hc
    obtain ⟨hok, hb⟩ := hc
    have ok2 := (okL_iff L).1 hok
    have OK := hide ok2.2
    have hl2 := ok2.1
    clear ok2
    have hb0 : ¬ base < 0 := by omega
    have hb1 : ¬ 1 < base := by omega
    go_enter Try.func16, Try.ntmps16
    go_wp2_with fail
    refine (unhide AL).mono ?_
    rintro e w1 ⟨rfl, hbl⟩
    rw [hok]
    have HB := hide hbl
    clear hbl AL
    go_wp2_with fail
    refine (isBase_any base _).mono ?_
    rintro e w1' ⟨rfl, rfl⟩
    rw [decide_eq_true hb]
    go_wp2_with fail
    refine (spotsOf_any _ L _ (unhide HV _ (unhide HB)) hok).mono ?_
    rintro e w2 ⟨sv, rfl, ho, hbl⟩
    have HO := hide ho
    have HB2 := hide ((unhide HB).trans (hbl.mono (unhide HB).size))
    have CA : Hid (∀ k : Nat, k ≤ L.length → Calls Try.prog 29 #[.slice va L.length vc, sv, .int .i64 base, .int .i64 (k : Int), .bool ahead] w2 fun e w' => e = .returned (.int .i64 (car L base (k : Int) ahead)) ∧ w' = w2) :=
      hide (fun k hk => caretAt_any _ _ L base k ahead w2 (unhide HV w2 (unhide HB2)) (unhide HO).at hb ⟨by omega, by omega⟩ hl2 (unhide OK))
    clear ho hbl HB HO
    go_wp2
    go_loopw [24] (fun i wr => ∃ k : Nat, k ≤ L.length + 1 ∧ i = .int .i64 k ∧ wr = w2 ∧ Hid (∀ j : Nat, j < k → car L base (j : Int) ahead ≠ x)) (fun i _ => L.length + 1 - (intOf i).toNat)
    case atStart => exact ⟨0, Nat.zero_le _, rfl, rfl, hide (fun j hj => by omega)⟩
    case round =>
      obtain ⟨k, hk, rfl, rfl, HN⟩ := hrel
      by_cases hlt : k ≤ L.length
      · have hlt' : (k : Int) ≤ (L.length : Int) := by omega
        have hlt2 : (k : Int) < (L.length : Int) + 1 := by omega
        by_cases hx : car L base (k : Int) ahead = x
        · have R2 := hide (plc_at hlt (unhide HN) hx)
          have hq : (car L base (k : Int) ahead == x) = true := by simpa using hx
          clear hx
          go_wp2_with fail
          refine (unhide CA k hlt).mono ?_
          rintro e w3 ⟨rfl, rfl⟩
          go_wp2
          go_ret
          rw [unhide R, unhide R2]
          exact ⟨rfl, unhide HB2⟩
        · have hq : (car L base (k : Int) ahead == x) = false := by simpa using hx
          have HN' : Hid (∀ j : Nat, j < k + 1 → car L base (j : Int) ahead ≠ x) := hide (fun j hj => by
            by_cases e : j = k
            · subst e; exact hx
            · exact unhide HN j (by omega))
          clear hx
          go_wp2_with fail
          refine (unhide CA k hlt).mono ?_
          rintro e w3 ⟨rfl, rfl⟩
          go_wp2
          go_roundw
          case rel => exact ⟨k + 1, by omega, by go_num, trivial, HN'⟩
          case measure => simp [intOf]; omega
      · obtain rfl : k = L.length + 1 := by omega
        have R2 := hide (plc_no (unhide HN))
        have hge : ¬ (((L.length + 1 : Nat) : Int) ≤ (L.length : Int)) := by omega
        have hge2 : ¬ (((L.length + 1 : Nat) : Int) < (L.length : Int) + 1) := by omega
        go_wp2
        go_ret
        rw [unhide R, unhide R2]
        exact ⟨rfl, unhide HB2⟩
  · have R : Hid (plcA L base x ahead = -1) := hide (by unfold plcA; rw [if_neg hc])
    unfold plcOk at hc
    simp only [Bool.and_eq_true, decide_eq_true_eq] at hc
    cases hok : okL L
    · go_enter Try.func16, Try.ntmps16
      go_wp2_with fail
      refine (unhide AL).mono ?_
      rintro e w1 ⟨rfl, hbl⟩
      rw [hok]
      have HB := hide hbl
      clear hbl AL hc
      go_wp2
      go_ret
      rw [unhide R]
      exact ⟨rfl, unhide HB⟩
    · have hb := (not_and.1 hc) hok
      go_enter Try.func16, Try.ntmps16
      go_wp2_with fail
      refine (unhide AL).mono ?_
      rintro e w1 ⟨rfl, hbl⟩
      rw [hok]
      have HB := hide hbl
      clear hbl AL hc
      go_wp2_with fail
      refine (isBase_any base _).mono ?_
      rintro e w1' ⟨rfl, rfl⟩
      rw [decide_eq_false hb]
      go_wp2
      go_ret
      rw [unhide R]
      exact ⟨rfl, unhide HB⟩
set_option maxHeartbeats 2000000 in
set_option maxRecDepth 100000 in
theorem lawPlace (v : Value) (L : List Int) (base at' : Int) (ahead : Bool) (w : World) (h : IntsAt w v L) (hm : L.length ≤ maxLen) (_ : (Lit.int .i64 base).wf = true) (_ : (Lit.int .i64 at').wf = true) :
    Calls Try.prog 5 #[v, .int .i64 base, .int .i64 at', .bool ahead] w fun e w' => e = .returned (.bool true) ∧ Below w.heap.size w w' := by
  have HA := hide h
  obtain ⟨va, vc, rfl, _⟩ := h
  unfold maxLen at hm
  by_cases hl : 1048576 < L.length
  · have hl' : (1048576 : Int) < (L.length : Int) := by omega
    go_enter Try.func5, Try.ntmps5
    go_wp2
    go_ret
    exact ⟨rfl, Below.refl _ _⟩
  have hl' : ¬ (1048576 : Int) < (L.length : Int) := by omega
  have lA : L.length ≤ 1048576 := by omega
  go_enter Try.func5, Try.ntmps5
  go_wp2_with fail
  refine (toInts _ L _ (unhide HA) lA).mono ?_
  rintro e w1 ⟨rfl, hs, hb, _⟩
  have S1 : Hid (Own w1 w.heap.size _ L) := hide hs
  have W1 := hide hb
  clear hs hb
  go_wp2_with fail
  refine (specPlace _ L base at' ahead _ (unhide S1).at lA).mono ?_
  rintro e w2 ⟨rfl, hb⟩
  have W2 := hide ((unhide W1).trans (hb.mono (unhide W1).size))
  clear hb S1 W1
  go_wp2_with fail
  refine (toInts _ L _ ((unhide HA).below (unhide W2)) lA).mono ?_
  rintro e w3 ⟨rfl, hs, hb, _⟩
  have X3 : Hid (Own w3 w2.heap.size (.slice (some ⟨w2.heap.size, 0, none⟩) L.length L.length) L) := hide hs
  have W3 := hide ((unhide W2).trans (hb.mono (unhide W2).size))
  clear hs hb W2
  generalize w2.heap.size = g at *
  go_wp2_with fail
  refine (implPlace _ L base at' ahead _ (unhide X3).at lA).mono ?_
  rintro e w4 ⟨rfl, hb⟩
  have X4 := hide ((unhide X3).below hb)
  have W4 := hide ((unhide W3).trans (hb.mono (unhide W3).size))
  clear hb X3 W3
  have hne : (plcA L base at' ahead != plcA L base at' ahead) = false := by simp
  go_wp2_with fail
  refine (toInts _ L _ ((unhide HA).below (unhide W4)) lA).mono ?_
  rintro e w6 ⟨rfl, hs, hb, _⟩
  have E6 : Hid (Own w6 w4.heap.size _ L) := hide hs
  have X6 := hide ((unhide X4).below hb)
  have W6 := hide ((unhide W4).trans (hb.mono (unhide W4).size))
  clear hs hb X4 W4
  go_wp2_with fail
  refine (eqInts _ _ L _ (unhide X6).at (unhide E6).at lA).mono ?_
  rintro e w7 ⟨rfl, hb⟩
  have W7 := hide ((unhide W6).trans (hb.mono (unhide W6).size))
  clear hb X6 W6 E6
  go_wp2
  go_ret
  exact ⟨rfl, unhide W7⟩
end Go.Proofs.Ytfnaclpkpjembaa.Bd
