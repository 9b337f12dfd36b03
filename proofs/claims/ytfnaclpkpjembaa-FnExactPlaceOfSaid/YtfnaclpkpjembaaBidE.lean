/- CaretOf and PlaceOf; their laws. -/
import Derived.Test.YtfnaclpkpjembaaBidD
namespace Go.Proofs.Ytfnaclpkpjembaa.Bd
open Go.RowKit
set_option linter.unusedVariables false
/-- What CaretOf may be asked. -/
def crtOk (L : List Int) (base at' : Int) : Bool := okL L && decide (base = 0 ∨ base = 1) && decide (0 ≤ at' ∧ at' ≤ (L.length : Int))
/-- The answer of CaretOf. -/
def crt (L : List Int) (base at' : Int) (ahead : Bool) : Int := if crtOk L base at' then car L base at' ahead else -1
set_option maxHeartbeats 2000000 in
set_option maxRecDepth 100000 in
theorem specCaret (v : Value) (L : List Int) (base at' : Int) (ahead : Bool) (w : World) (h : IntsAt w v L) (hl : L.length ≤ 1048576) :
    Calls Try.prog 13 #[v, .int .i64 base, .int .i64 at', .bool ahead] w fun e w' => e = .returned (.int .i64 (crt L base at' ahead)) ∧ Below w.heap.size w w' := by
  have AL := hide (l09Right_any v L w h hl)
  have HV : Hid (∀ wr, Below w.heap.size w wr → IntsAt wr v L) := hide (fun wr hb => h.below hb)
  obtain ⟨va, vc, rfl, _⟩ := h
  by_cases hc : crtOk L base at' = true
  · have R : Hid (crt L base at' ahead = car L base at' ahead) := hide (by unfold crt; rw [if_pos hc])
    unfold crtOk at hc
    simp only [Bool.and_eq_true, decide_eq_true_eq] at hc
    obtain ⟨⟨hok, hb⟩, ha0, ha1⟩ := hc
    have ok2 := (okL_iff L).1 hok
    have OK := hide ok2.2
    have hl2 := ok2.1
    clear ok2
    have hb0 : ¬ base < 0 := by omega
    have hb1 : ¬ 1 < base := by omega
    have ha0' : ¬ at' < 0 := by omega
    have ha1' : ¬ (L.length : Int) < at' := by omega
    go_enter Try.func13, Try.ntmps13
    go_wp2_with fail
    refine (unhide AL).mono ?_
    rintro e w1 ⟨rfl, hbl⟩
    rw [hok]
    have HB := hide hbl
    clear hbl AL
    go_wp2_with fail
    refine (l09Seen_any _ L w1 (unhide HV w1 (unhide HB)) hl2).mono ?_
    rintro e w2 ⟨sv, rfl, ho, hbl⟩
    have HO := hide ho
    have HB2 := hide ((unhide HB).trans (hbl.mono (unhide HB).size))
    clear ho hbl HB
    go_wp2_with fail
    refine (l09Caret_any _ _ L base at' ahead w2 (unhide HV w2 (unhide HB2)) (unhide HO).at hb ⟨ha0, ha1⟩ hl2 (unhide OK)).mono ?_
    rintro e w3 ⟨rfl, rfl⟩
    go_wp2
    go_ret
    rw [unhide R]
    exact ⟨rfl, unhide HB2⟩
  · have R : Hid (crt L base at' ahead = -1) := hide (by unfold crt; rw [if_neg hc])
    unfold crtOk at hc
    simp only [Bool.and_eq_true, decide_eq_true_eq] at hc
    cases hok : okL L
    · go_enter Try.func13, Try.ntmps13
      go_wp2_with fail
      refine (unhide AL).mono ?_
      rintro e w1 ⟨rfl, hbl⟩
      rw [hok]
      have HB := hide hbl
      clear hbl AL hc
      go_wp2
      go_ret
      rw [unhide R]
      exact ⟨rfl, unhide HB⟩
    by_cases g1 : base < 0
    · go_enter Try.func13, Try.ntmps13
      go_wp2_with fail
      refine (unhide AL).mono ?_
      rintro e w1 ⟨rfl, hbl⟩
      rw [hok]
      have HB := hide hbl
      clear hbl AL hc
      go_wp2
      go_ret
      rw [unhide R]
      exact ⟨rfl, unhide HB⟩
    by_cases g2 : 1 < base
    · go_enter Try.func13, Try.ntmps13
      go_wp2_with fail
      refine (unhide AL).mono ?_
      rintro e w1 ⟨rfl, hbl⟩
      rw [hok]
      have HB := hide hbl
      clear hbl AL hc
      go_wp2
      go_ret
      rw [unhide R]
      exact ⟨rfl, unhide HB⟩
    by_cases g3 : at' < 0
    · go_enter Try.func13, Try.ntmps13
      go_wp2_with fail
      refine (unhide AL).mono ?_
      rintro e w1 ⟨rfl, hbl⟩
      rw [hok]
      have HB := hide hbl
      clear hbl AL hc
      go_wp2
      go_ret
      rw [unhide R]
      exact ⟨rfl, unhide HB⟩
    · have g4 : (L.length : Int) < at' := by
        have := (not_and.1 hc) ⟨hok, by omega⟩
        omega
      go_enter Try.func13, Try.ntmps13
      go_wp2_with fail
      refine (unhide AL).mono ?_
      rintro e w1 ⟨rfl, hbl⟩
      rw [hok]
      have HB := hide hbl
      clear hbl AL hc
      go_wp2
      go_ret
      rw [unhide R]
      exact ⟨rfl, unhide HB⟩
set_option maxHeartbeats 2000000 in
set_option maxRecDepth 100000 in
theorem implCaret (v : Value) (L : List Int) (base at' : Int) (ahead : Bool) (w : World) (h : IntsAt w v L) (hl : L.length ≤ 1048576) :
    Calls Try.prog 14 #[v, .int .i64 base, .int .i64 at', .bool ahead] w fun e w' => e = .returned (.int .i64 (crt L base at' ahead)) ∧ Below w.heap.size w w' := by
  have AL := hide (areLevels_any v L w h hl)
  have HV : Hid (∀ wr, Below w.heap.size w wr → IntsAt wr v L) := hide (fun wr hb => h.below hb)
  obtain ⟨va, vc, rfl, _⟩ := h
  by_cases hc : crtOk L base at' = true
  · have R : Hid (crt L base at' ahead = car L base at' ahead) := hide (by unfold crt; rw [if_pos hc])
    unfold crtOk at hc
    simp only [Bool.and_eq_true, decide_eq_true_eq] at hc
    obtain ⟨⟨hok, hb⟩, ha0, ha1⟩ := hc
    have ok2 := (okL_iff L).1 hok
    have OK := hide ok2.2
    have hl2 := ok2.1
    clear ok2
    have ha0' : ¬ at' < 0 := by omega
    have ha1' : ¬ (L.length : Int) < at' := by omega
    go_enter Try.func14, Try.ntmps14
    go_wp2_with fail
    refine (unhide AL).mono ?_
    rintro e w1 ⟨rfl, hbl⟩
    rw [hok]
    have HB := hide hbl
    clear hbl AL
    go_wp2_with fail
    refine (isBase_any base _).mono ?_
    rintro e w1' ⟨rfl, rfl⟩
    rw [decide_eq_true hb]
    go_wp2_with fail
    refine (spotsOf_any _ L _ (unhide HV _ (unhide HB)) hok).mono ?_
    rintro e w2 ⟨sv, rfl, ho, hbl⟩
    have HO := hide ho
    have HB2 := hide ((unhide HB).trans (hbl.mono (unhide HB).size))
    clear ho hbl HB
    go_wp2_with fail
    refine (caretAt_any _ _ L base at' ahead w2 (unhide HV w2 (unhide HB2)) (unhide HO).at hb ⟨ha0, ha1⟩ hl2 (unhide OK)).mono ?_
    rintro e w3 ⟨rfl, rfl⟩
    go_wp2
    go_ret
    rw [unhide R]
    exact ⟨rfl, unhide HB2⟩
  · have R : Hid (crt L base at' ahead = -1) := hide (by unfold crt; rw [if_neg hc])
    unfold crtOk at hc
    simp only [Bool.and_eq_true, decide_eq_true_eq] at hc
    cases hok : okL L
    · go_enter Try.func14, Try.ntmps14
      go_wp2_with fail
      refine (unhide AL).mono ?_
      rintro e w1 ⟨rfl, hbl⟩
      rw [hok]
      have HB := hide hbl
      clear hbl AL hc
      go_wp2
      go_ret
      rw [unhide R]
      exact ⟨rfl, unhide HB⟩
    by_cases hb : base = 0 ∨ base = 1
    · by_cases g3 : at' < 0
      · go_enter Try.func14, Try.ntmps14
        go_wp2_with fail
        refine (unhide AL).mono ?_
        rintro e w1 ⟨rfl, hbl⟩
        rw [hok]
        have HB := hide hbl
        clear hbl AL hc
        go_wp2_with fail
        refine (isBase_any base _).mono ?_
        rintro e w1' ⟨rfl, rfl⟩
        rw [decide_eq_true hb]
        go_wp2
        go_ret
        rw [unhide R]
        exact ⟨rfl, unhide HB⟩
      · have g4 : (L.length : Int) < at' := by
          have := (not_and.1 hc) ⟨hok, hb⟩
          omega
        go_enter Try.func14, Try.ntmps14
        go_wp2_with fail
        refine (unhide AL).mono ?_
        rintro e w1 ⟨rfl, hbl⟩
        rw [hok]
        have HB := hide hbl
        clear hbl AL hc
        go_wp2_with fail
        refine (isBase_any base _).mono ?_
        rintro e w1' ⟨rfl, rfl⟩
        rw [decide_eq_true hb]
        go_wp2
        go_ret
        rw [unhide R]
        exact ⟨rfl, unhide HB⟩
    · go_enter Try.func14, Try.ntmps14
      go_wp2_with fail
      refine (unhide AL).mono ?_
      rintro e w1 ⟨rfl, hbl⟩
      rw [hok]
      have HB := hide hbl
      clear hbl AL hc
      go_wp2_with fail
      refine (isBase_any base _).mono ?_
      rintro e w1' ⟨rfl, rfl⟩
      rw [decide_eq_false hb]
      go_wp2
      go_ret
      rw [unhide R]
      exact ⟨rfl, unhide HB⟩
set_option maxHeartbeats 2000000 in
set_option maxRecDepth 100000 in
theorem lawCaret (v : Value) (L : List Int) (base at' : Int) (ahead : Bool) (w : World) (h : IntsAt w v L) (hm : L.length ≤ maxLen) (_ : (Lit.int .i64 base).wf = true) (_ : (Lit.int .i64 at').wf = true) :
    Calls Try.prog 4 #[v, .int .i64 base, .int .i64 at', .bool ahead] w fun e w' => e = .returned (.bool true) ∧ Below w.heap.size w w' := by
  have HA := hide h
  obtain ⟨va, vc, rfl, _⟩ := h
  unfold maxLen at hm
  by_cases hl : 1048576 < L.length
  · have hl' : (1048576 : Int) < (L.length : Int) := by omega
    go_enter Try.func4, Try.ntmps4
    go_wp2
    go_ret
    exact ⟨rfl, Below.refl _ _⟩
  have hl' : ¬ (1048576 : Int) < (L.length : Int) := by omega
  have lA : L.length ≤ 1048576 := by omega
  go_enter Try.func4, Try.ntmps4
  go_wp2_with fail
  refine (toInts _ L _ (unhide HA) lA).mono ?_
  rintro e w1 ⟨rfl, hs, hb, _⟩
  have S1 : Hid (Own w1 w.heap.size _ L) := hide hs
  have W1 := hide hb
  clear hs hb
  go_wp2_with fail
  refine (specCaret _ L base at' ahead _ (unhide S1).at lA).mono ?_
  rintro e w2 ⟨rfl, hb⟩
  have W2 := hide ((unhide W1).trans (hb.mono (unhide W1).size))
  clear hb S1 W1
  go_wp2_with fail
  refine (toInts _ L _ ((unhide HA).below (unhide W2)) lA).mono ?_
  rintro e w3 ⟨rfl, hs, hb, _⟩
  have X3 : Hid (Own w3 w2.heap.size (.slice (some ⟨w2.heap.size, 0, none⟩) L.length L.length) L) := hide hs
  have W3 := hide ((unhide W2).trans (hb.mono (unhide W2).size))
  clear hs hb W2
  generalize w2.heap.size = g at *
  go_wp2_with fail
  refine (implCaret _ L base at' ahead _ (unhide X3).at lA).mono ?_
  rintro e w4 ⟨rfl, hb⟩
  have X4 := hide ((unhide X3).below hb)
  have W4 := hide ((unhide W3).trans (hb.mono (unhide W3).size))
  clear hb X3 W3
  have hne : (crt L base at' ahead != crt L base at' ahead) = false := by simp
  go_wp2_with fail
  refine (toInts _ L _ ((unhide HA).below (unhide W4)) lA).mono ?_
  rintro e w6 ⟨rfl, hs, hb, _⟩
  have E6 : Hid (Own w6 w4.heap.size _ L) := hide hs
  have X6 := hide ((unhide X4).below hb)
  have W6 := hide ((unhide W4).trans (hb.mono (unhide W4).size))
  clear hs hb X4 W4
  go_wp2_with fail
  refine (eqInts _ _ L _ (unhide X6).at (unhide E6).at lA).mono ?_
  rintro e w7 ⟨rfl, hb⟩
  have W7 := hide ((unhide W6).trans (hb.mono (unhide W6).size))
  clear hb X6 W6 E6
  go_wp2
  go_ret
  exact ⟨rfl, unhide W7⟩
end Go.Proofs.Ytfnaclpkpjembaa.Bd
