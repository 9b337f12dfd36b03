/- IdFault: both, and the law. -/
import Derived.Test.YtodobncodcbelaaDoorIsnL
import Derived.Test.YtodobncodcbelaaDoorCallsK
import Derived.Test.YtodobncodcbelaaDoorMA
import Derived.Test.YtodobncodcbelaaDoorNPointsI
namespace Go.Proofs.YtodobncodcbelaaDoor.Idf
open Go.RowKit
set_option linter.unusedVariables false
theorem j2 {w w1 w2 : World} (h : Below w.heap.size w w1) (k : Below w1.heap.size w1 w2) : Below w.heap.size w w2 := h.trans (k.mono h.size)
theorem bf {a b : Int} (h : ¬ a = b) : (a == b) = false := by rw [beq_eq_false_iff_ne]; exact h
theorem bt' {a b : Int} (h : a = b) : (a == b) = true := by rw [beq_iff_eq]; exact h
theorem cat_eq (p : Int) : (known p).1 = catI p := (fine p).1.symm
/-- A letter. -/
def let1 (p : Int) : Bool := (catI p == 4 || catI p == 5 || catI p == 6) || catI p == 7
/-- What may stand in an identifier. -/
def oth (p : Int) : Bool := let1 p || (catI p == 8 || (catI p == 3 || p == 95))
def okk (L : List Int) (k : Nat) : Bool := (L.take k).all oth
def idk (L : List Int) : Bool := decide (1 ≤ L.length ∧ L.length ≤ 100) && (let1 (nth L 0) && okk L L.length)
theorem tk (L : List Int) (k : Nat) (h : k < L.length) : L.take (k + 1) = L.take k ++ [nth L k] := by
  rw [List.take_succ_eq_append_getElem h]
  unfold nth
  rw [List.getD_eq_getElem?_getD, List.getElem?_eq_getElem h]
  rfl
theorem okk_succ (L : List Int) (k : Nat) (h : k < L.length) : okk L (k + 1) = (okk L k && oth (nth L k)) := by
  unfold okk
  rw [tk L k h, List.all_append]
  simp
theorem okk_no (L : List Int) (k : Nat) (h : k < L.length) (hn : oth (nth L k) = false) : okk L L.length = false := by
  unfold okk
  rw [List.take_length, Bool.eq_false_iff]
  intro hall
  rw [List.all_eq_true] at hall
  have hm : nth L k ∈ L := by
    unfold nth
    rw [List.getD_eq_getElem?_getD, List.getElem?_eq_getElem h]
    exact List.getElem_mem h
  rw [hall _ hm] at hn
  cases hn
theorem rd_at {w : World} {v : Value} {L : List Int} (h : IntsAt w v L) (hl : 0 < L.length) : ∃ b off cap, v = .slice (some ⟨b, off, none⟩) L.length cap ∧ b < w.heap.size ∧ ∀ i, i < L.length → w.cell? ⟨b, off + i, none⟩ = some (.int .i64 (nth L i)) := by
  obtain ⟨a, cap, rfl, h⟩ := h
  rcases h with h | ⟨b, off, rfl, hbs, hc⟩
  · rw [h] at hl; simp at hl
  · exact ⟨b, off, cap, rfl, hbs, hc⟩
theorem caseI (p : Int) (w : World) (ht : TabAt w) : Calls Tryd.prog 36 #[.int .i64 p] w fun e w' => e = .returned (.bool (catI p == 4 || catI p == 5 || catI p == 6)) ∧ Below w.heap.size w w' := by
  have C := hide (implCat p w ht)
  clear ht
  generalize catI p = c at *
  by_cases h4 : c = 4
  · subst h4
    go_enter Tryd.func36, Tryd.ntmps36
    go_wp2_with (go_at_call 37; refine (unhide C).mono ?_; rintro e w1 ⟨rfl, hb1⟩)
    go_ret
    exact ⟨rfl, hb1⟩
  · have n4 := bf h4
    by_cases h5 : c = 5
    · subst h5
      go_enter Tryd.func36, Tryd.ntmps36
      go_wp2_with (go_at_call 37; refine (unhide C).mono ?_; rintro e w1 ⟨rfl, hb1⟩)
      go_ret
      exact ⟨rfl, hb1⟩
    · have n5 := bf h5
      by_cases h6 : c = 6
      · subst h6
        go_enter Tryd.func36, Tryd.ntmps36
        go_wp2_with (go_at_call 37; refine (unhide C).mono ?_; rintro e w1 ⟨rfl, hb1⟩)
        go_ret
        exact ⟨rfl, hb1⟩
      · have n6 := bf h6
        rw [n4, n5, n6]
        go_enter Tryd.func36, Tryd.ntmps36
        go_wp2_with (go_at_call 37; refine (unhide C).mono ?_; rintro e w1 ⟨rfl, hb1⟩)
        go_ret
        exact ⟨rfl, hb1⟩
theorem letrI (p : Int) (w : World) (ht : TabAt w) : Calls Tryd.prog 18 #[.int .i64 p] w fun e w' => e = .returned (.bool (let1 p)) ∧ Below w.heap.size w w' := by
  have hU : undef = Value.tuple #[] := rfl
  have C := hide (caseI p w ht)
  have C2 := hide (fun W (h : Below w.heap.size w W) => implCat p W (ht.below h))
  clear ht
  have HL : Hid (let1 p = ((catI p == 4 || catI p == 5 || catI p == 6) || catI p == 7)) := hide rfl
  generalize (catI p == 4 || catI p == 5 || catI p == 6) = a at *
  generalize let1 p = l at *
  generalize catI p = c at *
  cases a with
  | true =>
    go_enter Tryd.func18, Tryd.ntmps18
    go_wp2_with (go_at_call 36; refine (unhide C).mono ?_; rintro e w1 ⟨rfl, hb1⟩; have B1 := hide hb1; clear hb1)
    go_ret
    exact ⟨by rw [unhide HL]; rfl, unhide B1⟩
  | false =>
    rw [Bool.false_or] at HL
    go_enter Tryd.func18, Tryd.ntmps18
    go_wp2_with (first
      | (go_at_call 36; refine (unhide C).mono ?_; rintro e w1 ⟨rfl, hb1⟩; have B1 := hide hb1; clear hb1)
      | (go_at_call 37; refine ((unhide C2) _ (unhide B1)).mono ?_; rintro e w2 ⟨rfl, hb2⟩; have B2 := hide (j2 (unhide B1) hb2); clear hb2))
    go_ret
    exact ⟨by rw [unhide HL]; rfl, unhide B2⟩
theorem digB (p : Int) (w : World) (ht : TabAt w) : Calls Tryd.prog 39 #[.int .i64 p] w fun e w' => e = .returned (.bool (catI p == 8)) ∧ Below w.heap.size w w' := by
  have C := hide (implCat p w ht)
  clear ht
  generalize catI p = c at *
  go_enter Tryd.func39, Tryd.ntmps39
  go_wp2_with (go_at_call 37; refine (unhide C).mono ?_; rintro e w1 ⟨rfl, hb1⟩)
  go_ret
  exact ⟨rfl, hb1⟩
set_option maxRecDepth 100000 in
theorem notI (p : Int) (w : World) (ht : TabAt w) : Calls Tryd.prog 20 #[.int .i64 p] w fun e w' => e = .returned (.bool (!oth p)) ∧ Below w.heap.size w w' := by
  have hU : undef = Value.tuple #[] := rfl
  have C1 := hide (letrI p w ht)
  have C2 := hide (fun W (h : Below w.heap.size w W) => digB p W (ht.below h))
  have C3 := hide (fun W (h : Below w.heap.size w W) => implCat p W (ht.below h))
  clear ht
  have HL : Hid (oth p = (let1 p || (catI p == 8 || (catI p == 3 || p == 95)))) := hide rfl
  generalize oth p = o at *
  generalize let1 p = l at *
  cases l with
  | true =>
    rw [Bool.true_or] at HL
    go_enter Tryd.func20, Tryd.ntmps20
    go_wp2_with (go_at_call 18; refine (unhide C1).mono ?_; rintro e w1 ⟨rfl, hb1⟩; have B1 := hide hb1; clear hb1)
    go_ret
    exact ⟨by rw [unhide HL]; rfl, unhide B1⟩
  | false =>
    rw [Bool.false_or] at HL
    cases h8 : (catI p == 8) with
    | true =>
      rw [h8] at C2 HL
      rw [Bool.true_or] at HL
      clear h8
      go_enter Tryd.func20, Tryd.ntmps20
      go_wp2_with (first
        | (go_at_call 18; refine (unhide C1).mono ?_; rintro e w1 ⟨rfl, hb1⟩; have B1 := hide hb1; clear hb1)
        | (go_at_call 39; refine ((unhide C2) _ (unhide B1)).mono ?_; rintro e w2 ⟨rfl, hb2⟩; have B2 := hide (j2 (unhide B1) hb2); clear hb2))
      go_ret
      exact ⟨by rw [unhide HL]; rfl, unhide B2⟩
    | false =>
      rw [h8] at C2 HL
      rw [Bool.false_or] at HL
      clear h8
      by_cases h3 : catI p = 3
      · rw [h3] at HL C3
        have e3 : ((3 : Int) == 3 || p == 95) = true := by simp
        rw [e3] at HL
        clear h3 e3
        go_enter Tryd.func20, Tryd.ntmps20
        go_wp2_with (first
          | (go_at_call 18; refine (unhide C1).mono ?_; rintro e w1 ⟨rfl, hb1⟩; have B1 := hide hb1; clear hb1)
          | (go_at_call 39; refine ((unhide C2) _ (unhide B1)).mono ?_; rintro e w2 ⟨rfl, hb2⟩; have B2 := hide (j2 (unhide B1) hb2); clear hb2)
          | (go_at_call 37; refine ((unhide C3) _ (unhide B2)).mono ?_; rintro e w3 ⟨rfl, hb3⟩; have B3 := hide (j2 (unhide B2) hb3); clear hb3))
        go_ret
        exact ⟨by rw [unhide HL]; rfl, unhide B3⟩
      · rw [bf h3, Bool.false_or] at HL
        have n3 : (catI p != 3) = true := by simpa using h3
        clear h3
        generalize catI p = c at *
        go_enter Tryd.func20, Tryd.ntmps20
        go_wp2_with (first
          | (go_at_call 18; refine (unhide C1).mono ?_; rintro e w1 ⟨rfl, hb1⟩; have B1 := hide hb1; clear hb1)
          | (go_at_call 39; refine ((unhide C2) _ (unhide B1)).mono ?_; rintro e w2 ⟨rfl, hb2⟩; have B2 := hide (j2 (unhide B1) hb2); clear hb2)
          | (go_at_call 37; refine ((unhide C3) _ (unhide B2)).mono ?_; rintro e w3 ⟨rfl, hb3⟩; have B3 := hide (j2 (unhide B2) hb3); clear hb3))
        go_ret
        exact ⟨by rw [unhide HL]; rfl, unhide B3⟩
set_option maxRecDepth 100000 in
set_option maxHeartbeats 2000000 in
theorem indexI (v : Value) (L : List Int) (w : World) (ht : TabAt w) (hv : IntsAt w v L) (hL : L.length ≤ 1048576) :
    Calls Tryd.prog 38 #[v, .func (.func 20) #[] #[]] w fun e w' => (∃ z : Int, e = .returned (.int .i64 z) ∧ decide (0 ≤ z) = !okk L L.length) ∧ Below w.heap.size w w' := by
  have HV := hide hv
  have HT := hide ht
  clear ht
  obtain ⟨a, cap, rfl, _⟩ := hv
  go_enter Tryd.func38, Tryd.ntmps38
  go_wp2
  go_loopw [8] (fun iv wr => ∃ k : Nat, k ≤ L.length ∧ iv = .int .i64 k ∧ Hid (okk L k = true) ∧ Hid (Below w.heap.size w wr)) (fun iv _ => L.length - (intOf iv).toNat)
  case atStart => exact ⟨0, Nat.zero_le _, rfl, hide rfl, hide (Below.refl _ _)⟩
  case round =>
    obtain ⟨k, hk, rfl, HK, HB⟩ := hrel
    by_cases hlt : k < L.length
    · obtain ⟨b, off, cp, he, hbw, hc⟩ := rd_at (unhide HV) (by omega)
      cases he
      have kc := ((unhide HB).cell (p := ⟨b, off + k, none⟩) hbw).trans (hc k hlt)
      have hBs := (unhide HB).size
      have CW := hide (fun W h => notI (nth L k) W h)
      have HS := hide (okk_succ L k hlt)
      have HNo := hide (okk_no L k hlt)
      clear hc
      generalize nth L k = p at *
      cases hq : oth p with
      | false =>
        have HE : Hid (okk L L.length = false) := hide ((unhide HNo) hq)
        rw [hq] at CW
        clear hq HS HNo
        go_wp2_with (go_at_call 20; refine ((unhide CW) _ ((unhide HT).below (unhide HB))).mono ?_; rintro e w2 ⟨rfl, hb2⟩; have B2 := hide (j2 (unhide HB) hb2); clear hb2)
        go_ret
        exact ⟨⟨_, rfl, by rw [unhide HE]; simp⟩, unhide B2⟩
      | true =>
        have HK2 : Hid (okk L (k + 1) = true) := hide (by rw [unhide HS, unhide HK, hq]; rfl)
        rw [hq] at CW
        clear hq HS HNo
        go_wp2_with (go_at_call 20; refine ((unhide CW) _ ((unhide HT).below (unhide HB))).mono ?_; rintro e w2 ⟨rfl, hb2⟩; have B2 := hide (j2 (unhide HB) hb2); clear hb2)
        go_roundw
        case rel => exact ⟨k + 1, by omega, by go_num, HK2, B2⟩
        case measure => simp [intOf]; omega
    · obtain rfl : k = L.length := by omega
      go_wp2
      go_ret
      exact ⟨⟨_, rfl, by rw [unhide HK]; rfl⟩, unhide HB⟩
set_option maxRecDepth 100000 in
theorem containsI (v : Value) (L : List Int) (w : World) (ht : TabAt w) (hv : IntsAt w v L) (hL : L.length ≤ 1048576) :
    Calls Tryd.prog 19 #[v, .func (.func 20) #[] #[]] w fun e w' => e = .returned (.bool (!okk L L.length)) ∧ Below w.heap.size w w' := by
  have C := hide (indexI v L w ht hv hL)
  obtain ⟨a, cap, rfl, _⟩ := hv
  clear ht
  generalize okk L L.length = q at *
  go_enter Tryd.func19, Tryd.ntmps19
  go_wp2_with (go_at_call 38; refine (unhide C).mono ?_; rintro e w2 ⟨⟨z, rfl, hz⟩, hb2⟩; have HZ := hide hz; have B2 := hide hb2; clear hz hb2)
  go_ret
  exact ⟨by rw [← unhide HZ]; rfl, unhide B2⟩
def idf (s : ByteArray) : Int := if isN 4 s && idk (ptsOut s) then 0 else 1
set_option maxRecDepth 100000 in
set_option maxHeartbeats 2000000 in
theorem implId (s : ByteArray) (w : World) (ht : TabAt w) (hs : s.size ≤ 1048576) : Calls Tryd.prog 7 #[.string s] w fun e w' => e = .returned (.int .i64 (idf s)) ∧ Below w.heap.size w w' := by
  have hU : undef = Value.tuple #[] := rfl
  have HT := hide ht
  clear ht
  have CP := hide (implPointsOf s w hs)
  have CN := hide (fun W => implIsN 4 s W hs)
  have hle := ptsOut_le s
  have HE : Hid (idf s = if isN 4 s && idk (ptsOut s) then 0 else 1) := hide rfl
  generalize idf s = Z at *
  generalize ptsOut s = L at *
  by_cases hl : (1 : Int) ≤ (L.length : Int) ∧ (L.length : Int) ≤ 100
  · have hdk : idk L = (let1 (nth L 0) && okk L L.length) := by unfold idk; rw [decide_eq_true (show 1 ≤ L.length ∧ L.length ≤ 100 by omega), Bool.true_and]
    rw [hdk] at HE
    clear hdk
    cases hn : isN 4 s with
    | false =>
      rw [hn] at CN HE
      rw [Bool.false_and, if_neg (by simp)] at HE
      clear hn
      go_enter Tryd.func7, Tryd.ntmps7
      go_wp2_with (first
        | (go_at_call 15; refine (unhide CP).mono ?_; rintro e w1 ⟨v1, rfl, ho1, hb1⟩; obtain ⟨a1, c1, rfl, _⟩ := IntsAt.owned ho1; have B1 := hide hb1; clear ho1 hb1)
        | (go_at_call 16; refine (within_t _ _ _ _ hl).mono ?_; rintro e w' ⟨rfl, hw⟩; obtain rfl := hw.symm; clear hw)
        | (go_at_call 17; refine ((unhide CN) _).mono ?_; rintro e w2 ⟨rfl, hb2⟩; have B2 := hide (j2 (unhide B1) hb2); clear hb2))
      go_ret
      exact ⟨by rw [unhide HE]; rfl, unhide B2⟩
    | true =>
      rw [hn] at CN HE
      rw [Bool.true_and] at HE
      clear hn
      have CL := hide (fun W h => letrI (nth L 0) W h)
      have CC := hide (fun v W h hv => containsI v L W h hv (by omega))
      cases h0 : let1 (nth L 0) with
      | false =>
        rw [h0] at CL HE
        rw [Bool.false_and, if_neg (by simp)] at HE
        clear h0
        go_enter Tryd.func7, Tryd.ntmps7
        go_wp2_with (first
          | (go_at_call 15; refine (unhide CP).mono ?_; rintro e w1 ⟨v1, rfl, ho1, hb1⟩; obtain ⟨g1, o1, c1, rfl, hg1, hc1⟩ := rd_at (IntsAt.owned ho1) (by omega); have kc := hc1 0 (by omega); rw [Nat.add_zero] at kc; have B1 := hide hb1; clear ho1 hb1 hc1)
          | (go_at_call 16; refine (within_t _ _ _ _ hl).mono ?_; rintro e w' ⟨rfl, hw⟩; obtain rfl := hw.symm; clear hw)
          | (go_at_call 17; refine ((unhide CN) _).mono ?_; rintro e w2 ⟨rfl, hb2⟩; have kc2 := (hb2.cell (p := ⟨g1, o1, none⟩) hg1).trans kc; have B2 := hide (j2 (unhide B1) hb2); clear hb2)
          | (go_at_call 18; refine ((unhide CL) _ ((unhide HT).below (unhide B2))).mono ?_; rintro e w3 ⟨rfl, hb3⟩; have B3 := hide (j2 (unhide B2) hb3); clear hb3))
        go_ret
        exact ⟨by rw [unhide HE]; rfl, unhide B3⟩
      | true =>
        rw [h0] at CL HE
        rw [Bool.true_and] at HE
        clear h0
        cases hk : okk L L.length with
        | false =>
          rw [hk] at CC HE
          rw [if_neg (by simp)] at HE
          clear hk
          go_enter Tryd.func7, Tryd.ntmps7
          go_wp2_with (first
            | (go_at_call 15; refine (unhide CP).mono ?_; rintro e w1 ⟨v1, rfl, ho1, hb1⟩; have I1 := hide (IntsAt.owned ho1); obtain ⟨g1, o1, c1, rfl, hg1, hc1⟩ := rd_at (IntsAt.owned ho1) (by omega); have kc := hc1 0 (by omega); rw [Nat.add_zero] at kc; have B1 := hide hb1; clear ho1 hb1 hc1)
            | (go_at_call 16; refine (within_t _ _ _ _ hl).mono ?_; rintro e w' ⟨rfl, hw⟩; obtain rfl := hw.symm; clear hw)
            | (go_at_call 17; refine ((unhide CN) _).mono ?_; rintro e w2 ⟨rfl, hb2⟩; have kc2 := (hb2.cell (p := ⟨g1, o1, none⟩) hg1).trans kc; have I2 := hide ((unhide I1).below hb2); have B2 := hide (j2 (unhide B1) hb2); clear hb2)
            | (go_at_call 18; refine ((unhide CL) _ ((unhide HT).below (unhide B2))).mono ?_; rintro e w3 ⟨rfl, hb3⟩; have I3 := hide ((unhide I2).below hb3); have B3 := hide (j2 (unhide B2) hb3); clear hb3)
            | (go_at_call 19; refine ((unhide CC) _ _ ((unhide HT).below (unhide B3)) (unhide I3)).mono ?_; rintro e w4 ⟨rfl, hb4⟩; have B4 := hide (j2 (unhide B3) hb4); clear hb4))
          go_ret
          exact ⟨by rw [unhide HE]; rfl, unhide B4⟩
        | true =>
          rw [hk] at CC HE
          rw [if_pos rfl] at HE
          clear hk
          go_enter Tryd.func7, Tryd.ntmps7
          go_wp2_with (first
            | (go_at_call 15; refine (unhide CP).mono ?_; rintro e w1 ⟨v1, rfl, ho1, hb1⟩; have I1 := hide (IntsAt.owned ho1); obtain ⟨g1, o1, c1, rfl, hg1, hc1⟩ := rd_at (IntsAt.owned ho1) (by omega); have kc := hc1 0 (by omega); rw [Nat.add_zero] at kc; have B1 := hide hb1; clear ho1 hb1 hc1)
            | (go_at_call 16; refine (within_t _ _ _ _ hl).mono ?_; rintro e w' ⟨rfl, hw⟩; obtain rfl := hw.symm; clear hw)
            | (go_at_call 17; refine ((unhide CN) _).mono ?_; rintro e w2 ⟨rfl, hb2⟩; have kc2 := (hb2.cell (p := ⟨g1, o1, none⟩) hg1).trans kc; have I2 := hide ((unhide I1).below hb2); have B2 := hide (j2 (unhide B1) hb2); clear hb2)
            | (go_at_call 18; refine ((unhide CL) _ ((unhide HT).below (unhide B2))).mono ?_; rintro e w3 ⟨rfl, hb3⟩; have I3 := hide ((unhide I2).below hb3); have B3 := hide (j2 (unhide B2) hb3); clear hb3)
            | (go_at_call 19; refine ((unhide CC) _ _ ((unhide HT).below (unhide B3)) (unhide I3)).mono ?_; rintro e w4 ⟨rfl, hb4⟩; have B4 := hide (j2 (unhide B3) hb4); clear hb4))
          go_ret
          exact ⟨by rw [unhide HE]; rfl, unhide B4⟩
  · have hdk : idk L = false := by unfold idk; rw [decide_eq_false (by omega), Bool.false_and]
    rw [hdk, Bool.and_false, if_neg (by simp)] at HE
    clear hdk CN
    go_enter Tryd.func7, Tryd.ntmps7
    go_wp2_with (first
      | (go_at_call 15; refine (unhide CP).mono ?_; rintro e w1 ⟨v1, rfl, ho1, hb1⟩; obtain ⟨a1, c1, rfl, _⟩ := IntsAt.owned ho1; have B1 := hide hb1; clear ho1 hb1)
      | (go_at_call 16; refine (within_f _ _ _ _ hl).mono ?_; rintro e w' ⟨rfl, hw⟩; obtain rfl := hw.symm; clear hw))
    go_ret
    exact ⟨by rw [unhide HE]; rfl, unhide B1⟩
end Go.Proofs.YtodobncodcbelaaDoor.Idf
