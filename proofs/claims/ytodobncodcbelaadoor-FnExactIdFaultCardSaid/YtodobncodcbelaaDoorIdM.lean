/- IdFault of the specification; the law. -/
import Derived.Test.YtodobncodcbelaaDoorIdL
namespace Go.Proofs.YtodobncodcbelaaDoor.Idf
open Go.RowKit
set_option linter.unusedVariables false
set_option maxRecDepth 100000 in
theorem letS (p : Int) (w : World) : Calls Tryd.prog 31 #[.int .i64 p] w fun e w' => e = .returned (.bool (let1 p)) ∧ Below w.heap.size w w' := by
  have hU : undef = Value.tuple #[] := rfl
  have C := hide (specCat p w)
  rw [cat_eq] at C
  have HL : Hid (let1 p = ((catI p == 4 || catI p == 5 || catI p == 6) || catI p == 7)) := hide rfl
  generalize let1 p = l at *
  generalize catI p = c at *
  by_cases h4 : c = 4
  · subst h4
    go_enter Tryd.func31, Tryd.ntmps31
    go_wp2_with (go_at_call 32; refine (unhide C).mono ?_; rintro e w1 ⟨rfl, hb1⟩)
    go_ret
    exact ⟨by rw [unhide HL]; rfl, hb1⟩
  · have n4 := bf h4
    by_cases h5 : c = 5
    · subst h5
      go_enter Tryd.func31, Tryd.ntmps31
      go_wp2_with (go_at_call 32; refine (unhide C).mono ?_; rintro e w1 ⟨rfl, hb1⟩)
      go_ret
      exact ⟨by rw [unhide HL]; rfl, hb1⟩
    · have n5 := bf h5
      by_cases h6 : c = 6
      · subst h6
        go_enter Tryd.func31, Tryd.ntmps31
        go_wp2_with (go_at_call 32; refine (unhide C).mono ?_; rintro e w1 ⟨rfl, hb1⟩)
        go_ret
        exact ⟨by rw [unhide HL]; rfl, hb1⟩
      · have n6 := bf h6
        rw [n4, n5, n6] at HL
        go_enter Tryd.func31, Tryd.ntmps31
        go_wp2_with (go_at_call 32; refine (unhide C).mono ?_; rintro e w1 ⟨rfl, hb1⟩)
        go_ret
        exact ⟨by rw [unhide HL]; rfl, hb1⟩
theorem lenb {L : List Int} (h : 1 ≤ L.length ∧ L.length ≤ 100) : idk L = (let1 (nth L 0) && okk L L.length) := by unfold idk; rw [decide_eq_true h, Bool.true_and]
set_option maxRecDepth 100000 in
set_option maxHeartbeats 2000000 in
theorem idS (v : Value) (L : List Int) (w : World) (hv : IntsAt w v L) (hL : L.length ≤ 1048576) :
    Calls Tryd.prog 13 #[v] w fun e w' => e = .returned (.bool (idk L)) ∧ Below w.heap.size w w' := by
  have HV := hide hv
  by_cases h1 : L.length < 1
  · have HE : idk L = false := by unfold idk; rw [decide_eq_false (by omega), Bool.false_and]
    rw [HE]
    have hU : undef = Value.tuple #[] := rfl
    have h1' : (L.length : Int) < 1 := by omega
    obtain ⟨a, cap, rfl, _⟩ := hv
    clear HE
    go_enter Tryd.func13, Tryd.ntmps13
    go_wp2
    go_ret
    exact ⟨rfl, Below.refl _ _⟩
  by_cases h2 : 100 < L.length
  · have HE : idk L = false := by unfold idk; rw [decide_eq_false (by omega), Bool.false_and]
    rw [HE]
    have hU : undef = Value.tuple #[] := rfl
    have h1' : ¬ (L.length : Int) < 1 := by omega
    have h2' : (100 : Int) < (L.length : Int) := by omega
    obtain ⟨a, cap, rfl, _⟩ := hv
    clear HE
    go_enter Tryd.func13, Tryd.ntmps13
    go_wp2
    go_ret
    exact ⟨rfl, Below.refl _ _⟩
  rw [lenb ⟨by omega, by omega⟩]
  have h1' : ¬ (L.length : Int) < 1 := by omega
  have h2' : ¬ (100 : Int) < (L.length : Int) := by omega
  clear hv
  obtain ⟨b, off, cp, rfl, hbw, hc⟩ := rd_at (unhide HV) (by omega)
  have kc0 := hc 0 (by omega)
  rw [Nat.add_zero] at kc0
  have CL := hide (letS (nth L 0) w)
  cases h0 : let1 (nth L 0) with
  | false =>
    rw [h0] at CL
    rw [Bool.false_and]
    have hU : undef = Value.tuple #[] := rfl
    clear h0 hc
    go_enter Tryd.func13, Tryd.ntmps13
    go_wp2_with (go_at_call 31; refine (unhide CL).mono ?_; rintro e w1 ⟨rfl, hb1⟩; have B1 := hide hb1; clear hb1)
    go_ret
    exact ⟨rfl, unhide B1⟩
  | true =>
    rw [h0] at CL
    rw [Bool.true_and]
    have HC := hide hc
    clear h0 hc
    go_enter Tryd.func13, Tryd.ntmps13
    go_wp2_with (go_at_call 31; refine (unhide CL).mono ?_; rintro e w1 ⟨rfl, hb1⟩; have B1 := hide hb1; clear hb1)
    go_loopw [3] (fun iv wr => ∃ k : Nat, k ≤ L.length ∧ iv = .int .i64 k ∧ Hid (okk L k = true) ∧ Hid (Below w.heap.size w wr)) (fun iv _ => L.length - (intOf iv).toNat)
    case atStart => exact ⟨0, Nat.zero_le _, rfl, hide rfl, B1⟩
    case round =>
      obtain ⟨k, hk, rfl, HK, HB⟩ := hrel
      clear kc0 CL B1
      by_cases hlt : k < L.length
      · have kc := ((unhide HB).cell (p := ⟨b, off + k, none⟩) hbw).trans ((unhide HC) k hlt)
        have hBs := (unhide HB).size
        have hbr : b < wr.heap.size := by omega
        have CA := hide (fun W => specCat (nth L k) W)
        rw [cat_eq] at CA
        have CB := hide (fun W => letS (nth L k) W)
        have HS := hide (okk_succ L k hlt)
        have HNo := hide (okk_no L k hlt)
        have HO : Hid (oth (nth L k) = (let1 (nth L k) || (catI (nth L k) == 8 || (catI (nth L k) == 3 || nth L k == 95)))) := hide rfl
        generalize oth (nth L k) = o at *
        generalize let1 (nth L k) = l at *
        generalize catI (nth L k) = c at *
        generalize nth L k = p at *
        cases l with
        | true =>
          rw [Bool.true_or] at HO
          have HK2 : Hid (okk L (k + 1) = true) := hide (by rw [unhide HS, unhide HK, unhide HO]; rfl)
          clear HS HNo HO
          go_wp2_with (first
            | (go_at_call 32; refine ((unhide CA) _).mono ?_; rintro e w2 ⟨rfl, hb2⟩; have kc2 := (hb2.cell (p := ⟨b, off + k, none⟩) hbr).trans kc; have hbr2 : b < w2.heap.size := Nat.lt_of_lt_of_le hbr hb2.size; have B2 := hide (j2 (unhide HB) hb2); clear hb2)
            | (go_at_call 31; refine ((unhide CB) _).mono ?_; rintro e w3 ⟨rfl, hb3⟩; have kc3 := (hb3.cell (p := ⟨b, off + k, none⟩) hbr2).trans kc2; have B3 := hide (j2 (unhide B2) hb3); clear hb3))
          go_roundw
          case rel => exact ⟨k + 1, by omega, by go_num, HK2, B3⟩
          case measure => simp [intOf]; omega
        | false =>
          rw [Bool.false_or] at HO
          by_cases h3 : c = 3
          · have n3 : (c != 3) = false := by simp [h3]
            rw [bt' h3, Bool.true_or, Bool.or_true] at HO
            clear h3
            have HK2 : Hid (okk L (k + 1) = true) := hide (by rw [unhide HS, unhide HK, unhide HO]; rfl)
            clear HS HNo HO
            go_wp2_with (first
              | (go_at_call 32; refine ((unhide CA) _).mono ?_; rintro e w2 ⟨rfl, hb2⟩; have kc2 := (hb2.cell (p := ⟨b, off + k, none⟩) hbr).trans kc; have hbr2 : b < w2.heap.size := Nat.lt_of_lt_of_le hbr hb2.size; have B2 := hide (j2 (unhide HB) hb2); clear hb2)
              | (go_at_call 31; refine ((unhide CB) _).mono ?_; rintro e w3 ⟨rfl, hb3⟩; have kc3 := (hb3.cell (p := ⟨b, off + k, none⟩) hbr2).trans kc2; have B3 := hide (j2 (unhide B2) hb3); clear hb3))
            go_roundw
            case rel => exact ⟨k + 1, by omega, by go_num, HK2, B3⟩
            case measure => simp [intOf]; omega
          · have n3 : (c != 3) = true := by simpa using h3
            rw [bf h3, Bool.false_or] at HO
            clear h3
            by_cases h8 : c = 8
            · have n8 : (c != 8) = false := by simp [h8]
              rw [bt' h8, Bool.true_or] at HO
              clear h8
              have HK2 : Hid (okk L (k + 1) = true) := hide (by rw [unhide HS, unhide HK, unhide HO]; rfl)
              clear HS HNo HO
              go_wp2_with (first
                | (go_at_call 32; refine ((unhide CA) _).mono ?_; rintro e w2 ⟨rfl, hb2⟩; have kc2 := (hb2.cell (p := ⟨b, off + k, none⟩) hbr).trans kc; have hbr2 : b < w2.heap.size := Nat.lt_of_lt_of_le hbr hb2.size; have B2 := hide (j2 (unhide HB) hb2); clear hb2)
                | (go_at_call 31; refine ((unhide CB) _).mono ?_; rintro e w3 ⟨rfl, hb3⟩; have kc3 := (hb3.cell (p := ⟨b, off + k, none⟩) hbr2).trans kc2; have B3 := hide (j2 (unhide B2) hb3); clear hb3))
              go_roundw
              case rel => exact ⟨k + 1, by omega, by go_num, HK2, B3⟩
              case measure => simp [intOf]; omega
            · have n8 : (c != 8) = true := by simpa using h8
              rw [bf h8, Bool.false_or] at HO
              clear h8
              by_cases h9 : p = 95
              · have n9 : (p != 95) = false := by simp [h9]
                rw [bt' h9] at HO
                clear h9
                have HK2 : Hid (okk L (k + 1) = true) := hide (by rw [unhide HS, unhide HK, unhide HO]; rfl)
                clear HS HNo HO
                go_wp2_with (first
                  | (go_at_call 32; refine ((unhide CA) _).mono ?_; rintro e w2 ⟨rfl, hb2⟩; have kc2 := (hb2.cell (p := ⟨b, off + k, none⟩) hbr).trans kc; have hbr2 : b < w2.heap.size := Nat.lt_of_lt_of_le hbr hb2.size; have B2 := hide (j2 (unhide HB) hb2); clear hb2)
                  | (go_at_call 31; refine ((unhide CB) _).mono ?_; rintro e w3 ⟨rfl, hb3⟩; have kc3 := (hb3.cell (p := ⟨b, off + k, none⟩) hbr2).trans kc2; have B3 := hide (j2 (unhide B2) hb3); clear hb3))
                go_roundw
                case rel => exact ⟨k + 1, by omega, by go_num, HK2, B3⟩
                case measure => simp [intOf]; omega
              · have n9 : (p != 95) = true := by simpa using h9
                rw [bf h9] at HO
                clear h9
                have HK2 : Hid (okk L L.length = false) := hide ((unhide HNo) (by rw [unhide HO]))
                clear HS HNo HO
                go_wp2_with (first
                  | (go_at_call 32; refine ((unhide CA) _).mono ?_; rintro e w2 ⟨rfl, hb2⟩; have kc2 := (hb2.cell (p := ⟨b, off + k, none⟩) hbr).trans kc; have hbr2 : b < w2.heap.size := Nat.lt_of_lt_of_le hbr hb2.size; have B2 := hide (j2 (unhide HB) hb2); clear hb2)
                  | (go_at_call 31; refine ((unhide CB) _).mono ?_; rintro e w3 ⟨rfl, hb3⟩; have kc3 := (hb3.cell (p := ⟨b, off + k, none⟩) hbr2).trans kc2; have B3 := hide (j2 (unhide B2) hb3); clear hb3))
                go_ret
                exact ⟨by rw [unhide HK2]; rfl, unhide B3⟩
      · obtain rfl : k = L.length := by omega
        go_wp2
        go_ret
        exact ⟨by rw [unhide HK]; rfl, unhide HB⟩
set_option maxRecDepth 100000 in
set_option maxHeartbeats 1000000 in
theorem specId (s : ByteArray) (w : World) (hs : s.size ≤ 1048576) : Calls Tryd.prog 6 #[.string s] w fun e w' => e = .returned (.int .i64 (idf s)) ∧ Below w.heap.size w w' := by
  have hU : undef = Value.tuple #[] := rfl
  have CN := hide (specIsN 4 s w hs)
  have HE : Hid (idf s = if isN 4 s && idk (ptsOut s) then 0 else 1) := hide rfl
  generalize idf s = Z at *
  cases hn : isN 4 s with
  | false =>
    rw [hn] at CN HE
    rw [Bool.false_and, if_neg (by simp)] at HE
    clear hn
    go_enter Tryd.func6, Tryd.ntmps6
    go_wp2_with (go_at_call 12; refine (unhide CN).mono ?_; rintro e w1 ⟨rfl, hb1⟩; have B1 := hide hb1; clear hb1)
    go_ret
    exact ⟨by rw [unhide HE]; rfl, unhide B1⟩
  | true =>
    have hz : s.size ≤ 65536 := by
      have := hn
      unfold isN at this
      simp at this
      omega
    have hpo : ptsOut s = pts s := by unfold ptsOut; rw [if_neg (by omega)]
    rw [hn] at CN HE
    rw [Bool.true_and, hpo] at HE
    have CP := hide (fun W => l01Points s W (by omega))
    have hle := pts_le s
    have CI := hide (fun v W h => idS v (pts s) W h (by omega))
    clear hn hpo hle
    generalize pts s = L at *
    generalize idk L = q at *
    cases q with
    | false =>
      rw [if_neg (by simp)] at HE
      go_enter Tryd.func6, Tryd.ntmps6
      go_wp2_with (first
        | (go_at_call 12; refine (unhide CN).mono ?_; rintro e w1 ⟨rfl, hb1⟩; have B1 := hide hb1; clear hb1)
        | (go_at_call 14; refine ((unhide CP) _).mono ?_; rintro e w2 ⟨v2, rfl, ho2, hb2⟩; have I2 := hide (IntsAt.owned ho2); have B2 := hide (j2 (unhide B1) hb2); clear ho2 hb2)
        | (go_at_call 13; refine ((unhide CI) _ _ (unhide I2)).mono ?_; rintro e w3 ⟨rfl, hb3⟩; have B3 := hide (j2 (unhide B2) hb3); clear hb3))
      go_ret
      exact ⟨by rw [unhide HE]; rfl, unhide B3⟩
    | true =>
      rw [if_pos rfl] at HE
      go_enter Tryd.func6, Tryd.ntmps6
      go_wp2_with (first
        | (go_at_call 12; refine (unhide CN).mono ?_; rintro e w1 ⟨rfl, hb1⟩; have B1 := hide hb1; clear hb1)
        | (go_at_call 14; refine ((unhide CP) _).mono ?_; rintro e w2 ⟨v2, rfl, ho2, hb2⟩; have I2 := hide (IntsAt.owned ho2); have B2 := hide (j2 (unhide B1) hb2); clear ho2 hb2)
        | (go_at_call 13; refine ((unhide CI) _ _ (unhide I2)).mono ?_; rintro e w3 ⟨rfl, hb3⟩; have B3 := hide (j2 (unhide B2) hb3); clear hb3))
      go_ret
      exact ⟨by rw [unhide HE]; rfl, unhide B3⟩
set_option maxRecDepth 100000 in
theorem lawId (s : ByteArray) (w : World) (ht : TabAt w) : Calls Tryd.prog 3 #[.string s] w fun e w' => e = .returned (.bool true) ∧ Below w.heap.size w w' := by
  have HT := hide ht
  clear ht
  by_cases hs : s.size ≤ 1048576
  · have C1 := hide (specId s w hs)
    have C2 := hide (fun W h => implId s W h hs)
    have hs' : ¬ (1048576 : Int) < (s.size : Int) := by omega
    generalize idf s = t at *
    have hne : (t != t) = false := by simp
    go_enter Tryd.func3, Tryd.ntmps3
    go_wp2_with (first
      | (go_at_call 6; refine (unhide C1).mono ?_; rintro e w1 ⟨rfl, hb1⟩; have T1 := hide ((unhide HT).below hb1); have B1 := hide hb1; clear hb1)
      | (go_at_call 7; refine ((unhide C2) _ (unhide T1)).mono ?_; rintro e w2 ⟨rfl, hb2⟩; have B2 := hide (j2 (unhide B1) hb2); clear hb2))
    go_ret
    exact ⟨rfl, unhide B2⟩
  · have hs' : (1048576 : Int) < (s.size : Int) := by omega
    go_enter Tryd.func3, Tryd.ntmps3
    go_wp2
    go_ret
    exact ⟨rfl, Below.refl _ _⟩
end Go.Proofs.YtodobncodcbelaaDoor.Idf
