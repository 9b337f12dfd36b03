/- Where a close ends, as the specification tells it: the walk through its four loops. -/
import Derived.Test.YtdellmjafephiaaDoorSenT
import Derived.Deep.CutBlock
import Derived.Deep.CutRange
namespace Go.Proofs.YtdellmjafephiaaDoor
namespace Sen
open Go.RowKit
theorem ne_iff {a b : Nat} (h : decide (a = b) = false) : a ≠ b := by simpa using h
set_option maxRecDepth 100000 in
set_option maxHeartbeats 8000000 in
theorem closes_s (b off cap j : Nat) (L : List Int) (w : World) (hr : Chr.RowAt w b off L) (hL : L.length ≤ 65536) (hj : j < L.length) (hs : crw (at0 L j) = 1) (hn : (sst L j).1 ≠ 1) :
    Calls Tryd.prog 64 #[.slice (some ⟨b, off, none⟩) L.length cap, .int .i64 (j : Int)] w fun e w' =>
      ∃ (k : Nat) (ok : Bool), e = .returned (.tuple #[.int .i64 (k : Int), .bool ok]) ∧ Below w.heap.size w w' ∧ Hid (End L j k ∧ (k < L.length → Chr.cat (at0 L k) ≠ 3 → ok = okB (sst L k) (at0 L k))) := by
  have HR := hide hr
  have hbz := hr.1
  have HS := hide hs
  have HN := hide hn
  clear hr hs hn
  go_enter Tryd.func64, Tryd.ntmps64
  go_upto_block 0 with fail
  go_cut [6, 7] from 12 to 32 (fun x y wx => ∃ (i : Nat) (soft : Bool), x = .int .i64 (i : Int) ∧ y = .bool soft ∧ j < i ∧ i ≤ L.length ∧ w = wx ∧ Hid (InB L i soft) ∧ Hid (On L j i))
  case first =>
    go_wp2_with fail
    go_loopw [6, 7] (fun x y wr => ∃ (i : Nat) (soft : Bool), x = .int .i64 (i : Int) ∧ y = .bool soft ∧ j ≤ i ∧ i ≤ L.length ∧ w = wr ∧ Hid (InA L j i soft) ∧ Hid (On L j i)) (fun x _ _ => L.length - (intOf x).toNat)
    case atStart => exact ⟨j, true, rfl, rfl, Nat.le_refl _, by omega, rfl, hide (.inl ⟨rfl, rfl⟩), hide (fun t h1 h2 => by omega)⟩
    case round =>
      obtain ⟨i, soft, rfl, rfl, hji, hiL, rfl, HA, HO⟩ := hrel
      have OUTA : Hid ((i < L.length → crw (at0 L i) ≠ 1) → j < i ∧ InB L i soft) := hide (fun h => (unhide HA).out (unhide HS) hj h)
      by_cases hlt : i < L.length
      · have c0 := (unhide HR).2 i hlt
        have CS := hide (fun W => in_sgn (nth L i) W)
        rw [sgn_iff] at CS
        have STEP : Hid (crw (at0 L i) = 1 → InA L j (i + 1) (soft && (at0 L i == 46)) ∧ On L j (i + 1)) := hide (fun h => ⟨(unhide HA).step (unhide HN) h, (unhide HO).succ (fun h2 => (unhide HA).on h h2)⟩)
        obtain ⟨p, hp⟩ : ∃ p, nth L i = p := ⟨_, rfl⟩
        rw [show at0 L i = p from hp] at STEP OUTA
        rw [hp] at c0 CS
        clear hp
        cases hc : decide (crw p = 1)
        · rw [hc] at CS
          have OB := hide ((unhide OUTA) (fun _ => ne_iff hc))
          clear STEP OUTA HA hc
          go_wp2_with (go_at_call 63; refine ((unhide CS) _).mono ?_; rintro e w9 ⟨rfl, hw9⟩; obtain rfl := hw9.symm; clear hw9)
          go_meet
          case rel => exact ⟨i, soft, rfl, rfl, (unhide OB).1, by omega, rfl, hide (unhide OB).2, HO⟩
        · rw [hc] at CS
          have ST := hide ((unhide STEP) (by simpa using hc))
          clear STEP OUTA HA HO hc
          cases hs2 : soft
          · rw [hs2] at ST
            go_wp2_with (go_at_call 63; refine ((unhide CS) _).mono ?_; rintro e w9 ⟨rfl, hw9⟩; obtain rfl := hw9.symm; clear hw9)
            go_roundw
            case rel => exact ⟨i + 1, false, by go_num, rfl, by omega, by omega, by first | exact rfl | trivial, hide (unhide ST).1, hide (unhide ST).2⟩
            case measure => simp [intOf]; omega
          · rw [hs2] at ST
            go_wp2_with (go_at_call 63; refine ((unhide CS) _).mono ?_; rintro e w9 ⟨rfl, hw9⟩; obtain rfl := hw9.symm; clear hw9)
            go_roundw
            case rel => exact ⟨i + 1, (p == 46), by go_num, rfl, by omega, by omega, by first | exact rfl | trivial, hide (by have := (unhide ST).1; simpa using this), hide (unhide ST).2⟩
            case measure => simp [intOf]; omega
      · have OB := hide ((unhide OUTA) (fun h => absurd h hlt))
        clear OUTA HA
        go_wp2_with fail
        go_meet
        case rel => exact ⟨i, soft, rfl, rfl, (unhide OB).1, by omega, rfl, hide (unhide OB).2, HO⟩
  case rest =>
    obtain ⟨a, soft, rfl, rfl, hja, haL, rfl, HB, HO⟩ := hcut
    go_upto_block 2 with fail
    go_cut [6] from 33 to 45 (fun x wx => ∃ (i : Nat), x = .int .i64 (i : Int) ∧ j < i ∧ i ≤ L.length ∧ w = wx ∧ Hid (InC L i i soft) ∧ Hid (On L j i))
    case first =>
      go_wp2_with fail
      go_loopw [6] (fun x wr => ∃ (i : Nat), x = .int .i64 (i : Int) ∧ j < i ∧ i ≤ L.length ∧ w = wr ∧ Hid (InB L i soft) ∧ Hid (On L j i)) (fun x _ => L.length - (intOf x).toNat)
      case atStart => exact ⟨a, rfl, hja, haL, rfl, HB, HO⟩
      case round =>
        obtain ⟨i, rfl, hji, hiL, rfl, HA, HO2⟩ := hrel
        clear HB HO
        have OUTA : Hid ((i < L.length → crw (at0 L i) ≠ 2) → InC L i i soft) := hide (fun h => (unhide HA).out h)
        by_cases hlt : i < L.length
        · have c0 := (unhide HR).2 i hlt
          have CS := hide (fun W => in_quo (nth L i) W)
          rw [quo_iff] at CS
          have STEP : Hid (crw (at0 L i) = 2 → InB L (i + 1) soft ∧ On L j (i + 1)) := hide (fun h => ⟨((unhide HA).step h).1, (unhide HO2).succ (fun _ => ((unhide HA).step h).2)⟩)
          obtain ⟨p, hp⟩ : ∃ p, nth L i = p := ⟨_, rfl⟩
          rw [show at0 L i = p from hp] at STEP OUTA
          rw [hp] at c0 CS
          clear hp
          cases hc : decide (crw p = 2)
          · rw [hc] at CS
            have OB := hide ((unhide OUTA) (fun _ => ne_iff hc))
            clear STEP OUTA HA hc
            go_wp2_with (go_at_call 63; refine ((unhide CS) _).mono ?_; rintro e w9 ⟨rfl, hw9⟩; obtain rfl := hw9.symm; clear hw9)
            go_meet
            case rel => exact ⟨i, rfl, hji, by omega, rfl, OB, HO2⟩
          · rw [hc] at CS
            have ST := hide ((unhide STEP) (by simpa using hc))
            clear STEP OUTA HA HO2 hc
            go_wp2_with (go_at_call 63; refine ((unhide CS) _).mono ?_; rintro e w9 ⟨rfl, hw9⟩; obtain rfl := hw9.symm; clear hw9)
            go_roundw
            case rel => exact ⟨i + 1, by go_num, by omega, by omega, by first | exact rfl | trivial, hide (unhide ST).1, hide (unhide ST).2⟩
            case measure => simp [intOf]; omega
        · have OB := hide ((unhide OUTA) (fun h => absurd h hlt))
          clear OUTA HA
          go_wp2_with fail
          go_meet
          case rel => exact ⟨i, rfl, hji, by omega, rfl, OB, HO2⟩
    case rest =>
      clear HB HO hja haL
      obtain ⟨sp, rfl, hjs, hsL, rfl, HC, HO⟩ := hcut
      go_upto_block 4 with fail
      go_cut [6] from 47 to 60 (fun x wx => ∃ (i : Nat), x = .int .i64 (i : Int) ∧ j < i ∧ i ≤ L.length ∧ Hid (Below w.heap.size w wx) ∧ Hid (End L j i ∧ (sst L i).2 = soft ∧ ((sst L i).1 != 3) = (i == sp)))
      case first =>
        go_wp2_with fail
        go_loopw [6] (fun x wr => ∃ (i : Nat), x = .int .i64 (i : Int) ∧ sp ≤ i ∧ i ≤ L.length ∧ Hid (Below w.heap.size w wr) ∧ Hid (InC L sp i soft) ∧ Hid (On L j i)) (fun x _ => L.length - (intOf x).toNat)
        case atStart => exact ⟨sp, rfl, Nat.le_refl _, hsL, hide (Below.refl _ _), HC, HO⟩
        case round =>
          obtain ⟨i, rfl, hsi, hiL, HBE, HA, HO2⟩ := hrel
          clear HC HO
          have OUTA : Hid ((i < L.length → crw (at0 L i) ≠ 3) → End L j i ∧ (sst L i).2 = soft ∧ ((sst L i).1 != 3) = (i == sp)) := hide (fun h => (unhide HA).out (unhide HO2) (by omega) hiL h)
          by_cases hlt : i < L.length
          · have c0 := ((unhide HBE).cell (p := ⟨b, off + i, none⟩) hbz).trans ((unhide HR).2 i hlt)
            have CS := hide (fun W => cat_s (nth L i) W)
            have STEP : Hid (crw (at0 L i) = 3 → InC L sp (i + 1) soft ∧ On L j (i + 1)) := hide (fun h => ⟨((unhide HA).step h hsi).1, (unhide HO2).succ (fun _ => ((unhide HA).step h hsi).2)⟩)
            obtain ⟨p, hp⟩ : ∃ p, nth L i = p := ⟨_, rfl⟩
            rw [show at0 L i = p from hp] at STEP OUTA
            rw [hp] at c0 CS
            clear hp
            have hsp := spc_iff p
            cases hc : decide (crw p = 3)
            · rw [hc] at hsp
              have OB := hide ((unhide OUTA) (fun _ => ne_iff hc))
              clear STEP OUTA HA hc
              generalize Chr.cat p = cc at *
              go_wp2_with (go_at_call 88; refine ((unhide CS) _).mono ?_; rintro e w3 ⟨rfl, hb3⟩; have B3 := hide (jn (unhide HBE) hb3); clear hb3)
              go_meet
              case rel => exact ⟨i, rfl, by omega, by omega, B3, OB⟩
            · rw [hc] at hsp
              have ST := hide ((unhide STEP) (by simpa using hc))
              clear STEP OUTA HA HO2 hc
              generalize Chr.cat p = cc at *
              go_wp2_with (go_at_call 88; refine ((unhide CS) _).mono ?_; rintro e w3 ⟨rfl, hb3⟩; have B3 := hide (jn (unhide HBE) hb3); clear hb3)
              go_roundw
              case rel => exact ⟨i + 1, by go_num, by omega, by omega, B3, hide (unhide ST).1, hide (unhide ST).2⟩
              case measure => simp [intOf]; omega
          · have OB := hide ((unhide OUTA) (fun h => absurd h hlt))
            clear OUTA HA
            go_wp2_with fail
            go_meet
            case rel => exact ⟨i, rfl, by omega, by omega, HBE, OB⟩
      case rest =>
        clear HC HO
        obtain ⟨i, rfl, hji, hiL, HBE, HE⟩ := hcut
        go_upto_block 6 with fail
        go_cut [9] from 62 to 75 (fun x wx => ∃ (k : Nat), x = .int .i64 (k : Int) ∧ i ≤ k ∧ k ≤ L.length ∧ Hid (Below w.heap.size w wx) ∧ Hid (i < L.length → Chr.cat (at0 L i) ≠ 3 → k = i))
        case first =>
          go_wp2_with fail
          go_loopw [9] (fun x wr => ∃ (k : Nat), x = .int .i64 (k : Int) ∧ i ≤ k ∧ k ≤ L.length ∧ Hid (Below w.heap.size w wr) ∧ Hid (i < L.length → Chr.cat (at0 L i) ≠ 3 → k = i)) (fun x _ => L.length - (intOf x).toNat)
          case atStart => exact ⟨i, rfl, Nat.le_refl _, hiL, HBE, hide (fun _ _ => rfl)⟩
          case round =>
            obtain ⟨k, rfl, hik, hkL, HBK, HK⟩ := hrel
            by_cases hlt : k < L.length
            · have c0 := ((unhide HBK).cell (p := ⟨b, off + k, none⟩) hbz).trans ((unhide HR).2 k hlt)
              have CS := hide (fun W => cat_s (nth L k) W)
              have STEP : Hid (Chr.cat (at0 L k) = 3 → i < L.length → Chr.cat (at0 L i) ≠ 3 → k + 1 = i) := hide (fun h1 h2 h3 => by have := (unhide HK) h2 h3; subst this; exact absurd h1 h3)
              obtain ⟨p, hp⟩ : ∃ p, nth L k = p := ⟨_, rfl⟩
              rw [show at0 L k = p from hp] at STEP
              rw [hp] at c0 CS
              clear hp
              generalize Chr.cat p = cc at CS STEP
              cases hc : (cc == 3)
              · clear STEP
                go_wp2_with (go_at_call 88; refine ((unhide CS) _).mono ?_; rintro e w3 ⟨rfl, hb3⟩; have B3 := hide (jn (unhide HBK) hb3); clear hb3)
                go_meet
                case rel => exact ⟨k, rfl, hik, by omega, B3, HK⟩
              · have ST := hide ((unhide STEP) (by simpa using hc))
                clear STEP HK
                go_wp2_with (go_at_call 88; refine ((unhide CS) _).mono ?_; rintro e w3 ⟨rfl, hb3⟩; have B3 := hide (jn (unhide HBK) hb3); clear hb3)
                go_roundw
                case rel => exact ⟨k + 1, by go_num, by omega, by omega, B3, ST⟩
                case measure => simp [intOf]; omega
            · go_wp2_with fail
              go_meet
              case rel => exact ⟨k, rfl, hik, by omega, HBK, HK⟩
        case rest =>
          clear HBE
          obtain ⟨k, rfl, hik, hkL, HBE, HK⟩ := hcut
          have HOK : Hid (i < L.length → Chr.cat (at0 L i) ≠ 3 → okB (sst L i) (at0 L i) = okS soft (i == sp) (Chr.cat (at0 L k))) := hide (fun h1 h2 => by rw [← okS_eq, (unhide HE).2.1, (unhide HE).2.2, (unhide HK) h1 h2])
          have hbk := Nat.lt_of_lt_of_le hbz (unhide HBE).size
          cases hsf : soft
          · rw [hsf] at HOK
            go_wp2_with fail
            go_ret2
            exact ⟨i, true, rfl, unhide HBE, hide ⟨(unhide HE).1, fun h1 h2 => by rw [(unhide HOK) h1 h2]; rfl⟩⟩
          · rw [hsf] at HOK
            by_cases hlt : k < L.length
            · have c0 := ((unhide HBE).cell (p := ⟨b, off + k, none⟩) hbz).trans ((unhide HR).2 k hlt)
              have CS := hide (fun W => cat_s (nth L k) W)
              have CQ := hide (fun W => cased_s (nth L k) W)
              obtain ⟨p, hp⟩ : ∃ p, nth L k = p := ⟨_, rfl⟩
              rw [show at0 L k = p from hp] at HOK
              rw [hp] at c0 CS CQ
              clear hp
              have HOS : Hid (okS true (i == sp) (Chr.cat p) = !(Chr.cat p == 5 || ((i == sp) && (casC (Chr.cat p) || Chr.cat p == 7 || Chr.cat p == 8)))) := hide (by unfold okS; rw [Bool.true_and])
              generalize okS true (i == sp) (Chr.cat p) = OK at *
              generalize casC (Chr.cat p) = q at *
              generalize Chr.cat p = c at CS HOS
              have hii : ((i : Int) == (sp : Int)) = (i == sp) := by rw [Bool.eq_iff_iff]; simp only [beq_iff_eq]; omega
              cases h5 : (c == 5)
              · cases hsp : (i == sp)
                · rw [hsp] at hii HOS
                  rw [h5] at HOS
                  have HR2 : Hid (OK = true) := hide (by rw [unhide HOS]; rfl)
                  go_wp2_with (first | (go_at_call 88; refine ((unhide CS) _).mono ?_; rintro e w3 ⟨rfl, hb3⟩; have B3 := hide (jn (unhide HBE) hb3); have c3 := (hb3.cell (p := ⟨b, off + k, none⟩) hbk).trans c0; have z3 := Nat.lt_of_lt_of_le hbk hb3.size; clear hb3) | (go_at_call 93; refine ((unhide CQ) _).mono ?_; rintro e w4 ⟨rfl, hb4⟩; have B4 := hide (jn (unhide B3) hb4); clear hb4))
                  go_ret2
                  exact ⟨i, true, rfl, unhide B3, hide ⟨(unhide HE).1, fun h1 h2 => by rw [(unhide HOK) h1 h2, unhide HR2]⟩⟩
                · rw [hsp] at hii HOS
                  rw [h5] at HOS
                  cases hq : q
                  · rw [hq] at CQ HOS
                    cases h7 : (c == 7)
                    · cases h8 : (c == 8)
                      · rw [h7, h8] at HOS
                        have HR2 : Hid (OK = true) := hide (by rw [unhide HOS]; rfl)
                        go_wp2_with (first | (go_at_call 88; refine ((unhide CS) _).mono ?_; rintro e w3 ⟨rfl, hb3⟩; have B3 := hide (jn (unhide HBE) hb3); have c3 := (hb3.cell (p := ⟨b, off + k, none⟩) hbk).trans c0; have z3 := Nat.lt_of_lt_of_le hbk hb3.size; clear hb3) | (go_at_call 93; refine ((unhide CQ) _).mono ?_; rintro e w4 ⟨rfl, hb4⟩; have B4 := hide (jn (unhide B3) hb4); clear hb4))
                        go_ret2
                        exact ⟨i, true, rfl, unhide B4, hide ⟨(unhide HE).1, fun h1 h2 => by rw [(unhide HOK) h1 h2, unhide HR2]⟩⟩
                      · rw [h7, h8] at HOS
                        have HR2 : Hid (OK = false) := hide (by rw [unhide HOS]; rfl)
                        go_wp2_with (first | (go_at_call 88; refine ((unhide CS) _).mono ?_; rintro e w3 ⟨rfl, hb3⟩; have B3 := hide (jn (unhide HBE) hb3); have c3 := (hb3.cell (p := ⟨b, off + k, none⟩) hbk).trans c0; have z3 := Nat.lt_of_lt_of_le hbk hb3.size; clear hb3) | (go_at_call 93; refine ((unhide CQ) _).mono ?_; rintro e w4 ⟨rfl, hb4⟩; have B4 := hide (jn (unhide B3) hb4); clear hb4))
                        go_ret2
                        exact ⟨i, false, rfl, unhide B4, hide ⟨(unhide HE).1, fun h1 h2 => by rw [(unhide HOK) h1 h2, unhide HR2]⟩⟩
                    · rw [h7] at HOS
                      have HR2 : Hid (OK = false) := hide (by rw [unhide HOS]; rfl)
                      go_wp2_with (first | (go_at_call 88; refine ((unhide CS) _).mono ?_; rintro e w3 ⟨rfl, hb3⟩; have B3 := hide (jn (unhide HBE) hb3); have c3 := (hb3.cell (p := ⟨b, off + k, none⟩) hbk).trans c0; have z3 := Nat.lt_of_lt_of_le hbk hb3.size; clear hb3) | (go_at_call 93; refine ((unhide CQ) _).mono ?_; rintro e w4 ⟨rfl, hb4⟩; have B4 := hide (jn (unhide B3) hb4); clear hb4))
                      go_ret2
                      exact ⟨i, false, rfl, unhide B4, hide ⟨(unhide HE).1, fun h1 h2 => by rw [(unhide HOK) h1 h2, unhide HR2]⟩⟩
                  · rw [hq] at CQ HOS
                    have HR2 : Hid (OK = false) := hide (by rw [unhide HOS]; simp)
                    go_wp2_with (first | (go_at_call 88; refine ((unhide CS) _).mono ?_; rintro e w3 ⟨rfl, hb3⟩; have B3 := hide (jn (unhide HBE) hb3); have c3 := (hb3.cell (p := ⟨b, off + k, none⟩) hbk).trans c0; have z3 := Nat.lt_of_lt_of_le hbk hb3.size; clear hb3) | (go_at_call 93; refine ((unhide CQ) _).mono ?_; rintro e w4 ⟨rfl, hb4⟩; have B4 := hide (jn (unhide B3) hb4); clear hb4))
                    go_ret2
                    exact ⟨i, false, rfl, unhide B4, hide ⟨(unhide HE).1, fun h1 h2 => by rw [(unhide HOK) h1 h2, unhide HR2]⟩⟩
              · rw [h5] at HOS
                have HR2 : Hid (OK = false) := hide (by rw [unhide HOS]; simp)
                go_wp2_with (first | (go_at_call 88; refine ((unhide CS) _).mono ?_; rintro e w3 ⟨rfl, hb3⟩; have B3 := hide (jn (unhide HBE) hb3); have c3 := (hb3.cell (p := ⟨b, off + k, none⟩) hbk).trans c0; have z3 := Nat.lt_of_lt_of_le hbk hb3.size; clear hb3) | (go_at_call 93; refine ((unhide CQ) _).mono ?_; rintro e w4 ⟨rfl, hb4⟩; have B4 := hide (jn (unhide B3) hb4); clear hb4))
                go_ret2
                exact ⟨i, false, rfl, unhide B3, hide ⟨(unhide HE).1, fun h1 h2 => by rw [(unhide HOK) h1 h2, unhide HR2]⟩⟩
            · have HKN : Hid (i < L.length → Chr.cat (at0 L i) ≠ 3 → False) := hide (fun h1 h2 => by have := (unhide HK) h1 h2; omega)
              go_wp2_with fail
              go_ret2
              exact ⟨i, true, rfl, unhide HBE, hide ⟨(unhide HE).1, fun h1 h2 => ((unhide HKN) h1 h2).elim⟩⟩
end Sen
end Go.Proofs.YtdellmjafephiaaDoor
