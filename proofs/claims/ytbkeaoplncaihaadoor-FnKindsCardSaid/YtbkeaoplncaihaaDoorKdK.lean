/- The law of kinds, walked. -/
import Derived.Test.YtbkeaoplncaihaaDoorKdL
namespace Go.Proofs.YtbkeaoplncaihaaDoor.Kd
open Go.RowKit
set_option linter.unusedVariables false
set_option maxHeartbeats 4000000 in
set_option maxRecDepth 100000 in
theorem lawKinds (w : World) (a : Option Addr) (len cap : Nat) (hc : Dr.CodeIn w a len) (ht : TabAt w) :
    Calls Tryd.prog 3 #[.slice a len cap] w fun e w' => e = .returned (.bool true) ∧ Below w.heap.size w w' := by
  by_cases hs : 1048576 < len
  · have hs' : (1048576 : Int) < (len : Int) := by omega
    go_enter Tryd.func3, Tryd.ntmps3
    go_wp2
    go_ret
    exact ⟨rfl, Below.refl _ _⟩
  have hs' : ¬ (1048576 : Int) < (len : Int) := by omega
  have HC := hide hc
  have DC := hide (draw_any w a len cap (by omega) hc)
  have AT := hide (fun W (h : Dr.CodeIn W a len) => lwAt4 a len cap 0 W h (by omega) (by omega))
  have HT := hide ht
  clear hc ht
  go_enter Tryd.func3, Tryd.ntmps3
  go_wp2_with fail
  refine (unhide DC).mono ?_
  rintro e w1 ⟨p, rfl, hb⟩
  have HB := hide hb
  clear hb DC
  have TB := hide (fun W (h : Below w.heap.size w W) => (unhide HT).below h)
  clear HT
  have CC := hide (fun W h => implCat p W h)
  have CS := hide (fun W h => implScr p W h)
  have CM := hide (fun W => implCls p W)
  have CA := hide (fun W h => implAge p W h)
  have SC := hide (fun W => specCategory p W)
  have SS := hide (fun W => specScript p W)
  have SM := hide (fun W => specMarkClass p W)
  have SA := hide (fun W => specAgeK p W)
  have CG := hide (fun W h => implDig p W h)
  have MI := hide (fun W => mirI p W)
  have MJ := hide (fun W => mirI (mir p) W)
  have MS := hide (fun W => mirS p W)
  have MT := hide (fun W => mirS (mir p) W)
  have OV := hide (own_val p)
  have DG := hide (dig_cat p)
  have MB := hide (fun h0 h1 => mir_back (p := p) h0 h1)
  have f1 := (fine p).1
  have f2 := (fine p).2.1
  rw [← f1] at SC SA
  rw [← f2] at SS
  clear f1 f2
  unfold own4 at OV
  generalize catI p = vc at *
  generalize scrI p = vs at *
  generalize clsOf p = vm at *
  generalize ageOf vc p = va at *
  generalize digOf p = vd at *
  generalize mir (mir p) = vmm at *
  generalize mir p = vmi at *
  go_wp2_with fail
  refine ((unhide CC) _ ((unhide TB) _ (unhide HB))).mono ?_
  rintro e w2 ⟨rfl, hb⟩
  replace HB := hide ((unhide HB).trans (hb.mono (unhide HB).size))
  clear hb CC
  go_wp2_with fail
  refine ((unhide CS) _ ((unhide TB) _ (unhide HB))).mono ?_
  rintro e w3 ⟨rfl, hb⟩
  replace HB := hide ((unhide HB).trans (hb.mono (unhide HB).size))
  clear hb CS
  go_wp2_with fail
  refine ((unhide CM) _).mono ?_
  rintro e w4 ⟨rfl, rfl⟩
  clear CM
  go_wp2_with fail
  refine ((unhide CA) _ ((unhide TB) _ (unhide HB))).mono ?_
  rintro e w5 ⟨rfl, hb⟩
  replace HB := hide ((unhide HB).trans (hb.mono (unhide HB).size))
  clear hb CA
  have hsz := (unhide HB).size
  have K0 : Hid (Kw w (w5.alloc (.cells #[.int .i64 vc, .int .i64 vs, .int .i64 vm, .int .i64 va] 2)) w5.heap.size vc vs vm va) := hide ⟨((unhide TB) _ (unhide HB)).alloc _, ints4 (heap_alloc_new w5 _), (unhide HB).alloc hsz _⟩
  go_wp2_with fail
  refine ((unhide SC) _).mono ?_
  rintro e w6 ⟨rfl, hb⟩
  replace K0 := hide ((unhide K0).on hb)
  clear hb SC HB hsz
  go_wp2_with fail
  refine ((unhide SS) _).mono ?_
  rintro e w7 ⟨rfl, hb⟩
  replace K0 := hide ((unhide K0).on hb)
  clear hb SS
  go_wp2_with fail
  refine ((unhide SM) _).mono ?_
  rintro e w8 ⟨rfl, hb⟩
  replace K0 := hide ((unhide K0).on hb)
  clear hb SM
  go_wp2_with fail
  refine ((unhide SA) _).mono ?_
  rintro e w9 ⟨rfl, hb⟩
  replace K0 := hide ((unhide K0).on hb)
  clear hb SA
  have I2 : Hid (IntsAt (w9.alloc (.cells #[.int .i64 vc, .int .i64 vs, .int .i64 vm, .int .i64 va] 2)) (.slice (some ⟨w9.heap.size, 0, none⟩) 4 4) [vc, vs, vm, va]) := hide (ints4 (heap_alloc_new w9 _))
  replace K0 := hide ((unhide K0).on ((Below.refl w9.heap.size w9).alloc (Nat.le_refl _) (.cells #[.int .i64 vc, .int .i64 vs, .int .i64 vm, .int .i64 va] 2)))
  go_wp2_with fail
  refine (lwSame _ _ [vc, vs, vm, va] _ (unhide K0).row (unhide I2) (by simp)).mono ?_
  rintro e w10 ⟨rfl, hb⟩
  replace K0 := hide ((unhide K0).on hb)
  clear hb I2
  have HC10 : Hid (Dr.CodeIn w10 a len) := hide (code_on (unhide HC) (unhide K0).bel)
  go_wp2_with fail
  refine ((unhide AT) _ (unhide HC10)).mono ?_
  rintro e w11 ⟨z, rfl, hz, rfl⟩
  clear AT HC10 HC
  obtain ⟨k, hk⟩ : ∃ k : Nat, 1 + z = k := ⟨_, rfl⟩
  have hk' : (1 : Int) + (z : Int) = (k : Int) := by omega
  have hk1 : 1 ≤ k := by omega
  have hk4 : k ≤ 4 := by omega
  clear hk hz
  have IS := hide (fun W h => implSp (k : Int) (by omega) W h)
  have SP := hide (fun W => specSpans (k : Int) (by omega) W)
  have OK := hide ((unhide OV) k hk1 hk4)
  have KW := hide K0
  go_wp2
  go_loopw [5] (fun v wr => ∃ y : Nat, v = .int .i64 (y : Int) ∧ (y = k ∨ y = 0) ∧ Hid (Kw w wr w5.heap.size vc vs vm va)) (fun v _ => (intOf v).toNat)
  case atStart => exact ⟨k, by first | rfl | (rw [← hk']; go_num), .inl rfl, K0⟩
  case round =>
    obtain ⟨y, rfl, hy, KW⟩ := hrel
    rcases hy with rfl | rfl
    · have hy0 : ¬ ((y : Int) ≤ 0) := by omega
      clear K0 CG MI MJ MS MT DG MB OV
      go_wp2_with fail
      refine ((unhide IS) _ (unhide KW).tab).mono ?_
      rintro e w12 ⟨v, L, rfl, hr, hsp, hb⟩
      have R1 := hide hr
      have S1 := hide (show Go.Proofs.YtbkeaoplncaihaaDoor.SpRow w12 _ v L from hsp)
      replace KW := hide ((unhide KW).on hb)
      clear hr hsp hb IS
      obtain ⟨a1, c1, rfl, hg1⟩ := (unhide S1).form
      have G1 := hide hg1
      clear hg1
      go_wp2_with fail
      refine ((unhide SP) _).mono ?_
      rintro e w13 ⟨v2, L2, rfl, hr2, hl2, hsp2, hb⟩
      have e2 := runs_same (unhide R1) hr2
      subst e2
      replace S1 := hide ((unhide S1).below hb)
      have S2 := hide (show Go.Proofs.YtbkeaoplncaihaaDoor.SpRow w13 _ v2 L2 from hsp2)
      replace KW := hide ((unhide KW).on hb)
      clear hr2 hsp2 hb SP
      have HS := hide (fun h0 h1 => spans_has (p := p) (unhide R1) hl2 h0 h1)
      have TL := hide (fun i hi => spans_tell (unhide R1) i hi p)
      rw [← unhide OK] at TL
      have hl3 : (L2.length : Int) ≤ 128 := by omega
      go_wp2_with fail
      refine (lwSpans _ _ L2 _ _ _ (unhide S1) (unhide S2) (by omega)).mono ?_
      rintro e w14 ⟨rfl, hb⟩
      replace S1 := hide ((unhide S1).below hb)
      replace KW := hide ((unhide KW).on hb)
      clear hb S2
      obtain ⟨BZ, hBZ⟩ : ∃ BZ, Hid (Go.Proofs.YtbkeaoplncaihaaDoor.SpRow w14 BZ (.slice a1 L2.length c1) L2) := ⟨_, S1⟩
      clear S1
      have S1 := hBZ
      clear hBZ
      by_cases p0 : 0 ≤ p
      · by_cases p1 : p ≤ 32767
        · have hh := (unhide HS) p0 p1
          clear HS
          go_wp2_with fail
          refine (implHas _ L2 p _ _ (unhide S1) (by omega)).mono ?_
          rw [hh]
          rintro e w15 ⟨rfl, hb⟩
          replace S1 := hide ((unhide S1).below hb)
          replace KW := hide ((unhide KW).on hb)
          clear hb hh
          go_wp2
          go_loopw [7] (fun i wr => ∃ j : Nat, j ≤ L2.length ∧ i = .int .i64 (j : Int) ∧ Hid (Kw w wr w5.heap.size vc vs vm va) ∧ Hid (Go.Proofs.YtbkeaoplncaihaaDoor.SpRow wr BZ (.slice a1 L2.length c1) L2)) (fun i _ => L2.length - (intOf i).toNat)
          case atStart => exact ⟨0, Nat.zero_le _, rfl, KW, S1⟩
          case round =>
            obtain ⟨j, hj, rfl, KW, S1⟩ := hrel
            by_cases hlt : j < L2.length
            · obtain ⟨g1, rfl, _, _⟩ := (unhide G1) (by omega)
              obtain ⟨x0, x1, x2⟩ := (unhide S1).read j hlt
              have hlt' : (j : Int) < (L2.length : Int) := by omega
              have h0j : (0 : Int) ≤ (j : Int) := by omega
              obtain ⟨m, hm⟩ : ∃ m : Nat, m = y - 1 := ⟨_, rfl⟩
              have cw := (unhide KW).cell m (by omega)
              have T1 := hide ((unhide TL) j hlt)
              rw [← hm] at T1
              have hm1 : (y : Int) - 1 = (m : Int) := by omega
              have hm4 : (m : Int) < 4 := by omega
              have hm0 : (0 : Int) ≤ (m : Int) := by omega
              clear hm TL
              generalize nth [vc, vs, vm, va] m = vv at *
              generalize gx L2 j = r at *
              obtain ⟨r1, r2, r3⟩ := r
              simp only at x0 x1 x2
              by_cases q1 : r1 ≤ p
              · by_cases q2 : p ≤ r2
                · have e3 : r3 = vv := (unhide T1) q1 q2
                  subst e3
                  have ne : (r3 != r3) = false := by simp
                  clear T1
                  go_wp2
                  go_quiet (fail)
                  go_wp2
                  go_roundw
                  case rel => exact ⟨j + 1, by omega, by go_num, hide ((unhide KW).on (drewB _ _)), hide ((unhide S1).below (drewB _ _))⟩
                  case measure => simp [intOf]; omega
                · have dq2 : decide (p ≤ r2) = false := decide_eq_false q2
                  clear T1
                  go_wp2
                  go_quiet (fail)
                  go_wp2
                  go_roundw
                  case rel => exact ⟨j + 1, by omega, by go_num, hide ((unhide KW).on (drewB _ _)), hide ((unhide S1).below (drewB _ _))⟩
                  case measure => simp [intOf]; omega
              · have dq1 : decide (r1 ≤ p) = false := decide_eq_false q1
                clear T1
                go_wp2
                go_quiet (fail)
                go_wp2
                go_roundw
                case rel => exact ⟨j + 1, by omega, by go_num, hide ((unhide KW).on (drewB _ _)), hide ((unhide S1).below (drewB _ _))⟩
                case measure => simp [intOf]; omega
            · have hge : (L2.length : Int) ≤ (j : Int) := by omega
              go_wp2
              go_roundw
              case rel => exact ⟨0, rfl, .inr rfl, KW⟩
              case measure => simp [intOf]; omega
        · clear HS
          go_wp2
          go_loopw [7] (fun i wr => ∃ j : Nat, j ≤ L2.length ∧ i = .int .i64 (j : Int) ∧ Hid (Kw w wr w5.heap.size vc vs vm va) ∧ Hid (Go.Proofs.YtbkeaoplncaihaaDoor.SpRow wr BZ (.slice a1 L2.length c1) L2)) (fun i _ => L2.length - (intOf i).toNat)
          case atStart => exact ⟨0, Nat.zero_le _, rfl, KW, S1⟩
          case round =>
            obtain ⟨j, hj, rfl, KW, S1⟩ := hrel
            by_cases hlt : j < L2.length
            · obtain ⟨g1, rfl, _, _⟩ := (unhide G1) (by omega)
              obtain ⟨x0, x1, x2⟩ := (unhide S1).read j hlt
              have hlt' : (j : Int) < (L2.length : Int) := by omega
              have h0j : (0 : Int) ≤ (j : Int) := by omega
              obtain ⟨m, hm⟩ : ∃ m : Nat, m = y - 1 := ⟨_, rfl⟩
              have cw := (unhide KW).cell m (by omega)
              have T1 := hide ((unhide TL) j hlt)
              rw [← hm] at T1
              have hm1 : (y : Int) - 1 = (m : Int) := by omega
              have hm4 : (m : Int) < 4 := by omega
              have hm0 : (0 : Int) ≤ (m : Int) := by omega
              clear hm TL
              generalize nth [vc, vs, vm, va] m = vv at *
              generalize gx L2 j = r at *
              obtain ⟨r1, r2, r3⟩ := r
              simp only at x0 x1 x2
              by_cases q1 : r1 ≤ p
              · by_cases q2 : p ≤ r2
                · have e3 : r3 = vv := (unhide T1) q1 q2
                  subst e3
                  have ne : (r3 != r3) = false := by simp
                  clear T1
                  go_wp2
                  go_quiet (fail)
                  go_wp2
                  go_roundw
                  case rel => exact ⟨j + 1, by omega, by go_num, hide ((unhide KW).on (drewB _ _)), hide ((unhide S1).below (drewB _ _))⟩
                  case measure => simp [intOf]; omega
                · have dq2 : decide (p ≤ r2) = false := decide_eq_false q2
                  clear T1
                  go_wp2
                  go_quiet (fail)
                  go_wp2
                  go_roundw
                  case rel => exact ⟨j + 1, by omega, by go_num, hide ((unhide KW).on (drewB _ _)), hide ((unhide S1).below (drewB _ _))⟩
                  case measure => simp [intOf]; omega
              · have dq1 : decide (r1 ≤ p) = false := decide_eq_false q1
                clear T1
                go_wp2
                go_quiet (fail)
                go_wp2
                go_roundw
                case rel => exact ⟨j + 1, by omega, by go_num, hide ((unhide KW).on (drewB _ _)), hide ((unhide S1).below (drewB _ _))⟩
                case measure => simp [intOf]; omega
            · have hge : (L2.length : Int) ≤ (j : Int) := by omega
              go_wp2
              go_roundw
              case rel => exact ⟨0, rfl, .inr rfl, KW⟩
              case measure => simp [intOf]; omega
      · clear HS
        go_wp2
        go_loopw [7] (fun i wr => ∃ j : Nat, j ≤ L2.length ∧ i = .int .i64 (j : Int) ∧ Hid (Kw w wr w5.heap.size vc vs vm va) ∧ Hid (Go.Proofs.YtbkeaoplncaihaaDoor.SpRow wr BZ (.slice a1 L2.length c1) L2)) (fun i _ => L2.length - (intOf i).toNat)
        case atStart => exact ⟨0, Nat.zero_le _, rfl, KW, S1⟩
        case round =>
          obtain ⟨j, hj, rfl, KW, S1⟩ := hrel
          by_cases hlt : j < L2.length
          · obtain ⟨g1, rfl, _, _⟩ := (unhide G1) (by omega)
            obtain ⟨x0, x1, x2⟩ := (unhide S1).read j hlt
            have hlt' : (j : Int) < (L2.length : Int) := by omega
            have h0j : (0 : Int) ≤ (j : Int) := by omega
            obtain ⟨m, hm⟩ : ∃ m : Nat, m = y - 1 := ⟨_, rfl⟩
            have cw := (unhide KW).cell m (by omega)
            have T1 := hide ((unhide TL) j hlt)
            rw [← hm] at T1
            have hm1 : (y : Int) - 1 = (m : Int) := by omega
            have hm4 : (m : Int) < 4 := by omega
            have hm0 : (0 : Int) ≤ (m : Int) := by omega
            clear hm TL
            generalize nth [vc, vs, vm, va] m = vv at *
            generalize gx L2 j = r at *
            obtain ⟨r1, r2, r3⟩ := r
            simp only at x0 x1 x2
            by_cases q1 : r1 ≤ p
            · by_cases q2 : p ≤ r2
              · have e3 : r3 = vv := (unhide T1) q1 q2
                subst e3
                have ne : (r3 != r3) = false := by simp
                clear T1
                go_wp2
                go_quiet (fail)
                go_wp2
                go_roundw
                case rel => exact ⟨j + 1, by omega, by go_num, hide ((unhide KW).on (drewB _ _)), hide ((unhide S1).below (drewB _ _))⟩
                case measure => simp [intOf]; omega
              · have dq2 : decide (p ≤ r2) = false := decide_eq_false q2
                clear T1
                go_wp2
                go_quiet (fail)
                go_wp2
                go_roundw
                case rel => exact ⟨j + 1, by omega, by go_num, hide ((unhide KW).on (drewB _ _)), hide ((unhide S1).below (drewB _ _))⟩
                case measure => simp [intOf]; omega
            · have dq1 : decide (r1 ≤ p) = false := decide_eq_false q1
              clear T1
              go_wp2
              go_quiet (fail)
              go_wp2
              go_roundw
              case rel => exact ⟨j + 1, by omega, by go_num, hide ((unhide KW).on (drewB _ _)), hide ((unhide S1).below (drewB _ _))⟩
              case measure => simp [intOf]; omega
          · have hge : (L2.length : Int) ≤ (j : Int) := by omega
            go_wp2
            go_roundw
            case rel => exact ⟨0, rfl, .inr rfl, KW⟩
            case measure => simp [intOf]; omega
    · clear IS SP K0 OK OV
      have mm : (vmm == vmm) = true := by simp
      go_wp2_with fail
      refine ((unhide CG) _ (unhide KW).tab).mono ?_
      rintro e w12 ⟨rfl, hb⟩
      replace KW := hide ((unhide KW).on hb)
      clear hb CG
      have c0 : w12.cell? ⟨w5.heap.size, 0, none⟩ = some (.int .i64 vc) := (unhide KW).cell 0 (by omega)
      obtain ⟨d9, hd⟩ := unhide DG
      clear DG
      rcases hd with ⟨hv, h0⟩ | ⟨hv, h0⟩
      · have ev : (vc == 8) = true := by simpa using hv
        have d0 : decide (0 ≤ vd) = true := decide_eq_true h0
        clear hv
        by_cases p0 : p < 0
        · clear MB
          go_wp2_with fail
          refine ((unhide MI) _).mono ?_
          rintro e wm ⟨rfl, rfl⟩
          go_wp2_with fail
          refine ((unhide MJ) _).mono ?_
          rintro e wm ⟨rfl, rfl⟩
          go_wp2_with fail
          refine ((unhide MS) _).mono ?_
          rintro e wm ⟨rfl, rfl⟩
          go_wp2_with fail
          refine ((unhide MT) _).mono ?_
          rintro e wm ⟨rfl, rfl⟩
          go_wp2
          go_ret
          exact ⟨rfl, (unhide KW).bel⟩
        · by_cases p1 : 55296 ≤ p
          · clear MB
            go_wp2_with fail
            refine ((unhide MI) _).mono ?_
            rintro e wm ⟨rfl, rfl⟩
            go_wp2_with fail
            refine ((unhide MJ) _).mono ?_
            rintro e wm ⟨rfl, rfl⟩
            go_wp2_with fail
            refine ((unhide MS) _).mono ?_
            rintro e wm ⟨rfl, rfl⟩
            go_wp2_with fail
            refine ((unhide MT) _).mono ?_
            rintro e wm ⟨rfl, rfl⟩
            go_wp2
            go_ret
            exact ⟨rfl, (unhide KW).bel⟩
          · have em : (vmm == p) = true := by rw [(unhide MB) (by omega) (by omega)]; simp
            clear MB
            go_wp2_with fail
            refine ((unhide MI) _).mono ?_
            rintro e wm ⟨rfl, rfl⟩
            go_wp2_with fail
            refine ((unhide MJ) _).mono ?_
            rintro e wm ⟨rfl, rfl⟩
            go_wp2_with fail
            refine ((unhide MS) _).mono ?_
            rintro e wm ⟨rfl, rfl⟩
            go_wp2_with fail
            refine ((unhide MT) _).mono ?_
            rintro e wm ⟨rfl, rfl⟩
            go_wp2_with fail
            refine ((unhide MI) _).mono ?_
            rintro e wm ⟨rfl, rfl⟩
            go_wp2_with fail
            refine ((unhide MJ) _).mono ?_
            rintro e wm ⟨rfl, rfl⟩
            go_wp2
            go_ret
            exact ⟨rfl, (unhide KW).bel⟩
      · have ev : (vc == 8) = false := by simpa using hv
        have d0 : decide (0 ≤ vd) = false := decide_eq_false (by omega)
        clear hv
        by_cases p0 : p < 0
        · clear MB
          go_wp2_with fail
          refine ((unhide MI) _).mono ?_
          rintro e wm ⟨rfl, rfl⟩
          go_wp2_with fail
          refine ((unhide MJ) _).mono ?_
          rintro e wm ⟨rfl, rfl⟩
          go_wp2_with fail
          refine ((unhide MS) _).mono ?_
          rintro e wm ⟨rfl, rfl⟩
          go_wp2_with fail
          refine ((unhide MT) _).mono ?_
          rintro e wm ⟨rfl, rfl⟩
          go_wp2
          go_ret
          exact ⟨rfl, (unhide KW).bel⟩
        · by_cases p1 : 55296 ≤ p
          · clear MB
            go_wp2_with fail
            refine ((unhide MI) _).mono ?_
            rintro e wm ⟨rfl, rfl⟩
            go_wp2_with fail
            refine ((unhide MJ) _).mono ?_
            rintro e wm ⟨rfl, rfl⟩
            go_wp2_with fail
            refine ((unhide MS) _).mono ?_
            rintro e wm ⟨rfl, rfl⟩
            go_wp2_with fail
            refine ((unhide MT) _).mono ?_
            rintro e wm ⟨rfl, rfl⟩
            go_wp2
            go_ret
            exact ⟨rfl, (unhide KW).bel⟩
          · have em : (vmm == p) = true := by rw [(unhide MB) (by omega) (by omega)]; simp
            clear MB
            go_wp2_with fail
            refine ((unhide MI) _).mono ?_
            rintro e wm ⟨rfl, rfl⟩
            go_wp2_with fail
            refine ((unhide MJ) _).mono ?_
            rintro e wm ⟨rfl, rfl⟩
            go_wp2_with fail
            refine ((unhide MS) _).mono ?_
            rintro e wm ⟨rfl, rfl⟩
            go_wp2_with fail
            refine ((unhide MT) _).mono ?_
            rintro e wm ⟨rfl, rfl⟩
            go_wp2_with fail
            refine ((unhide MI) _).mono ?_
            rintro e wm ⟨rfl, rfl⟩
            go_wp2_with fail
            refine ((unhide MJ) _).mono ?_
            rintro e wm ⟨rfl, rfl⟩
            go_wp2
            go_ret
            exact ⟨rfl, (unhide KW).bel⟩
end Go.Proofs.YtbkeaoplncaihaaDoor.Kd
