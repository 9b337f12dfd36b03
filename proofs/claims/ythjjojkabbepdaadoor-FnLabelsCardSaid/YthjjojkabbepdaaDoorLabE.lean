/- A label, as the specification writes it. -/
import Derived.Test.YthjjojkabbepdaaDoorLabT
namespace Go.Proofs.YthjjojkabbepdaaDoor.Lab
open Go.RowKit
set_option linter.unusedVariables false
theorem wrap_u8 (p : Int) (h0 : 0 ≤ p) (h1 : p < 128) : IntKind.u8.wrap p = p := by
  have e8 : IntKind.u8.wrap p = p % 256 := rfl
  omega
theorem rd_at {w : World} {v : Value} {L : List Int} (h : IntsAt w v L) (hl : 0 < L.length) : ∃ b off cap, v = .slice (some ⟨b, off, none⟩) L.length cap ∧ b < w.heap.size ∧ ∀ i, i < L.length → w.cell? ⟨b, off + i, none⟩ = some (.int .i64 (nth L i)) := by
  obtain ⟨a, cap, rfl, h⟩ := h
  rcases h with h | ⟨b, off, rfl, hbs, hc⟩
  · rw [h] at hl; simp at hl
  · exact ⟨b, off, cap, rfl, hbs, hc⟩
set_option maxHeartbeats 8000000 in
set_option maxRecDepth 100000 in
theorem encodeS (v : Value) (L : List Int) (w : World) (hv : IntsAt w v L) (hL : L.length ≤ 1000) (hP : ∀ x ∈ L, 0 ≤ x ∧ x ≤ 1114111) :
    Calls Tryd.prog 22 #[v] w fun e w' => e = .returned (.string (strOfNums (lab L))) ∧ Below w.heap.size w w' := by
  obtain ⟨i0, hi, hz0, hz1, hz2⟩ := info_parts infoB
  have HV := hide hv
  have HP := hide hP
  obtain ⟨va, cap, rfl, _⟩ := hv
  clear hP
  have HO0 := hide (by_lit w)
  have HB0 : Hid (Below w.heap.size w (w.alloc (.cells #[] 5))) := hide (al1 _ _)
  go_enter Tryd.func22, Tryd.ntmps22
  go_wp2
  go_loopw [3, 4] (fun ov iv wr => ∃ k : Nat, k ≤ L.length ∧ iv = .int .i64 k ∧ Hid (By w.heap.size wr ov (plK L k)) ∧ Hid (Below w.heap.size w wr)) (fun _ iv _ => L.length - (intOf iv).toNat)
  case atStart => exact ⟨0, Nat.zero_le _, rfl, HO0, HB0⟩
  case round =>
    obtain ⟨k, hk, rfl, HO, HB⟩ := hrel
    clear HO0 HB0
    have hBs := (unhide HB).size
    by_cases hlt : k < L.length
    · obtain ⟨b, off, cp, he, hbw, hc⟩ := rd_at (unhide HV) (by omega)
      cases he
      have kc := ((unhide HB).cell (p := ⟨b, off + k, none⟩) hbw).trans (hc k hlt)
      have hbr : b < wr.heap.size := by omega
      have HS := hide (plK_succ L k hlt)
      have hpp := (unhide HP) _ (nth_mem hlt)
      have hpl := plK_le L k
      clear hc
      generalize nth L k = p at *
      obtain ⟨p0, p1⟩ := hpp
      by_cases hp : p < 128
      · rw [if_pos hp] at HS
        have kc2 : ∀ o, (wr.alloc o).cell? ⟨b, off + k, none⟩ = some (.int .i64 p) := fun o => by rw [← kc]; exact (al1 wr o).cell (p := ⟨b, off + k, none⟩) hbr
        have hw8 := wrap_u8 p p0 hp
        go_wp2_with (at_builtin; refine wpList_appG _ rfl _ _ 22 rfl w.heap.size 5 i0 (.int .u8 0) 1 1 Tryd.underlying22 hi hz0 hz1 hz2 rfl (by decide) _ _ _ rfl (By.alloc (unhide HO) _) ⟨wr.heap.size, 0, none⟩ 1 1 [.int .u8 p] rfl rfl (one_new _ _) (one_oneB _) ?c3 ?c4 ?c5 ?_)
        case c3 => unfold maxLen; omega
        case c4 => omega
        case c5 => simp; omega
        intro v' w2 hown' hgrow hnew
        have HO2 := hide (By.snoc (N := [p]) hown' rfl)
        rw [← unhide HS] at HO2
        have HB2 := hide (((unhide HB).trans ((al1 wr _).mono hBs)).trans (by_grown (By.below (unhide HO) (al1 wr _)) (by simp; omega) hgrow))
        clear hown' hgrow hnew
        go_wp2
        go_roundw
        case rel => exact ⟨k + 1, by omega, by go_num, HO2, HB2⟩
        case measure => simp [intOf]; omega
      · rw [if_neg hp, List.append_nil] at HS
        rw [← unhide HS] at HO
        go_wp2
        go_roundw
        case rel => exact ⟨k + 1, by omega, by go_num, HO, HB⟩
        case measure => simp [intOf]; omega
    · obtain rfl : k = L.length := by omega
      obtain ⟨oa, oc, rfl⟩ := (unhide HO).form
      have hpl := plK_le L L.length
      have e0 : plK L L.length = pl L := rfl
      rw [e0] at HO hpl ⊢
      clear e0 hlt hk
      have HG : Hid (lab L = (run L L.length 128 (st0 L)).out) := hide rfl
      have HK0 := hide (st0_ok L hL)
      have HA0 := hide (st0_an L)
      have HS0 : Hid (st0 L = ⟨pl L ++ (if pl L = [] then [] else [45]), 72, 0, (pl L).length, false⟩) := hide rfl
      have HX : Hid (∃ ov wx, By w.heap.size wx ov (st0 L).out ∧ Below w.heap.size w wx → True) := hide ⟨.slice none 0 0, w, fun _ => trivial⟩
      clear HX
      by_cases hn : pl L = []
      · have hn0 : (pl L).length = 0 := by rw [hn]; rfl
        have HO1 : Hid (By w.heap.size wr (.slice oa (pl L).length oc) (st0 L).out) := hide (by rw [unhide HS0, if_pos hn, List.append_nil]; exact unhide HO)
        have hq : ¬ (0 : Int) < ((pl L).length : Int) := by omega
        clear HO hn
        generalize hbs : (pl L).length = bs at *
        clear hn0
        go_wp2
        go_loopw [3, 5, 7, 8, 9] (fun ov hv nv dv bv wr => ∃ (f : Nat) (n : Int) (s : St), hv = .int .i64 s.h ∧ nv = .int .i64 n ∧ dv = .int .i64 s.delta ∧ bv = .int .i64 s.bias ∧ Hid (Ok L n s) ∧ Hid (An bs s) ∧ Hid (run L f n s = run L L.length 128 (st0 L)) ∧ Hid ((L.length : Int) ≤ s.h + f) ∧ Hid (By w.heap.size wr ov s.out) ∧ Hid (Below w.heap.size w wr)) (fun _ hv _ _ _ _ => (L.length - intOf hv).toNat)
        case atStart => exact ⟨L.length, 128, st0 L, by rw [unhide HS0], rfl, by rw [unhide HS0], by rw [unhide HS0], HK0, HA0, hide rfl, hide (by rw [unhide HS0]; dsimp only; omega), HO1, HB⟩
        case round =>
          obtain ⟨f, n, s, rfl, rfl, rfl, rfl, HK, HA, HR, HF, HO, HBr⟩ := hrel
          clear HO1 HB HS0 HK0 HA0
          have hBs := (unhide HBr).size
          have hh0 : 0 ≤ s.h := by rw [(unhide HK).h]; omega
          have hh1 : s.h ≤ 1000 := by have := cnt_le L n; rw [(unhide HK).h]; omega
          by_cases hlt : s.h < L.length
          · obtain ⟨hn1, hgrow⟩ := (unhide HK).grow hL (fun x hx => ((unhide HP) x hx).2) hlt
            obtain ⟨f', rfl⟩ : ∃ f', f = f' + 1 := ⟨f - 1, by have := unhide HF; omega⟩
            have HRn := hide ((run_more (f := f') (n := n) hlt).symm.trans (unhide HR))
            have HKn := hide ((unhide HK).next hL hn1)
            have HFn : Hid ((L.length : Int) ≤ (nxt L n s).h + f') := hide (by have := unhide HF; omega)
            have HGr := hide hgrow
            obtain ⟨b, off, cp, he, hbw, hc⟩ := rd_at (unhide HV) (by omega)
            cases he
            have HC := hide hc
            have hn0 := (unhide HK).n0
            have hd0 := (unhide HK).d0
            have hd1 := (unhide HK).d1
            have hb0 := (unhide HK).b0
            have hb1 := (unhide HK).b1
            clear hc hgrow HF HR
            go_wp2
            go_loopw [10, 11] (fun mv iv wi => ∃ i : Nat, i ≤ L.length ∧ mv = .int .i64 (lsK L n i) ∧ iv = .int .i64 i ∧ wi = wr) (fun _ iv _ => L.length - (intOf iv).toNat)
            case atStart => exact ⟨0, Nat.zero_le _, by rfl, rfl, rfl⟩
            case round =>
              obtain ⟨i, hi', rfl, rfl, rfl⟩ := hrel
              by_cases hil : i < L.length
              · have kc := ((unhide HBr).cell (p := ⟨b, off + i, none⟩) hbw).trans ((unhide HC) i hil)
                have HS := hide (lsK_succ L n i hil)
                obtain ⟨g1, g2, _⟩ := lsK_bd L n hn1 i hi'
                obtain ⟨p0, p1⟩ := (unhide HP) _ (nth_mem hil)
                have L1 := hide (fun (m p : Int) (h : n ≤ p ∧ p < m) => show lsm n m p = p from if_pos h)
                have L2 := hide (fun (m p : Int) (h : ¬ (n ≤ p ∧ p < m)) => show lsm n m p = m from if_neg h)
                generalize nth L i = p at *
                generalize lsK L n i = m at *
                by_cases c1 : n ≤ p
                · by_cases c2 : p < m
                  · have HM : Hid (lsK L n (i + 1) = p) := hide ((unhide HS).trans ((unhide L1) m p ⟨c1, c2⟩))
                    clear L1 L2 HS
                    go_wp2
                    go_roundw
                    case rel => exact ⟨i + 1, by omega, by rw [unhide HM], by go_num, trivial⟩
                    case measure => simp [intOf]; omega
                  · have HM : Hid (lsK L n (i + 1) = m) := hide ((unhide HS).trans ((unhide L2) m p (fun h => c2 h.2)))
                    clear L1 L2 HS
                    go_wp2
                    go_roundw
                    case rel => exact ⟨i + 1, by omega, by rw [unhide HM], by go_num, trivial⟩
                    case measure => simp [intOf]; omega
                · have HM : Hid (lsK L n (i + 1) = m) := hide ((unhide HS).trans ((unhide L2) m p (fun h => c1 h.1)))
                  clear L1 L2 HS
                  go_wp2
                  go_roundw
                  case rel => exact ⟨i + 1, by omega, by rw [unhide HM], by go_num, trivial⟩
                  case measure => simp [intOf]; omega
              · obtain rfl : i = L.length := by omega
                have el : lsK L n L.length = lst L n := rfl
                rw [el]
                obtain ⟨g1, g2, _⟩ := lsK_bd L n hn1 L.length (Nat.le_refl _)
                rw [el] at g1 g2
                have HI0 := hide (Ik.start (unhide HK) hL hn1)
                have HNX : Hid (nxt L n s = (let r := inK L (lst L n) { s with delta := s.delta + (lst L n - n) * (s.h + 1) } L.length; { r with delta := r.delta + 1 })) := hide rfl
                have HA1 : Hid (An bs { s with delta := s.delta + (lst L n - n) * (s.h + 1) }) := hide ⟨(unhide HA).le, (unhide HA).an⟩
                have pd0 : 0 ≤ (lst L n - n) * (s.h + 1) := Int.mul_nonneg (by omega) (by omega)
                have pd1 : (lst L n - n) * (s.h + 1) ≤ (lst L n - n) * 1001 := Int.mul_le_mul_of_nonneg_left (by omega) (by omega)
                clear el hil hi'
                generalize lst L n = m at *
                have wpd : wrap64 ((m - n) * (s.h + 1)) = (m - n) * (s.h + 1) := by unfold wrap64; omega
                have wpf : wrap64 (s.delta + (m - n) * (s.h + 1)) = s.delta + (m - n) * (s.h + 1) := by unfold wrap64; omega
                obtain ⟨s1, hs1⟩ : ∃ s1 : St, { s with delta := s.delta + (m - n) * (s.h + 1) } = s1 := ⟨_, rfl⟩
                have HSo : Hid (s.out = s1.out) := hide (by rw [← hs1])
                have HSh : Hid (s.h = s1.h) := hide (by rw [← hs1])
                have HSb : Hid (s.bias = s1.bias) := hide (by rw [← hs1])
                have HSd : Hid (s.delta + (m - n) * (s.h + 1) = s1.delta) := hide (by rw [← hs1])
                rw [hs1] at HI0 HNX HA1
                clear hs1
                go_wp2
                go_loopw [3, 5, 8, 9, 12] (fun ov hv dv bv iv wi => ∃ i : Nat, i ≤ L.length ∧ iv = .int .i64 i ∧ hv = .int .i64 (inK L m s1 i).h ∧ dv = .int .i64 (inK L m s1 i).delta ∧ bv = .int .i64 (inK L m s1 i).bias ∧ Hid (By w.heap.size wi ov (inK L m s1 i).out) ∧ Hid (Below w.heap.size w wi)) (fun _ _ _ _ iv _ => L.length - (intOf iv).toNat)
                case atStart => exact ⟨0, Nat.zero_le _, rfl, by rw [unhide HSh]; rfl, by rw [unhide HSd]; rfl, by rw [unhide HSb]; rfl, hide (by have := unhide HO; rw [unhide HSo] at this; exact this), HBr⟩
                case round =>
                  obtain ⟨i, hi', rfl, rfl, rfl, rfl, HOi, HBi⟩ := hrel
                  clear HSo HSh HSb HSd wpd wpf HO HBr pd0 pd1
                  have hBi := (unhide HBi).size
                  have HK2 := hide ((unhide HI0).at hL (by omega) g2 i hi')
                  have HA2 := hide ((unhide HA1).at (n := m) (L := L) i hi')
                  by_cases hil : i < L.length
                  · have kc := ((unhide HBi).cell (p := ⟨b, off + i, none⟩) hbw).trans ((unhide HC) i hil)
                    have HS := hide (inK_succ L m s1 i hil)
                    obtain ⟨p0, p1⟩ := (unhide HP) _ (nth_mem hil)
                    have J1 := hide (fun (h : nth L i < m) => (unhide HS).trans (inn_lt h))
                    have J2 := hide (fun (h : nth L i = m) => (unhide HS).trans (inn_eq h))
                    have J3 := hide (fun (h : m < nth L i) => (unhide HS).trans (inn_gt h))
                    obtain ⟨sj, hsj⟩ : ∃ sj, inK L m s1 (i + 1) = sj := ⟨_, rfl⟩
                    rw [hsj] at J1 J2 J3
                    have HJ := hide hsj
                    clear HS hsj
                    generalize nth L i = p at *
                    obtain ⟨si, hsi⟩ : ∃ si, inK L m s1 i = si := ⟨_, rfl⟩
                    rw [hsi] at J1 J2 J3 HOi HK2 HA2 ⊢
                    clear hsi
                    have k0 := (unhide HK2).d0
                    have k1 := (unhide HK2).d1
                    have k2 := (unhide HK2).b0
                    have k3 := (unhide HK2).b1
                    have k4 : 0 ≤ si.h := by rw [(unhide HK2).h]; omega
                    have k5 : si.h ≤ 2000 := by
                      have e1 := (unhide HK2).h
                      have e2 := cnt_le L m
                      have e3 : ((L.take i).filter (fun p => decide (p = m))).length ≤ L.length := Nat.le_trans (List.length_filter_le _ _) (by rw [List.length_take]; omega)
                      omega
                    have k6 := (unhide HK2).o
                    by_cases c1 : p < m
                    · have HM := hide ((unhide J1) c1)
                      clear J1 J2 J3
                      have c2 : (p == m) = false := by rw [beq_eq_false_iff_ne]; omega
                      go_wp2
                      go_roundw
                      case rel => exact ⟨i + 1, by omega, by go_num, by rw [unhide HJ, unhide HM], by rw [unhide HJ, unhide HM], by rw [unhide HJ, unhide HM], hide (by rw [unhide HJ, unhide HM]; exact unhide HOi), HBi⟩
                      case measure => simp [intOf]; omega
                    · by_cases c2 : p = m
                      · have HM := hide ((unhide J2) c2)
                        clear J1 J2 J3
                        have c3 : (p == m) = true := by rw [beq_iff_eq]; exact c2
                        have CN := hide (fun W => numberS si.delta si.bias W k0 (by omega) k2 k3)
                        have CB := hide (fun W => biasS si.delta (si.h + 1) si.anew W k0 (by omega) (by omega) (by omega))
                        have hq2 : (si.h == (bs : Int)) = !si.anew := by rw [(unhide HA2).an]; simp
                        have hnl := num_len (b := si.bias) (k := 36) k0 (by omega)
                        have hne := hide (num_ne si.delta si.bias 36)
                        generalize hX : num si.delta si.bias 36 = X at *
                        clear hX c2
                        go_wp2_with (first
                          | (go_at_call 40; refine ((unhide CN) _).mono ?_; rintro e w5 ⟨v5, rfl, ho5, hb5⟩; obtain ⟨g5, c5, rfl, hr5⟩ := by_read ho5 (unhide hne); have HO5 := hide ((unhide HOi).below hb5); have HB5 := hide ((unhide HBi).trans (hb5.mono hBi)); have hs5 := (unhide HB5).size; clear ho5 hb5)
                          | (at_builtin; refine wpList_appG _ rfl _ _ 22 rfl w.heap.size 5 i0 (.int .u8 0) 1 1 Tryd.underlying22 hi hz0 hz1 hz2 rfl (by decide) _ _ _ rfl (unhide HO5) ⟨g5, 0, none⟩ _ _ _ rfl (by rw [List.length_map]; omega) hr5 (by_ones _) ?c3 ?c4 ?c5 ?_)
                          | (go_at_call 41; refine ((unhide CB) _).mono ?_; rintro e w' ⟨rfl, hw⟩; obtain rfl := hw.symm; clear hw))
                        case c3 => unfold maxLen; omega
                        case c4 => omega
                        case c5 => exact hs5
                        intro v' w2 hown' hgrow hnew
                        have HO2 := hide (By.snoc (N := X) hown' rfl)
                        have HB2 := hide ((unhide HB5).trans (by_grown (unhide HO5) hs5 hgrow))
                        clear hown' hgrow hnew hr5
                        go_wp2_with (go_at_call 41; refine ((unhide CB) _).mono ?_; rintro e w' ⟨rfl, hw⟩; obtain rfl := hw.symm; clear hw)
                        go_roundw
                        case rel => exact ⟨i + 1, by omega, by go_num, by rw [unhide HJ, unhide HM], by rw [unhide HJ, unhide HM], by rw [unhide HJ, unhide HM], hide (by rw [unhide HJ, unhide HM]; exact unhide HO2), HB2⟩
                        case measure => simp [intOf]; omega
                      · have HM := hide ((unhide J3) (by omega))
                        clear J1 J2 J3
                        have c3 : (p == m) = false := by rw [beq_eq_false_iff_ne]; exact c2
                        go_wp2
                        go_roundw
                        case rel => exact ⟨i + 1, by omega, by go_num, by rw [unhide HJ, unhide HM], by rw [unhide HJ, unhide HM], by rw [unhide HJ, unhide HM], hide (by rw [unhide HJ, unhide HM]; exact unhide HOi), HBi⟩
                        case measure => simp [intOf]; omega
                  · obtain rfl : i = L.length := by omega
                    have k0 := (unhide HK2).d0
                    have k1 := (unhide HK2).d1
                    have HX0 : Hid ((nxt L n s).out = (inK L m s1 L.length).out ∧ (nxt L n s).h = (inK L m s1 L.length).h ∧ (nxt L n s).bias = (inK L m s1 L.length).bias ∧ (nxt L n s).delta = (inK L m s1 L.length).delta + 1 ∧ (nxt L n s).anew = (inK L m s1 L.length).anew) := hide (by rw [unhide HNX]; exact ⟨rfl, rfl, rfl, rfl, rfl⟩)
                    have HA3 : Hid (An bs (nxt L n s)) := hide ⟨by rw [(unhide HX0).2.1]; exact (unhide HA2).le, by rw [(unhide HX0).2.1, (unhide HX0).2.2.2.2]; exact (unhide HA2).an⟩
                    clear HNX
                    obtain ⟨si, hsi⟩ : ∃ si, inK L m s1 L.length = si := ⟨_, rfl⟩
                    rw [hsi] at HX0 HOi k0 k1 ⊢
                    clear hsi
                    go_wp2
                    go_roundw
                    case rel => exact ⟨f', m + 1, nxt L n s, by rw [(unhide HX0).2.1], rfl, by rw [(unhide HX0).2.2.2.1], by rw [(unhide HX0).2.2.1], HKn, HA3, HRn, HFn, hide (by rw [(unhide HX0).1]; exact unhide HOi), HBi⟩
                    case measure => have := unhide HGr; rw [(unhide HX0).2.1] at this; simp [intOf]; omega
          · have hR := run_last (f := f) (n := n) hlt
            have HE := hide (hR.symm.trans (unhide HR))
            have hcv := conv_owned wr _ _ _ _ (unhide HO)
            clear hR
            go_wp2
            go_ret
            exact ⟨by rw [unhide HG, ← unhide HE]; rfl, unhide HBr⟩
      · have hn0 : 0 < (pl L).length := List.length_pos_iff.2 hn
        have hq : (0 : Int) < ((pl L).length : Int) := by omega
        have hso : (st0 L).out = pl L ++ [45] := by rw [unhide HS0, if_neg hn]
        have HSO := hide hso
        clear hn hso
        go_wp2_with (at_builtin; refine wpList_appG _ rfl _ _ 22 rfl w.heap.size 5 i0 (.int .u8 0) 1 1 Tryd.underlying22 hi hz0 hz1 hz2 rfl (by decide) _ _ _ rfl (By.alloc (unhide HO) _) ⟨wr.heap.size, 0, none⟩ 1 1 [.int .u8 45] rfl rfl (one_new _ _) (one_oneB _) ?c3 ?c4 ?c5 ?_)
        case c3 => unfold maxLen; omega
        case c4 => omega
        case c5 => simp; omega
        intro v' w2 hown' hgrow hnew
        have HO2 := hide (By.snoc (N := [45]) hown' rfl)
        rw [← unhide HSO] at HO2
        have HB2 := hide (((unhide HB).trans ((al1 wr _).mono hBs)).trans (by_grown (By.below (unhide HO) (al1 wr _)) (by simp; omega) hgrow))
        clear hown' hgrow hnew HO HB
        have HO1 := HO2
        have HB := HB2
        clear HO2 HB2 hBs HSO
        generalize hbs : (pl L).length = bs at *
        clear hn0
        go_wp2
        go_loopw [3, 5, 7, 8, 9] (fun ov hv nv dv bv wr => ∃ (f : Nat) (n : Int) (s : St), hv = .int .i64 s.h ∧ nv = .int .i64 n ∧ dv = .int .i64 s.delta ∧ bv = .int .i64 s.bias ∧ Hid (Ok L n s) ∧ Hid (An bs s) ∧ Hid (run L f n s = run L L.length 128 (st0 L)) ∧ Hid ((L.length : Int) ≤ s.h + f) ∧ Hid (By w.heap.size wr ov s.out) ∧ Hid (Below w.heap.size w wr)) (fun _ hv _ _ _ _ => (L.length - intOf hv).toNat)
        case atStart => exact ⟨L.length, 128, st0 L, by rw [unhide HS0], rfl, by rw [unhide HS0], by rw [unhide HS0], HK0, HA0, hide rfl, hide (by rw [unhide HS0]; dsimp only; omega), HO1, HB⟩
        case round =>
          obtain ⟨f, n, s, rfl, rfl, rfl, rfl, HK, HA, HR, HF, HO, HBr⟩ := hrel
          clear HO1 HB HS0 HK0 HA0
          have hBs := (unhide HBr).size
          have hh0 : 0 ≤ s.h := by rw [(unhide HK).h]; omega
          have hh1 : s.h ≤ 1000 := by have := cnt_le L n; rw [(unhide HK).h]; omega
          by_cases hlt : s.h < L.length
          · obtain ⟨hn1, hgrow⟩ := (unhide HK).grow hL (fun x hx => ((unhide HP) x hx).2) hlt
            obtain ⟨f', rfl⟩ : ∃ f', f = f' + 1 := ⟨f - 1, by have := unhide HF; omega⟩
            have HRn := hide ((run_more (f := f') (n := n) hlt).symm.trans (unhide HR))
            have HKn := hide ((unhide HK).next hL hn1)
            have HFn : Hid ((L.length : Int) ≤ (nxt L n s).h + f') := hide (by have := unhide HF; omega)
            have HGr := hide hgrow
            obtain ⟨b, off, cp, he, hbw, hc⟩ := rd_at (unhide HV) (by omega)
            cases he
            have HC := hide hc
            have hn0 := (unhide HK).n0
            have hd0 := (unhide HK).d0
            have hd1 := (unhide HK).d1
            have hb0 := (unhide HK).b0
            have hb1 := (unhide HK).b1
            clear hc hgrow HF HR
            go_wp2
            go_loopw [10, 11] (fun mv iv wi => ∃ i : Nat, i ≤ L.length ∧ mv = .int .i64 (lsK L n i) ∧ iv = .int .i64 i ∧ wi = wr) (fun _ iv _ => L.length - (intOf iv).toNat)
            case atStart => exact ⟨0, Nat.zero_le _, by rfl, rfl, rfl⟩
            case round =>
              obtain ⟨i, hi', rfl, rfl, rfl⟩ := hrel
              by_cases hil : i < L.length
              · have kc := ((unhide HBr).cell (p := ⟨b, off + i, none⟩) hbw).trans ((unhide HC) i hil)
                have HS := hide (lsK_succ L n i hil)
                obtain ⟨g1, g2, _⟩ := lsK_bd L n hn1 i hi'
                obtain ⟨p0, p1⟩ := (unhide HP) _ (nth_mem hil)
                have L1 := hide (fun (m p : Int) (h : n ≤ p ∧ p < m) => show lsm n m p = p from if_pos h)
                have L2 := hide (fun (m p : Int) (h : ¬ (n ≤ p ∧ p < m)) => show lsm n m p = m from if_neg h)
                generalize nth L i = p at *
                generalize lsK L n i = m at *
                by_cases c1 : n ≤ p
                · by_cases c2 : p < m
                  · have HM : Hid (lsK L n (i + 1) = p) := hide ((unhide HS).trans ((unhide L1) m p ⟨c1, c2⟩))
                    clear L1 L2 HS
                    go_wp2
                    go_roundw
                    case rel => exact ⟨i + 1, by omega, by rw [unhide HM], by go_num, trivial⟩
                    case measure => simp [intOf]; omega
                  · have HM : Hid (lsK L n (i + 1) = m) := hide ((unhide HS).trans ((unhide L2) m p (fun h => c2 h.2)))
                    clear L1 L2 HS
                    go_wp2
                    go_roundw
                    case rel => exact ⟨i + 1, by omega, by rw [unhide HM], by go_num, trivial⟩
                    case measure => simp [intOf]; omega
                · have HM : Hid (lsK L n (i + 1) = m) := hide ((unhide HS).trans ((unhide L2) m p (fun h => c1 h.1)))
                  clear L1 L2 HS
                  go_wp2
                  go_roundw
                  case rel => exact ⟨i + 1, by omega, by rw [unhide HM], by go_num, trivial⟩
                  case measure => simp [intOf]; omega
              · obtain rfl : i = L.length := by omega
                have el : lsK L n L.length = lst L n := rfl
                rw [el]
                obtain ⟨g1, g2, _⟩ := lsK_bd L n hn1 L.length (Nat.le_refl _)
                rw [el] at g1 g2
                have HI0 := hide (Ik.start (unhide HK) hL hn1)
                have HNX : Hid (nxt L n s = (let r := inK L (lst L n) { s with delta := s.delta + (lst L n - n) * (s.h + 1) } L.length; { r with delta := r.delta + 1 })) := hide rfl
                have HA1 : Hid (An bs { s with delta := s.delta + (lst L n - n) * (s.h + 1) }) := hide ⟨(unhide HA).le, (unhide HA).an⟩
                have pd0 : 0 ≤ (lst L n - n) * (s.h + 1) := Int.mul_nonneg (by omega) (by omega)
                have pd1 : (lst L n - n) * (s.h + 1) ≤ (lst L n - n) * 1001 := Int.mul_le_mul_of_nonneg_left (by omega) (by omega)
                clear el hil hi'
                generalize lst L n = m at *
                have wpd : wrap64 ((m - n) * (s.h + 1)) = (m - n) * (s.h + 1) := by unfold wrap64; omega
                have wpf : wrap64 (s.delta + (m - n) * (s.h + 1)) = s.delta + (m - n) * (s.h + 1) := by unfold wrap64; omega
                obtain ⟨s1, hs1⟩ : ∃ s1 : St, { s with delta := s.delta + (m - n) * (s.h + 1) } = s1 := ⟨_, rfl⟩
                have HSo : Hid (s.out = s1.out) := hide (by rw [← hs1])
                have HSh : Hid (s.h = s1.h) := hide (by rw [← hs1])
                have HSb : Hid (s.bias = s1.bias) := hide (by rw [← hs1])
                have HSd : Hid (s.delta + (m - n) * (s.h + 1) = s1.delta) := hide (by rw [← hs1])
                rw [hs1] at HI0 HNX HA1
                clear hs1
                go_wp2
                go_loopw [3, 5, 8, 9, 12] (fun ov hv dv bv iv wi => ∃ i : Nat, i ≤ L.length ∧ iv = .int .i64 i ∧ hv = .int .i64 (inK L m s1 i).h ∧ dv = .int .i64 (inK L m s1 i).delta ∧ bv = .int .i64 (inK L m s1 i).bias ∧ Hid (By w.heap.size wi ov (inK L m s1 i).out) ∧ Hid (Below w.heap.size w wi)) (fun _ _ _ _ iv _ => L.length - (intOf iv).toNat)
                case atStart => exact ⟨0, Nat.zero_le _, rfl, by rw [unhide HSh]; rfl, by rw [unhide HSd]; rfl, by rw [unhide HSb]; rfl, hide (by have := unhide HO; rw [unhide HSo] at this; exact this), HBr⟩
                case round =>
                  obtain ⟨i, hi', rfl, rfl, rfl, rfl, HOi, HBi⟩ := hrel
                  clear HSo HSh HSb HSd wpd wpf HO HBr pd0 pd1
                  have hBi := (unhide HBi).size
                  have HK2 := hide ((unhide HI0).at hL (by omega) g2 i hi')
                  have HA2 := hide ((unhide HA1).at (n := m) (L := L) i hi')
                  by_cases hil : i < L.length
                  · have kc := ((unhide HBi).cell (p := ⟨b, off + i, none⟩) hbw).trans ((unhide HC) i hil)
                    have HS := hide (inK_succ L m s1 i hil)
                    obtain ⟨p0, p1⟩ := (unhide HP) _ (nth_mem hil)
                    have J1 := hide (fun (h : nth L i < m) => (unhide HS).trans (inn_lt h))
                    have J2 := hide (fun (h : nth L i = m) => (unhide HS).trans (inn_eq h))
                    have J3 := hide (fun (h : m < nth L i) => (unhide HS).trans (inn_gt h))
                    obtain ⟨sj, hsj⟩ : ∃ sj, inK L m s1 (i + 1) = sj := ⟨_, rfl⟩
                    rw [hsj] at J1 J2 J3
                    have HJ := hide hsj
                    clear HS hsj
                    generalize nth L i = p at *
                    obtain ⟨si, hsi⟩ : ∃ si, inK L m s1 i = si := ⟨_, rfl⟩
                    rw [hsi] at J1 J2 J3 HOi HK2 HA2 ⊢
                    clear hsi
                    have k0 := (unhide HK2).d0
                    have k1 := (unhide HK2).d1
                    have k2 := (unhide HK2).b0
                    have k3 := (unhide HK2).b1
                    have k4 : 0 ≤ si.h := by rw [(unhide HK2).h]; omega
                    have k5 : si.h ≤ 2000 := by
                      have e1 := (unhide HK2).h
                      have e2 := cnt_le L m
                      have e3 : ((L.take i).filter (fun p => decide (p = m))).length ≤ L.length := Nat.le_trans (List.length_filter_le _ _) (by rw [List.length_take]; omega)
                      omega
                    have k6 := (unhide HK2).o
                    by_cases c1 : p < m
                    · have HM := hide ((unhide J1) c1)
                      clear J1 J2 J3
                      have c2 : (p == m) = false := by rw [beq_eq_false_iff_ne]; omega
                      go_wp2
                      go_roundw
                      case rel => exact ⟨i + 1, by omega, by go_num, by rw [unhide HJ, unhide HM], by rw [unhide HJ, unhide HM], by rw [unhide HJ, unhide HM], hide (by rw [unhide HJ, unhide HM]; exact unhide HOi), HBi⟩
                      case measure => simp [intOf]; omega
                    · by_cases c2 : p = m
                      · have HM := hide ((unhide J2) c2)
                        clear J1 J2 J3
                        have c3 : (p == m) = true := by rw [beq_iff_eq]; exact c2
                        have CN := hide (fun W => numberS si.delta si.bias W k0 (by omega) k2 k3)
                        have CB := hide (fun W => biasS si.delta (si.h + 1) si.anew W k0 (by omega) (by omega) (by omega))
                        have hq2 : (si.h == (bs : Int)) = !si.anew := by rw [(unhide HA2).an]; simp
                        have hnl := num_len (b := si.bias) (k := 36) k0 (by omega)
                        have hne := hide (num_ne si.delta si.bias 36)
                        generalize hX : num si.delta si.bias 36 = X at *
                        clear hX c2
                        go_wp2_with (first
                          | (go_at_call 40; refine ((unhide CN) _).mono ?_; rintro e w5 ⟨v5, rfl, ho5, hb5⟩; obtain ⟨g5, c5, rfl, hr5⟩ := by_read ho5 (unhide hne); have HO5 := hide ((unhide HOi).below hb5); have HB5 := hide ((unhide HBi).trans (hb5.mono hBi)); have hs5 := (unhide HB5).size; clear ho5 hb5)
                          | (at_builtin; refine wpList_appG _ rfl _ _ 22 rfl w.heap.size 5 i0 (.int .u8 0) 1 1 Tryd.underlying22 hi hz0 hz1 hz2 rfl (by decide) _ _ _ rfl (unhide HO5) ⟨g5, 0, none⟩ _ _ _ rfl (by rw [List.length_map]; omega) hr5 (by_ones _) ?c3 ?c4 ?c5 ?_)
                          | (go_at_call 41; refine ((unhide CB) _).mono ?_; rintro e w' ⟨rfl, hw⟩; obtain rfl := hw.symm; clear hw))
                        case c3 => unfold maxLen; omega
                        case c4 => omega
                        case c5 => exact hs5
                        intro v' w2 hown' hgrow hnew
                        have HO2 := hide (By.snoc (N := X) hown' rfl)
                        have HB2 := hide ((unhide HB5).trans (by_grown (unhide HO5) hs5 hgrow))
                        clear hown' hgrow hnew hr5
                        go_wp2_with (go_at_call 41; refine ((unhide CB) _).mono ?_; rintro e w' ⟨rfl, hw⟩; obtain rfl := hw.symm; clear hw)
                        go_roundw
                        case rel => exact ⟨i + 1, by omega, by go_num, by rw [unhide HJ, unhide HM], by rw [unhide HJ, unhide HM], by rw [unhide HJ, unhide HM], hide (by rw [unhide HJ, unhide HM]; exact unhide HO2), HB2⟩
                        case measure => simp [intOf]; omega
                      · have HM := hide ((unhide J3) (by omega))
                        clear J1 J2 J3
                        have c3 : (p == m) = false := by rw [beq_eq_false_iff_ne]; exact c2
                        go_wp2
                        go_roundw
                        case rel => exact ⟨i + 1, by omega, by go_num, by rw [unhide HJ, unhide HM], by rw [unhide HJ, unhide HM], by rw [unhide HJ, unhide HM], hide (by rw [unhide HJ, unhide HM]; exact unhide HOi), HBi⟩
                        case measure => simp [intOf]; omega
                  · obtain rfl : i = L.length := by omega
                    have k0 := (unhide HK2).d0
                    have k1 := (unhide HK2).d1
                    have HX0 : Hid ((nxt L n s).out = (inK L m s1 L.length).out ∧ (nxt L n s).h = (inK L m s1 L.length).h ∧ (nxt L n s).bias = (inK L m s1 L.length).bias ∧ (nxt L n s).delta = (inK L m s1 L.length).delta + 1 ∧ (nxt L n s).anew = (inK L m s1 L.length).anew) := hide (by rw [unhide HNX]; exact ⟨rfl, rfl, rfl, rfl, rfl⟩)
                    have HA3 : Hid (An bs (nxt L n s)) := hide ⟨by rw [(unhide HX0).2.1]; exact (unhide HA2).le, by rw [(unhide HX0).2.1, (unhide HX0).2.2.2.2]; exact (unhide HA2).an⟩
                    clear HNX
                    obtain ⟨si, hsi⟩ : ∃ si, inK L m s1 L.length = si := ⟨_, rfl⟩
                    rw [hsi] at HX0 HOi k0 k1 ⊢
                    clear hsi
                    go_wp2
                    go_roundw
                    case rel => exact ⟨f', m + 1, nxt L n s, by rw [(unhide HX0).2.1], rfl, by rw [(unhide HX0).2.2.2.1], by rw [(unhide HX0).2.2.1], HKn, HA3, HRn, HFn, hide (by rw [(unhide HX0).1]; exact unhide HOi), HBi⟩
                    case measure => have := unhide HGr; rw [(unhide HX0).2.1] at this; simp [intOf]; omega
          · have hR := run_last (f := f) (n := n) hlt
            have HE := hide (hR.symm.trans (unhide HR))
            have hcv := conv_owned wr _ _ _ _ (unhide HO)
            clear hR
            go_wp2
            go_ret
            exact ⟨by rw [unhide HG, ← unhide HE]; rfl, unhide HBr⟩
end Go.Proofs.YthjjojkabbepdaaDoor.Lab
