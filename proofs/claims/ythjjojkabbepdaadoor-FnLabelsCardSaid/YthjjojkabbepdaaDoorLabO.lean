/- A label, as the program writes it. -/
import Derived.Test.YthjjojkabbepdaaDoorLabK
namespace Go.Proofs.YthjjojkabbepdaaDoor.Lab
open Go.RowKit
set_option linter.unusedVariables false
theorem By.ka {lo A : Nat} {w w' : World} {v : Value} {M : List Int} {b : Int} {a : Bool} (h : By lo w v M) (hB : Bx w A b a) (k : Ka A w w') : By lo w' v M := by
  refine own_atS h (fun j hj => ?_)
  rcases h.2 with ⟨rfl, _⟩ | ⟨g, cap, cur, rfl, _, hh, _⟩
  · cases hj
  · have e : g = j := by cases hj; rfl
    subst e
    refine k.oth _ (fun e => ?_) (Array.getElem?_eq_some_iff.1 hh).1
    subst e
    unfold Bx at hB
    rw [hh] at hB
    injection hB with hB
    injection hB with _ h2 _
    exact absurd h2 (by decide)
theorem boxN (w : World) (x : Value) (y : Value) : (w.alloc (.cells #[x, y] 62)).heap[w.heap.size]? = some (.cells #[x, y] 62 (0, 0)) := heap_new w _
set_option maxHeartbeats 8000000 in
set_option maxRecDepth 100000 in
theorem labelI (v : Value) (L : List Int) (w : World) (hv : IntsAt w v L) (hL : L.length ≤ 1000) (hP : ∀ x ∈ L, 0 ≤ x ∧ x ≤ 1114111) :
    Calls Tryd.prog 17 #[v] w fun e w' => e = .returned (.string (strOfNums (lab L))) ∧ Below w.heap.size w w' := by
  obtain ⟨i0, hi, hz0, hz1, hz2⟩ := info_parts infoB
  have CP := hide (plainI v L w hv hL hP)
  have HV := hide hv
  have HP := hide hP
  obtain ⟨va, cap, rfl, _⟩ := hv
  clear hP
  have hpl := plK_le L L.length
  have e0 : plK L L.length = pl L := rfl
  rw [e0] at hpl
  have HG : Hid (lab L = (run L L.length 128 (st0 L)).out) := hide rfl
  have HK0 := hide (st0_ok L hL)
  have HS0 : Hid (st0 L = ⟨pl L ++ (if pl L = [] then [] else [45]), 72, 0, (pl L).length, false⟩) := hide rfl
  clear e0
  by_cases hn : pl L = []
  · have hn0 : (pl L).length = 0 := by rw [hn]; rfl
    have HSO : Hid ((st0 L).out = pl L) := hide (by rw [unhide HS0, if_pos hn, List.append_nil])
    have hq : ¬ (0 : Int) < ((pl L).length : Int) := by omega
    have hdec : decide (0 < (pl L).length) = false := decide_eq_false (by omega)
    clear hn hn0
    go_enter Tryd.func17, Tryd.ntmps17
    go_wp2_with (go_at_call 35; refine (unhide CP).mono ?_; rintro e w1 ⟨v1, rfl, ho1, hb1⟩; obtain ⟨oa, oc, rfl⟩ := ho1.form; have HO := hide ho1; have HB := hide hb1; clear ho1 hb1)
    have HO1 : Hid (By w.heap.size w1 (.slice oa (pl L).length oc) (st0 L).out) := hide (by rw [unhide HSO]; exact unhide HO)
    clear HO HSO CP
    generalize hbs : (pl L).length = bs at *
    have hBs1 := (unhide HB).size
    have HO2 := hide (By.below (unhide HO1) (al1 w1 (.cells #[.int .i64 72, .bool false] 62)))
    have HX2 : Hid (Bx (w1.alloc (.cells #[.int .i64 72, .bool false] 62)) w1.heap.size 72 false) := hide (boxN w1 _ _)
    have HB2 := hide ((unhide HB).trans ((al1 w1 (.cells #[.int .i64 72, .bool false] 62)).mono hBs1))
    obtain ⟨A, hA⟩ : ∃ A, w1.heap.size = A := ⟨_, rfl⟩
    have hAw : w.heap.size ≤ A := by omega
    clear HO1 HB
    go_wp2
    try simp only [hdec]
    rw [hA] at HX2
    try rw [hA]
    go_loopw [3, 4, 6, 7] (fun ov hv nv dv wr => ∃ (f : Nat) (n : Int) (s : St), hv = .int .i64 s.h ∧ nv = .int .i64 n ∧ dv = .int .i64 s.delta ∧ Hid (Ok L n s) ∧ Hid (run L f n s = run L L.length 128 (st0 L)) ∧ Hid ((L.length : Int) ≤ s.h + f) ∧ Hid (By w.heap.size wr ov s.out) ∧ Hid (Bx wr A s.bias s.anew) ∧ Hid (Below w.heap.size w wr)) (fun _ hv _ _ _ => (L.length - intOf hv).toNat)
    case atStart => exact ⟨L.length, 128, st0 L, by rw [unhide HS0], rfl, by rw [unhide HS0], HK0, hide rfl, hide (by rw [unhide HS0]; dsimp only; omega), HO2, hide (by rw [unhide HS0]; exact unhide HX2), HB2⟩
    case round =>
      obtain ⟨f, n, s, rfl, rfl, rfl, HK, HR, HF, HO, HX, HBr⟩ := hrel
      clear HO2 HX2 HB2 HS0 HK0 hA hBs1
      have hBs := (unhide HBr).size
      have hh0 : 0 ≤ s.h := by rw [(unhide HK).h]; omega
      have hh1 : s.h ≤ 1000 := by have := cnt_le L n; rw [(unhide HK).h]; omega
      by_cases hlt : s.h < L.length
      · obtain ⟨hn1, hgrow⟩ := (unhide HK).grow hL (fun x hx => ((unhide HP) x hx).2) hlt
        obtain ⟨f', rfl⟩ : ∃ f', f = f' + 1 := ⟨f - 1, by have := unhide HF; omega⟩
        have HRn := hide ((run_more (f := f') (n := n) hlt).symm.trans (unhide HR))
        have HKn := hide ((unhide HK).next hL hn1)
        have HFn : Hid ((L.length : Int) ≤ (nxt L n s).h + f') := hide (by have := unhide HF; omega)
        have HGr := hide hgrow
        obtain ⟨b, off, cp, he, hbw, hc⟩ := rd_at (unhide HV) (by omega)
        cases he
        have HC := hide hc
        have hn0 := (unhide HK).n0
        have hd0 := (unhide HK).d0
        have hd1 := (unhide HK).d1
        have CL := hide (leastI _ L n wr ((unhide HV).below (unhide HBr)) hL (unhide HP) (by omega) hn1)
        obtain ⟨g1, g2, _⟩ := lsK_bd L n hn1 L.length (Nat.le_refl _)
        have el : lsK L n L.length = lst L n := rfl
        rw [el] at g1 g2
        have HI0 := hide (Ik.start (unhide HK) hL hn1)
        have HNX : Hid (nxt L n s = (let r := inK L (lst L n) { s with delta := s.delta + (lst L n - n) * (s.h + 1) } L.length; { r with delta := r.delta + 1 })) := hide rfl
        have pd0 : 0 ≤ (lst L n - n) * (s.h + 1) := Int.mul_nonneg (by omega) (by omega)
        have pd1 : (lst L n - n) * (s.h + 1) ≤ (lst L n - n) * 1001 := Int.mul_le_mul_of_nonneg_left (by omega) (by omega)
        clear el hc hgrow HF HR
        generalize lst L n = m at *
        have wpd : wrap64 ((m - n) * (s.h + 1)) = (m - n) * (s.h + 1) := by unfold wrap64; omega
        have wpf : wrap64 (s.delta + (m - n) * (s.h + 1)) = s.delta + (m - n) * (s.h + 1) := by unfold wrap64; omega
        obtain ⟨s1, hs1⟩ : ∃ s1 : St, { s with delta := s.delta + (m - n) * (s.h + 1) } = s1 := ⟨_, rfl⟩
        have HSo : Hid (s.out = s1.out) := hide (by rw [← hs1])
        have HSh : Hid (s.h = s1.h) := hide (by rw [← hs1])
        have HSb : Hid (s.bias = s1.bias) := hide (by rw [← hs1])
        have HSa : Hid (s.anew = s1.anew) := hide (by rw [← hs1])
        have HSd : Hid (s.delta + (m - n) * (s.h + 1) = s1.delta) := hide (by rw [← hs1])
        rw [hs1] at HI0 HNX
        clear hs1
        go_wp2_with (go_at_call 36; refine (unhide CL).mono ?_; rintro e w' ⟨rfl, hw⟩; obtain rfl := hw.symm; clear hw)
        go_loopw [3, 4, 7, 39] (fun ov hv dv iv wi => ∃ i : Nat, i ≤ L.length ∧ iv = .int .i64 i ∧ hv = .int .i64 (inK L m s1 i).h ∧ dv = .int .i64 (inK L m s1 i).delta ∧ Hid (By w.heap.size wi ov (inK L m s1 i).out) ∧ Hid (Bx wi A (inK L m s1 i).bias (inK L m s1 i).anew) ∧ Hid (Below w.heap.size w wi)) (fun _ _ _ iv _ => L.length - (intOf iv).toNat)
        case atStart => exact ⟨0, Nat.zero_le _, rfl, by rw [unhide HSh]; rfl, by rw [unhide HSd]; rfl, hide (by have := unhide HO; rw [unhide HSo] at this; exact this), hide (by have := unhide HX; rw [unhide HSb, unhide HSa] at this; exact this), HBr⟩
        case round =>
          obtain ⟨i, hi', rfl, rfl, rfl, HOi, HXi, HBi⟩ := hrel
          clear HSo HSh HSb HSa HSd wpd wpf HO HX HBr pd0 pd1 CL
          have hBi := (unhide HBi).size
          have HK2 := hide ((unhide HI0).at hL (by omega) g2 i hi')
          by_cases hil : i < L.length
          · have kc := ((unhide HBi).cell (p := ⟨b, off + i, none⟩) hbw).trans ((unhide HC) i hil)
            have HS := hide (inK_succ L m s1 i hil)
            obtain ⟨p0, p1⟩ := (unhide HP) _ (nth_mem hil)
            have J1 := hide (fun (h : nth L i < m) => (unhide HS).trans (inn_lt h))
            have J2 := hide (fun (h : nth L i = m) => (unhide HS).trans (inn_eq h))
            have J3 := hide (fun (h : m < nth L i) => (unhide HS).trans (inn_gt h))
            obtain ⟨sj, hsj⟩ : ∃ sj, inK L m s1 (i + 1) = sj := ⟨_, rfl⟩
            rw [hsj] at J1 J2 J3
            have HJ := hide hsj
            clear HS hsj
            generalize nth L i = p at *
            obtain ⟨si, hsi⟩ : ∃ si, inK L m s1 i = si := ⟨_, rfl⟩
            rw [hsi] at J1 J2 J3 HOi HXi HK2 ⊢
            clear hsi
            have k0 := (unhide HK2).d0
            have k1 := (unhide HK2).d1
            have k2 := (unhide HK2).b0
            have k3 := (unhide HK2).b1
            have k4 : 0 ≤ si.h := by rw [(unhide HK2).h]; omega
            have k5 : si.h ≤ 2000 := by
              have e1 := (unhide HK2).h
              have e2 := cnt_le L m
              have e3 : ((L.take i).filter (fun p => decide (p = m))).length ≤ L.length := Nat.le_trans (List.length_filter_le _ _) (by rw [List.length_take]; omega)
              omega
            have k6 := (unhide HK2).o
            by_cases c1 : p < m
            · have HM := hide ((unhide J1) c1)
              clear J1 J2 J3
              go_wp2
              go_roundw
              case rel => exact ⟨i + 1, by omega, by go_num, by rw [unhide HJ, unhide HM], by rw [unhide HJ, unhide HM], hide (by rw [unhide HJ, unhide HM]; exact unhide HOi), hide (by rw [unhide HJ, unhide HM]; exact unhide HXi), HBi⟩
              case measure => simp [intOf]; omega
            · by_cases c2 : p = m
              · have HM := hide ((unhide J2) c2)
                clear J1 J2 J3
                have c3 : (p == m) = true := by rw [beq_iff_eq]; exact c2
                have CN := hide (fun V W o x z => deltaI A w.heap.size V si.out si.delta si.bias si.anew W o x (by omega) z k0 (by omega) k2 k3)
                have CB := hide (fun W z => anewI A si.delta (si.h + 1) si.bias si.anew W z k0 (by omega) (by omega) (by omega))
                clear c2
                go_wp2_with (first
                  | (go_at_call 37; refine ((unhide CN) _ _ hBi (unhide HOi) (unhide HXi)).mono ?_; rintro e w5 ⟨v5, rfl, ho5, hk5⟩; have HO5 := hide ho5; have HX5 := hide ((unhide HXi).kb hk5); have HB5 := hide ((unhide HBi).trans hk5.bel); clear ho5 hk5)
                  | (go_at_call 38; refine ((unhide CB) _ (unhide HX5)).mono ?_; rintro e w6 ⟨rfl, hx6, hk6⟩; have HO6 := hide ((unhide HO5).ka (unhide HX5) hk6); have HX6 := hide hx6; have HB6 := hide ((unhide HB5).trans (hk6.bel.mono hAw)); clear hx6 hk6))
                go_roundw
                case rel => exact ⟨i + 1, by omega, by go_num, by rw [unhide HJ, unhide HM], by rw [unhide HJ, unhide HM], hide (by rw [unhide HJ, unhide HM]; exact unhide HO6), hide (by rw [unhide HJ, unhide HM]; exact unhide HX6), HB6⟩
                case measure => simp [intOf]; omega
              · have HM := hide ((unhide J3) (by omega))
                clear J1 J2 J3
                have c3 : (p == m) = false := by rw [beq_eq_false_iff_ne]; exact c2
                go_wp2
                go_roundw
                case rel => exact ⟨i + 1, by omega, by go_num, by rw [unhide HJ, unhide HM], by rw [unhide HJ, unhide HM], hide (by rw [unhide HJ, unhide HM]; exact unhide HOi), hide (by rw [unhide HJ, unhide HM]; exact unhide HXi), HBi⟩
                case measure => simp [intOf]; omega
          · obtain rfl : i = L.length := by omega
            have k0 := (unhide HK2).d0
            have k1 := (unhide HK2).d1
            have HX0 : Hid ((nxt L n s).out = (inK L m s1 L.length).out ∧ (nxt L n s).h = (inK L m s1 L.length).h ∧ (nxt L n s).bias = (inK L m s1 L.length).bias ∧ (nxt L n s).delta = (inK L m s1 L.length).delta + 1 ∧ (nxt L n s).anew = (inK L m s1 L.length).anew) := hide (by rw [unhide HNX]; exact ⟨rfl, rfl, rfl, rfl, rfl⟩)
            clear HNX
            obtain ⟨si, hsi⟩ : ∃ si, inK L m s1 L.length = si := ⟨_, rfl⟩
            rw [hsi] at HX0 HOi HXi k0 k1 ⊢
            clear hsi
            go_wp2
            go_roundw
            case rel => exact ⟨f', m + 1, nxt L n s, by rw [(unhide HX0).2.1], rfl, by rw [(unhide HX0).2.2.2.1], HKn, HRn, HFn, hide (by rw [(unhide HX0).1]; exact unhide HOi), hide (by rw [(unhide HX0).2.2.1, (unhide HX0).2.2.2.2]; exact unhide HXi), HBi⟩
            case measure => have := unhide HGr; rw [(unhide HX0).2.1] at this; simp [intOf]; omega
      · have hR := run_last (f := f) (n := n) hlt
        have HE := hide (hR.symm.trans (unhide HR))
        have hcv := conv_owned wr _ _ _ _ (unhide HO)
        clear hR
        go_wp2
        go_ret
        exact ⟨by rw [unhide HG, ← unhide HE]; rfl, unhide HBr⟩
  · have hn0 : 0 < (pl L).length := List.length_pos_iff.2 hn
    have hq : (0 : Int) < ((pl L).length : Int) := by omega
    have hdec : decide (0 < (pl L).length) = true := decide_eq_true hn0
    have HSO : Hid ((st0 L).out = pl L ++ [45]) := hide (by rw [unhide HS0, if_neg hn])
    clear hn
    go_enter Tryd.func17, Tryd.ntmps17
    go_wp2_with (first
      | (go_at_call 35; refine (unhide CP).mono ?_; rintro e w0 ⟨v1, rfl, ho1, hb1⟩; obtain ⟨oa, oc, rfl⟩ := ho1.form; have HO := hide ho1; have HB0 := hide hb1; have hBs0 := hb1.size; clear ho1 hb1)
      | (at_builtin; refine wpList_appG _ rfl _ _ 22 rfl w.heap.size 5 i0 (.int .u8 0) 1 1 Tryd.underlying22 hi hz0 hz1 hz2 rfl (by decide) _ _ _ rfl (By.alloc (unhide HO) _) ⟨w0.heap.size, 0, none⟩ 1 1 [.int .u8 45] rfl rfl (one_new _ _) (one_oneB _) ?c3 ?c4 ?c5 ?_))
    case c3 => unfold maxLen; omega
    case c4 => omega
    case c5 => simp; omega
    intro v' w1 hown' hgrow hnew
    have HO1 := hide (By.snoc (N := [45]) hown' rfl)
    rw [← unhide HSO] at HO1
    have HB := hide (((unhide HB0).trans ((al1 w0 _).mono hBs0)).trans (by_grown (By.below (unhide HO) (al1 w0 _)) (by simp; omega) hgrow))
    clear hown' hgrow hnew HO HB0 hBs0 HSO CP
    generalize hbs : (pl L).length = bs at *
    clear hn0
    have hBs1 := (unhide HB).size
    have HO2 := hide (By.below (unhide HO1) (al1 w1 (.cells #[.int .i64 72, .bool false] 62)))
    have HX2 : Hid (Bx (w1.alloc (.cells #[.int .i64 72, .bool false] 62)) w1.heap.size 72 false) := hide (boxN w1 _ _)
    have HB2 := hide ((unhide HB).trans ((al1 w1 (.cells #[.int .i64 72, .bool false] 62)).mono hBs1))
    obtain ⟨A, hA⟩ : ∃ A, w1.heap.size = A := ⟨_, rfl⟩
    have hAw : w.heap.size ≤ A := by omega
    clear HO1 HB
    go_wp2
    try simp only [hdec]
    rw [hA] at HX2
    try rw [hA]
    go_loopw [3, 4, 6, 7] (fun ov hv nv dv wr => ∃ (f : Nat) (n : Int) (s : St), hv = .int .i64 s.h ∧ nv = .int .i64 n ∧ dv = .int .i64 s.delta ∧ Hid (Ok L n s) ∧ Hid (run L f n s = run L L.length 128 (st0 L)) ∧ Hid ((L.length : Int) ≤ s.h + f) ∧ Hid (By w.heap.size wr ov s.out) ∧ Hid (Bx wr A s.bias s.anew) ∧ Hid (Below w.heap.size w wr)) (fun _ hv _ _ _ => (L.length - intOf hv).toNat)
    case atStart => exact ⟨L.length, 128, st0 L, by rw [unhide HS0], rfl, by rw [unhide HS0], HK0, hide rfl, hide (by rw [unhide HS0]; dsimp only; omega), HO2, hide (by rw [unhide HS0]; exact unhide HX2), HB2⟩
    case round =>
      obtain ⟨f, n, s, rfl, rfl, rfl, HK, HR, HF, HO, HX, HBr⟩ := hrel
      clear HO2 HX2 HB2 HS0 HK0 hA hBs1
      have hBs := (unhide HBr).size
      have hh0 : 0 ≤ s.h := by rw [(unhide HK).h]; omega
      have hh1 : s.h ≤ 1000 := by have := cnt_le L n; rw [(unhide HK).h]; omega
      by_cases hlt : s.h < L.length
      · obtain ⟨hn1, hgrow⟩ := (unhide HK).grow hL (fun x hx => ((unhide HP) x hx).2) hlt
        obtain ⟨f', rfl⟩ : ∃ f', f = f' + 1 := ⟨f - 1, by have := unhide HF; omega⟩
        have HRn := hide ((run_more (f := f') (n := n) hlt).symm.trans (unhide HR))
        have HKn := hide ((unhide HK).next hL hn1)
        have HFn : Hid ((L.length : Int) ≤ (nxt L n s).h + f') := hide (by have := unhide HF; omega)
        have HGr := hide hgrow
        obtain ⟨b, off, cp, he, hbw, hc⟩ := rd_at (unhide HV) (by omega)
        cases he
        have HC := hide hc
        have hn0 := (unhide HK).n0
        have hd0 := (unhide HK).d0
        have hd1 := (unhide HK).d1
        have CL := hide (leastI _ L n wr ((unhide HV).below (unhide HBr)) hL (unhide HP) (by omega) hn1)
        obtain ⟨g1, g2, _⟩ := lsK_bd L n hn1 L.length (Nat.le_refl _)
        have el : lsK L n L.length = lst L n := rfl
        rw [el] at g1 g2
        have HI0 := hide (Ik.start (unhide HK) hL hn1)
        have HNX : Hid (nxt L n s = (let r := inK L (lst L n) { s with delta := s.delta + (lst L n - n) * (s.h + 1) } L.length; { r with delta := r.delta + 1 })) := hide rfl
        have pd0 : 0 ≤ (lst L n - n) * (s.h + 1) := Int.mul_nonneg (by omega) (by omega)
        have pd1 : (lst L n - n) * (s.h + 1) ≤ (lst L n - n) * 1001 := Int.mul_le_mul_of_nonneg_left (by omega) (by omega)
        clear el hc hgrow HF HR
        generalize lst L n = m at *
        have wpd : wrap64 ((m - n) * (s.h + 1)) = (m - n) * (s.h + 1) := by unfold wrap64; omega
        have wpf : wrap64 (s.delta + (m - n) * (s.h + 1)) = s.delta + (m - n) * (s.h + 1) := by unfold wrap64; omega
        obtain ⟨s1, hs1⟩ : ∃ s1 : St, { s with delta := s.delta + (m - n) * (s.h + 1) } = s1 := ⟨_, rfl⟩
        have HSo : Hid (s.out = s1.out) := hide (by rw [← hs1])
        have HSh : Hid (s.h = s1.h) := hide (by rw [← hs1])
        have HSb : Hid (s.bias = s1.bias) := hide (by rw [← hs1])
        have HSa : Hid (s.anew = s1.anew) := hide (by rw [← hs1])
        have HSd : Hid (s.delta + (m - n) * (s.h + 1) = s1.delta) := hide (by rw [← hs1])
        rw [hs1] at HI0 HNX
        clear hs1
        go_wp2_with (go_at_call 36; refine (unhide CL).mono ?_; rintro e w' ⟨rfl, hw⟩; obtain rfl := hw.symm; clear hw)
        go_loopw [3, 4, 7, 39] (fun ov hv dv iv wi => ∃ i : Nat, i ≤ L.length ∧ iv = .int .i64 i ∧ hv = .int .i64 (inK L m s1 i).h ∧ dv = .int .i64 (inK L m s1 i).delta ∧ Hid (By w.heap.size wi ov (inK L m s1 i).out) ∧ Hid (Bx wi A (inK L m s1 i).bias (inK L m s1 i).anew) ∧ Hid (Below w.heap.size w wi)) (fun _ _ _ iv _ => L.length - (intOf iv).toNat)
        case atStart => exact ⟨0, Nat.zero_le _, rfl, by rw [unhide HSh]; rfl, by rw [unhide HSd]; rfl, hide (by have := unhide HO; rw [unhide HSo] at this; exact this), hide (by have := unhide HX; rw [unhide HSb, unhide HSa] at this; exact this), HBr⟩
        case round =>
          obtain ⟨i, hi', rfl, rfl, rfl, HOi, HXi, HBi⟩ := hrel
          clear HSo HSh HSb HSa HSd wpd wpf HO HX HBr pd0 pd1 CL
          have hBi := (unhide HBi).size
          have HK2 := hide ((unhide HI0).at hL (by omega) g2 i hi')
          by_cases hil : i < L.length
          · have kc := ((unhide HBi).cell (p := ⟨b, off + i, none⟩) hbw).trans ((unhide HC) i hil)
            have HS := hide (inK_succ L m s1 i hil)
            obtain ⟨p0, p1⟩ := (unhide HP) _ (nth_mem hil)
            have J1 := hide (fun (h : nth L i < m) => (unhide HS).trans (inn_lt h))
            have J2 := hide (fun (h : nth L i = m) => (unhide HS).trans (inn_eq h))
            have J3 := hide (fun (h : m < nth L i) => (unhide HS).trans (inn_gt h))
            obtain ⟨sj, hsj⟩ : ∃ sj, inK L m s1 (i + 1) = sj := ⟨_, rfl⟩
            rw [hsj] at J1 J2 J3
            have HJ := hide hsj
            clear HS hsj
            generalize nth L i = p at *
            obtain ⟨si, hsi⟩ : ∃ si, inK L m s1 i = si := ⟨_, rfl⟩
            rw [hsi] at J1 J2 J3 HOi HXi HK2 ⊢
            clear hsi
            have k0 := (unhide HK2).d0
            have k1 := (unhide HK2).d1
            have k2 := (unhide HK2).b0
            have k3 := (unhide HK2).b1
            have k4 : 0 ≤ si.h := by rw [(unhide HK2).h]; omega
            have k5 : si.h ≤ 2000 := by
              have e1 := (unhide HK2).h
              have e2 := cnt_le L m
              have e3 : ((L.take i).filter (fun p => decide (p = m))).length ≤ L.length := Nat.le_trans (List.length_filter_le _ _) (by rw [List.length_take]; omega)
              omega
            have k6 := (unhide HK2).o
            by_cases c1 : p < m
            · have HM := hide ((unhide J1) c1)
              clear J1 J2 J3
              go_wp2
              go_roundw
              case rel => exact ⟨i + 1, by omega, by go_num, by rw [unhide HJ, unhide HM], by rw [unhide HJ, unhide HM], hide (by rw [unhide HJ, unhide HM]; exact unhide HOi), hide (by rw [unhide HJ, unhide HM]; exact unhide HXi), HBi⟩
              case measure => simp [intOf]; omega
            · by_cases c2 : p = m
              · have HM := hide ((unhide J2) c2)
                clear J1 J2 J3
                have c3 : (p == m) = true := by rw [beq_iff_eq]; exact c2
                have CN := hide (fun V W o x z => deltaI A w.heap.size V si.out si.delta si.bias si.anew W o x (by omega) z k0 (by omega) k2 k3)
                have CB := hide (fun W z => anewI A si.delta (si.h + 1) si.bias si.anew W z k0 (by omega) (by omega) (by omega))
                clear c2
                go_wp2_with (first
                  | (go_at_call 37; refine ((unhide CN) _ _ hBi (unhide HOi) (unhide HXi)).mono ?_; rintro e w5 ⟨v5, rfl, ho5, hk5⟩; have HO5 := hide ho5; have HX5 := hide ((unhide HXi).kb hk5); have HB5 := hide ((unhide HBi).trans hk5.bel); clear ho5 hk5)
                  | (go_at_call 38; refine ((unhide CB) _ (unhide HX5)).mono ?_; rintro e w6 ⟨rfl, hx6, hk6⟩; have HO6 := hide ((unhide HO5).ka (unhide HX5) hk6); have HX6 := hide hx6; have HB6 := hide ((unhide HB5).trans (hk6.bel.mono hAw)); clear hx6 hk6))
                go_roundw
                case rel => exact ⟨i + 1, by omega, by go_num, by rw [unhide HJ, unhide HM], by rw [unhide HJ, unhide HM], hide (by rw [unhide HJ, unhide HM]; exact unhide HO6), hide (by rw [unhide HJ, unhide HM]; exact unhide HX6), HB6⟩
                case measure => simp [intOf]; omega
              · have HM := hide ((unhide J3) (by omega))
                clear J1 J2 J3
                have c3 : (p == m) = false := by rw [beq_eq_false_iff_ne]; exact c2
                go_wp2
                go_roundw
                case rel => exact ⟨i + 1, by omega, by go_num, by rw [unhide HJ, unhide HM], by rw [unhide HJ, unhide HM], hide (by rw [unhide HJ, unhide HM]; exact unhide HOi), hide (by rw [unhide HJ, unhide HM]; exact unhide HXi), HBi⟩
                case measure => simp [intOf]; omega
          · obtain rfl : i = L.length := by omega
            have k0 := (unhide HK2).d0
            have k1 := (unhide HK2).d1
            have HX0 : Hid ((nxt L n s).out = (inK L m s1 L.length).out ∧ (nxt L n s).h = (inK L m s1 L.length).h ∧ (nxt L n s).bias = (inK L m s1 L.length).bias ∧ (nxt L n s).delta = (inK L m s1 L.length).delta + 1 ∧ (nxt L n s).anew = (inK L m s1 L.length).anew) := hide (by rw [unhide HNX]; exact ⟨rfl, rfl, rfl, rfl, rfl⟩)
            clear HNX
            obtain ⟨si, hsi⟩ : ∃ si, inK L m s1 L.length = si := ⟨_, rfl⟩
            rw [hsi] at HX0 HOi HXi k0 k1 ⊢
            clear hsi
            go_wp2
            go_roundw
            case rel => exact ⟨f', m + 1, nxt L n s, by rw [(unhide HX0).2.1], rfl, by rw [(unhide HX0).2.2.2.1], HKn, HRn, HFn, hide (by rw [(unhide HX0).1]; exact unhide HOi), hide (by rw [(unhide HX0).2.2.1, (unhide HX0).2.2.2.2]; exact unhide HXi), HBi⟩
            case measure => have := unhide HGr; rw [(unhide HX0).2.1] at this; simp [intOf]; omega
      · have hR := run_last (f := f) (n := n) hlt
        have HE := hide (hR.symm.trans (unhide HR))
        have hcv := conv_owned wr _ _ _ _ (unhide HO)
        clear hR
        go_wp2
        go_ret
        exact ⟨by rw [unhide HG, ← unhide HE]; rfl, unhide HBr⟩
end Go.Proofs.YthjjojkabbepdaaDoor.Lab
