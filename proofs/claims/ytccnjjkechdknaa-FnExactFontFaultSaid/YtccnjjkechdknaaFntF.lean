/- FontFault, as the specification tells it. -/
import Derived.Test.YtccnjjkechdknaaFntE
namespace Go.Proofs.Ytccnjjkechdknaa.Fnt
open Go.RowKit
set_option linter.unusedVariables false
theorem klt_no {a b : Sp} (h : b.1 < a.1 ∨ (a.1 = b.1 ∧ b.2.1 ≤ a.2.1)) : klt a b = false := by
  unfold klt
  rcases h with h | ⟨h1, h2⟩
  · rw [decide_eq_false (by omega), decide_eq_false (by omega : ¬ a.1 = b.1)]; rfl
  · rw [decide_eq_false (by omega), decide_eq_false (by omega : ¬ a.2.1 < b.2.1), Bool.and_false]; rfl
theorem klt_yes {a b : Sp} (h : ¬ b.1 < a.1) (h2 : ¬ (a.1 = b.1 ∧ b.2.1 ≤ a.2.1)) : klt a b = true := by
  unfold klt
  by_cases e : a.1 = b.1
  · rw [decide_eq_true e, decide_eq_true (by omega : a.2.1 < b.2.1)]; simp
  · rw [decide_eq_true (by omega : a.1 < b.1)]; rfl
set_option maxRecDepth 100000 in
set_option maxHeartbeats 8000000 in
theorem specFF (v : Value) (wd : Int) (LW : List Sp) (n : Nat) (Q : List (List Int)) (LK LA : List Sp) (w : World) (h : FA w v wd LW n Q LK LA) (hf : Fit LW n Q LK LA) :
    Calls Try.prog 6 #[v] w fun e w' => e = .returned (.int .i64 (ff wd LW n Q LK LA)) ∧ Below w.heap.size w w' := by
  obtain ⟨a1, a2, a3, a4, c1, c2, c3, c4, rfl, ⟨B1, f1⟩, f2, ⟨B3, f3⟩, B4, f4⟩ := h.form
  obtain ⟨l1, l2, l5, l3, l4⟩ := hf
  have C1 := hide (fun W (hb : Below w.heap.size w W) => l10Sp_any _ LW 0 B1 W (f1.below hb) l1)
  have C2 := hide (fun W (hb : Below w.heap.size w W) => l10Sp_any _ LA (-1000) B4 W (f4.below hb) l4)
  have C3 := hide (fun W (hb : Below w.heap.size w W) => Frl.rulesRight_any _ n Q W (f2.below hb) l2 l5)
  have HNo := hide (fun h => ff_no (wd := wd) (LW := LW) (n := n) (Q := Q) (LK := LK) (LA := LA) h)
  have HYes := hide (fun h0 h1 h2 h3 h4 => ff_yes (wd := wd) (LW := LW) (n := n) (Q := Q) (LK := LK) (LA := LA) h0 h1 h2 h3 h4)
  obtain ⟨ka, kc, ek, hkg⟩ := f3.form
  injection ek with ek1 ek2 ek3
  subst ek1 ek3
  have HK := hide f3
  have HKG := hide hkg
  generalize ff wd LW n Q LK LA = Z at *
  have BB := hide ((Below.refl w.heap.size w).alloc (Nat.le_refl _) (.cells #[.int .i64 wd, .slice a1 LW.length c1, .slice a2 n c2, .slice a3 LK.length c3, .slice a4 LA.length c4] 33))
  have hq := Frl.heap_new w (.cells #[.int .i64 wd, .slice a1 LW.length c1, .slice a2 n c2, .slice a3 LK.length c3, .slice a4 LA.length c4] 33)
  have hqs : w.heap.size < (w.alloc (.cells #[.int .i64 wd, .slice a1 LW.length c1, .slice a2 n c2, .slice a3 LK.length c3, .slice a4 LA.length c4] 33)).heap.size := by simp
  clear h f1 f2 f3 f4 l1 l2 l4 l5 ek2 hkg
  by_cases t0 : wd < 0
  · have HZ := hide ((unhide HNo) (.inl (by rw [decide_eq_false (by omega), Bool.false_and])))
    clear HNo HYes
    go_enter Try.func6, Try.ntmps6
    go_wp2
    go_ret
    exact ⟨by rw [unhide HZ]; rfl, unhide BB⟩
  by_cases t1 : 1000 < wd
  · have HZ := hide ((unhide HNo) (.inl (by rw [decide_eq_false (by omega : ¬ wd ≤ 1000), Bool.and_false])))
    clear HNo HYes
    go_enter Try.func6, Try.ntmps6
    go_wp2
    go_ret
    exact ⟨by rw [unhide HZ]; rfl, unhide BB⟩
  have y0 : (decide (0 ≤ wd) && decide (wd ≤ 1000)) = true := by rw [decide_eq_true (by omega), decide_eq_true (by omega)]; rfl
  cases y1 : msr 0 LW
  · rw [y1] at C1
    have HZ := hide ((unhide HNo) (.inr (.inl y1)))
    clear HNo HYes y0 y1
    go_enter Try.func6, Try.ntmps6
    go_wp2_with fail
    generalize w.alloc (.cells #[.int .i64 wd, .slice a1 LW.length c1, .slice a2 n c2, .slice a3 LK.length c3, .slice a4 LA.length c4] 33) = wa at *
    refine ((unhide C1) _ (unhide BB)).mono ?_
    rintro e wb1 ⟨rfl, hb⟩
    have BB1 := hide ((unhide BB).trans (hb.mono (unhide BB).size))
    have hq1 := (hb.block w.heap.size hqs).trans hq
    have hqs1 := Nat.lt_of_lt_of_le hqs hb.size
    obtain ⟨⟨x0, x1, x2, x3, x4⟩, _⟩ := five_cellsF hq1
    clear hb
    go_wp2
    go_ret
    exact ⟨by rw [unhide HZ]; rfl, unhide BB1⟩
  · rw [y1] at C1
    cases y2 : msr (-1000) LA
    · rw [y2] at C2
      have HZ := hide ((unhide HNo) (.inr (.inr (.inl y2))))
      clear HNo HYes y0 y1 y2
      go_enter Try.func6, Try.ntmps6
      go_wp2_with fail
      generalize w.alloc (.cells #[.int .i64 wd, .slice a1 LW.length c1, .slice a2 n c2, .slice a3 LK.length c3, .slice a4 LA.length c4] 33) = wa at *
      refine ((unhide C1) _ (unhide BB)).mono ?_
      rintro e wb1 ⟨rfl, hb⟩
      have BB1 := hide ((unhide BB).trans (hb.mono (unhide BB).size))
      have hq1 := (hb.block w.heap.size hqs).trans hq
      have hqs1 := Nat.lt_of_lt_of_le hqs hb.size
      obtain ⟨⟨x0, x1, x2, x3, x4⟩, _⟩ := five_cellsF hq1
      clear hb
      go_wp2_with fail
      refine ((unhide C2) _ (unhide BB1)).mono ?_
      rintro e wb2 ⟨rfl, hb⟩
      clear x0 x1 x2 x3 x4
      have BB2 := hide ((unhide BB1).trans (hb.mono (unhide BB1).size))
      have hq2 := (hb.block w.heap.size hqs1).trans hq1
      have hqs2 := Nat.lt_of_lt_of_le hqs1 hb.size
      obtain ⟨⟨x0, x1, x2, x3, x4⟩, _⟩ := five_cellsF hq2
      clear hb
      go_wp2
      go_ret
      exact ⟨by rw [unhide HZ]; rfl, unhide BB2⟩
    · rw [y2] at C2
      cases y3 : Frl.okR n Q
      · rw [y3] at C3
        have HZ := hide ((unhide HNo) (.inr (.inr (.inr (.inl y3)))))
        clear HNo HYes y0 y1 y2 y3
        go_enter Try.func6, Try.ntmps6
        go_wp2_with fail
        generalize w.alloc (.cells #[.int .i64 wd, .slice a1 LW.length c1, .slice a2 n c2, .slice a3 LK.length c3, .slice a4 LA.length c4] 33) = wa at *
        refine ((unhide C1) _ (unhide BB)).mono ?_
        rintro e wb1 ⟨rfl, hb⟩
        have BB1 := hide ((unhide BB).trans (hb.mono (unhide BB).size))
        have hq1 := (hb.block w.heap.size hqs).trans hq
        have hqs1 := Nat.lt_of_lt_of_le hqs hb.size
        obtain ⟨⟨x0, x1, x2, x3, x4⟩, _⟩ := five_cellsF hq1
        clear hb
        go_wp2_with fail
        refine ((unhide C2) _ (unhide BB1)).mono ?_
        rintro e wb2 ⟨rfl, hb⟩
        clear x0 x1 x2 x3 x4
        have BB2 := hide ((unhide BB1).trans (hb.mono (unhide BB1).size))
        have hq2 := (hb.block w.heap.size hqs1).trans hq1
        have hqs2 := Nat.lt_of_lt_of_le hqs1 hb.size
        obtain ⟨⟨x0, x1, x2, x3, x4⟩, _⟩ := five_cellsF hq2
        clear hb
        go_wp2_with fail
        refine ((unhide C3) _ (unhide BB2)).mono ?_
        rintro e wb3 ⟨rfl, hb⟩
        clear x0 x1 x2 x3 x4
        have BB3 := hide ((unhide BB2).trans (hb.mono (unhide BB2).size))
        have hq3 := (hb.block w.heap.size hqs2).trans hq2
        have hqs3 := Nat.lt_of_lt_of_le hqs2 hb.size
        obtain ⟨⟨x0, x1, x2, x3, x4⟩, _⟩ := five_cellsF hq3
        clear hb
        go_wp2
        go_ret
        exact ⟨by rw [unhide HZ]; rfl, unhide BB3⟩
      · rw [y3] at C3
        by_cases t5 : 200 < LK.length
        · have t5' : (200 : Int) < (LK.length : Int) := by omega
          have HZ := hide ((unhide HNo) (.inr (.inr (.inr (.inr (krn_long t5))))))
          clear HNo HYes y0 y1 y2 y3
          go_enter Try.func6, Try.ntmps6
          go_wp2_with fail
          generalize w.alloc (.cells #[.int .i64 wd, .slice a1 LW.length c1, .slice a2 n c2, .slice a3 LK.length c3, .slice a4 LA.length c4] 33) = wa at *
          refine ((unhide C1) _ (unhide BB)).mono ?_
          rintro e wb1 ⟨rfl, hb⟩
          have BB1 := hide ((unhide BB).trans (hb.mono (unhide BB).size))
          have hq1 := (hb.block w.heap.size hqs).trans hq
          have hqs1 := Nat.lt_of_lt_of_le hqs hb.size
          obtain ⟨⟨x0, x1, x2, x3, x4⟩, _⟩ := five_cellsF hq1
          clear hb
          go_wp2_with fail
          refine ((unhide C2) _ (unhide BB1)).mono ?_
          rintro e wb2 ⟨rfl, hb⟩
          clear x0 x1 x2 x3 x4
          have BB2 := hide ((unhide BB1).trans (hb.mono (unhide BB1).size))
          have hq2 := (hb.block w.heap.size hqs1).trans hq1
          have hqs2 := Nat.lt_of_lt_of_le hqs1 hb.size
          obtain ⟨⟨x0, x1, x2, x3, x4⟩, _⟩ := five_cellsF hq2
          clear hb
          go_wp2_with fail
          refine ((unhide C3) _ (unhide BB2)).mono ?_
          rintro e wb3 ⟨rfl, hb⟩
          clear x0 x1 x2 x3 x4
          have BB3 := hide ((unhide BB2).trans (hb.mono (unhide BB2).size))
          have hq3 := (hb.block w.heap.size hqs2).trans hq2
          have hqs3 := Nat.lt_of_lt_of_le hqs2 hb.size
          obtain ⟨⟨x0, x1, x2, x3, x4⟩, _⟩ := five_cellsF hq3
          clear hb
          go_wp2
          go_ret
          exact ⟨by rw [unhide HZ]; rfl, unhide BB3⟩
        · have t5' : ¬ (200 : Int) < (LK.length : Int) := by omega
          have HBad := hide (fun k hk hb => krn_bad (L := LK) (k := k) hk hb)
          have HOk := hide (fun hb => krn_ok (L := LK) (by omega) hb)
          have HYes2 := hide (fun h => (unhide HYes) y0 y1 y2 y3 h)
          clear HYes y0 y1 y2 y3
          go_enter Try.func6, Try.ntmps6
          go_wp2_with fail
          generalize w.alloc (.cells #[.int .i64 wd, .slice a1 LW.length c1, .slice a2 n c2, .slice a3 LK.length c3, .slice a4 LA.length c4] 33) = wa at *
          refine ((unhide C1) _ (unhide BB)).mono ?_
          rintro e wb1 ⟨rfl, hb⟩
          have BB1 := hide ((unhide BB).trans (hb.mono (unhide BB).size))
          have hq1 := (hb.block w.heap.size hqs).trans hq
          have hqs1 := Nat.lt_of_lt_of_le hqs hb.size
          obtain ⟨⟨x0, x1, x2, x3, x4⟩, _⟩ := five_cellsF hq1
          clear hb
          go_wp2_with fail
          refine ((unhide C2) _ (unhide BB1)).mono ?_
          rintro e wb2 ⟨rfl, hb⟩
          clear x0 x1 x2 x3 x4
          have BB2 := hide ((unhide BB1).trans (hb.mono (unhide BB1).size))
          have hq2 := (hb.block w.heap.size hqs1).trans hq1
          have hqs2 := Nat.lt_of_lt_of_le hqs1 hb.size
          obtain ⟨⟨x0, x1, x2, x3, x4⟩, _⟩ := five_cellsF hq2
          clear hb
          go_wp2_with fail
          refine ((unhide C3) _ (unhide BB2)).mono ?_
          rintro e wb3 ⟨rfl, hb⟩
          clear x0 x1 x2 x3 x4
          have BB3 := hide ((unhide BB2).trans (hb.mono (unhide BB2).size))
          have hq3 := (hb.block w.heap.size hqs2).trans hq2
          have hqs3 := Nat.lt_of_lt_of_le hqs2 hb.size
          obtain ⟨⟨x0, x1, x2, x3, x4⟩, _⟩ := five_cellsF hq3
          clear hb

          go_wp2
          go_loopw [3] (fun i wr => ∃ k : Nat, k ≤ LK.length ∧ i = .int .i64 k ∧ Hid (krk LK k = true) ∧ Hid (Below wb3.heap.size wb3 wr)) (fun i _ => LK.length - (intOf i).toNat)
          case atStart => exact ⟨0, Nat.zero_le _, rfl, hide rfl, hide (Below.refl _ _)⟩
          case round =>
            obtain ⟨k, hk, rfl, HKK, HB⟩ := hrel
            clear x0 x1 x2 x3 x4
            have hqr := ((unhide HB).block w.heap.size hqs3).trans hq3
            obtain ⟨⟨x0, x1, x2, x3, x4⟩, _⟩ := five_cellsF hqr
            by_cases hlt : k < LK.length
            · have hlt' : (k : Int) < (LK.length : Int) := by omega
              obtain ⟨g, rfl, _, hgs⟩ := (unhide HKG) (by omega)
              obtain ⟨z0, z1, z2⟩ := ((unhide HK).below ((unhide BB3).trans ((unhide HB).mono (unhide BB3).size))).read k hlt
              have HB2 := hide (fun hb => (unhide HBad) k hlt hb)
              have hKK : Hid ((decide (-1000 ≤ (gx LK k).2.2) && decide ((gx LK k).2.2 ≤ 1000) && (decide (k = 0) || klt (gx LK (k - 1)) (gx LK k))) = true → krk LK (k + 1) = true) := hide (fun e => by
                unfold krk
                rw [unhide HKK, e]; rfl)
              have B5 := hide ((unhide HB).alloc (unhide HB).size (.cells #[.int .i64 (gx LK k).1, .int .i64 (gx LK k).2.1, .int .i64 (gx LK k).2.2] 54))
              have HP : Hid (∀ m, k = m + 1 → (wr.cell? ⟨g, m * 3, none⟩ = some (.int .i64 (gx LK m).1) ∧ wr.cell? ⟨g, m * 3 + 1, none⟩ = some (.int .i64 (gx LK m).2.1) ∧ wr.cell? ⟨g, m * 3 + 2, none⟩ = some (.int .i64 (gx LK m).2.2))) := hide (fun m hm => ((unhide HK).below ((unhide BB3).trans ((unhide HB).mono (unhide BB3).size))).read m (by omega))
              have hwx : wb3.heap.size ≤ wr.heap.size := (unhide HB).size
              by_cases s1 : (gx LK k).2.2 < -1000
              · have HZ := hide ((unhide HNo) (.inr (.inr (.inr (.inr ((unhide HB2) (by rw [decide_eq_false (by omega), Bool.false_and, Bool.false_and])))))))
                clear HB2 hKK HP
                generalize gx LK k = r at *
                go_wp2
                go_ret
                exact ⟨by rw [unhide HZ]; rfl, (unhide BB3).trans ((unhide B5).mono (unhide BB3).size)⟩
              by_cases s2 : 1000 < (gx LK k).2.2
              · have HZ := hide ((unhide HNo) (.inr (.inr (.inr (.inr ((unhide HB2) (by rw [decide_eq_false (by omega : ¬ (gx LK k).2.2 ≤ 1000), Bool.and_false, Bool.false_and])))))))
                clear HB2 hKK HP
                generalize gx LK k = r at *
                go_wp2
                go_ret
                exact ⟨by rw [unhide HZ]; rfl, (unhide BB3).trans ((unhide B5).mono (unhide BB3).size)⟩
              have so : (decide (-1000 ≤ (gx LK k).2.2) && decide ((gx LK k).2.2 ≤ 1000)) = true := by rw [decide_eq_true (by omega), decide_eq_true (by omega)]; rfl
              cases k with
              | zero =>
                have HK2 := hide ((unhide hKK) (by rw [so]; rfl))
                clear HB2 hKK HP so
                rw [show ((0 : Nat) : Int) = 0 from rfl] at *
                generalize gx LK 0 = r at *
                go_wp2
                go_roundw
                case rel => exact ⟨0 + 1, by omega, by go_num, HK2, B5⟩
                case measure => simp [intOf]; omega
              | succ m =>
                obtain ⟨p0, p1, p2⟩ := (unhide HP) m rfl
                have hcast : ((m + 1 : Nat) : Int) = (m : Int) + 1 := by omega
                have hm2 : (m : Int) + 1 - 1 = (m : Int) := by omega
                have pa : (0 : Int) < (m : Int) + 1 := by omega
                have pn : (0 : Int) ≤ (m : Int) := by omega
                have pb : (m : Int) < (LK.length : Int) := by omega
                have ra : IntKind.i64.wrap (m : Int) = (m : Int) := wrap_in _ (by omega) (by omega)
                have hem : m + 1 - 1 = m := by omega
                rw [hem] at HB2 hKK
                have hd0 : decide (m + 1 = 0) = false := decide_eq_false (by omega)
                rw [so, hd0] at HB2 hKK
                rw [hcast] at hlt' ⊢
                have B6 := hide ((unhide B5).alloc (by simp; omega) (.cells #[.int .i64 (gx LK m).1, .int .i64 (gx LK m).2.1, .int .i64 (gx LK m).2.2] 54))
                have HN2 := hide (fun hb => (unhide HNo) (.inr (.inr (.inr (.inr ((unhide HB2) (by rw [klt_no hb]; rfl)))))))
                have HY2 := hide (fun hb1 hb2 => (unhide hKK) (by rw [klt_yes hb1 hb2]; rfl))
                clear HB2 hKK HP so hem hd0 hcast
                generalize gx LK (m + 1) = r at *
                generalize gx LK m = a at *
                have xa3 := cell_alloc x3 (.cells #[.int .i64 r.1, .int .i64 r.2.1, .int .i64 r.2.2] 54)
                have pa0 := cell_alloc p0 (.cells #[.int .i64 r.1, .int .i64 r.2.1, .int .i64 r.2.2] 54)
                have pa1 := cell_alloc p1 (.cells #[.int .i64 r.1, .int .i64 r.2.1, .int .i64 r.2.2] 54)
                have pa2 := cell_alloc p2 (.cells #[.int .i64 r.1, .int .i64 r.2.1, .int .i64 r.2.2] 54)
                by_cases u1 : r.1 < a.1
                · have HZ := hide ((unhide HN2) (.inl u1))
                  go_wp2
                  go_ret
                  exact ⟨by rw [unhide HZ]; rfl, (unhide BB3).trans ((unhide B6).mono (unhide BB3).size)⟩
                by_cases u2 : a.1 = r.1
                · have u2' : (a.1 == r.1) = true := by simp [u2]
                  by_cases u3 : r.2.1 ≤ a.2.1
                  · have HZ := hide ((unhide HN2) (.inr ⟨u2, u3⟩))
                    clear u2
                    go_wp2
                    go_ret
                    exact ⟨by rw [unhide HZ]; rfl, (unhide BB3).trans ((unhide B6).mono (unhide BB3).size)⟩
                  · have HK2 := hide ((unhide HY2) u1 (fun e => u3 e.2))
                    clear u2
                    go_wp2
                    go_roundw
                    case rel => exact ⟨m + 1 + 1, by omega, by go_num, HK2, B6⟩
                    case measure => simp [intOf]; omega
                · have u2' : (a.1 == r.1) = false := by simp [u2]
                  have HK2 := hide ((unhide HY2) u1 (fun e => u2 e.1))
                  clear u2
                  go_wp2
                  go_roundw
                  case rel => exact ⟨m + 1 + 1, by omega, by go_num, HK2, B6⟩
                  case measure => simp [intOf]; omega
            · obtain rfl : k = LK.length := by omega
              have HZ := hide ((unhide HYes2) ((unhide HOk) (unhide HKK)))
              go_wp2
              go_ret
              exact ⟨by rw [unhide HZ]; rfl, (unhide BB3).trans ((unhide HB).mono (unhide BB3).size)⟩
end Go.Proofs.Ytccnjjkechdknaa.Fnt
