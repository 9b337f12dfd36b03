/- A rope: how large it is, a copy, alike. -/
import Derived.Test.YtaipnmmlfbfcnaaDoorRpfE
namespace Go.Proofs.YtaipnmmlfbfcnaaDoor.Rop
open Go.RowKit Rwc
set_option linter.unusedVariables false
theorem lf_sum (m : Int) (a b : Nat) (hm : 0 ≤ m) : (lf m a < 0 → lf m (a + b) = -1) ∧ (¬ lf m a < 0 → lf (lf m a) b = lf m (a + b)) := by
  constructor
  · intro h
    by_cases c : m - (a : Int) < 0
    · exact lf_no (by omega)
    · rw [lf_ok c] at h; omega
  · intro h
    by_cases c : m - (a : Int) < 0
    · rw [lf_no c] at h; omega
    · rw [lf_ok c]
      by_cases d : m - (a : Int) - (b : Int) < 0
      · rw [lf_no d, lf_no (by omega)]
      · rw [lf_ok d, lf_ok (by omega)]; omega
set_option maxRecDepth 100000 in
set_option maxHeartbeats 2000000 in
theorem szRopeI (v1 v2 : Value) (L : List Nd) (M : List Mk) (B : Nat) (w : World) (h1 : nd_At B w v1 L) (h2 : mk_At B w v2 M) (f1 : nd_FR L) (f2 : mk_FR M) :
    Calls Tryd.prog 8 #[.agg #[v1, v2], .int .i64 1048576] w fun e w' => e = .returned (.int .i64 (lf 1048576 (nd_sR L + mk_sR M))) ∧ Below w.heap.size w w' := by
  have C1 := hide (fun W (h : nd_At B W v1 L) => nd_szs v1 L 1048576 B W h (by omega) f1)
  have C2 := hide (fun W (h : mk_At B W v2 M) (m : Int) (hm : 0 ≤ m ∧ m ≤ 1048576) => mk_szs v2 M m B W h hm f2)
  have H1 := hide h1
  have H2 := hide h2
  obtain ⟨a1, c1, rfl⟩ := nd_form h1
  obtain ⟨a2, c2, rfl⟩ := mk_form h2
  obtain ⟨s1, s2⟩ := lf_sum 1048576 (nd_sR L) (mk_sR M) (by omega)
  have hR : lf 1048576 (nd_sR L) ≤ 1048576 := by
    by_cases c : (1048576 : Int) - (nd_sR L : Int) < 0
    · rw [lf_no c]; omega
    · rw [lf_ok c]; omega
  have hS1 := hide s1
  have hS2 := hide s2
  clear h1 h2 f1 f2 s1 s2
  have B0 := hide ((Below.refl w.heap.size w).alloc (Nat.le_refl _) (.cells #[.slice a1 L.length c1, .slice a2 M.length c2] 25))
  have N0 := hide (heap_new w (.cells #[.slice a1 L.length c1, .slice a2 M.length c2] 25))
  have Z0 : Hid ((w.alloc (.cells #[.slice a1 L.length c1, .slice a2 M.length c2] 25)).heap.size = w.heap.size + 1) := hide (by simp)
  generalize lf 1048576 (nd_sR L + mk_sR M) = F at *
  generalize lf 1048576 (nd_sR L) = R at *
  go_enter Tryd.func8, Tryd.ntmps8
  go_wp2_with fail
  generalize w.alloc (.cells #[.slice a1 L.length c1, .slice a2 M.length c2] 25) = w0 at *
  refine ((unhide C1) _ (nd_below (unhide H1) (unhide B0))).mono ?_
  rintro e w1 ⟨rfl, hb1⟩
  have B1 := hide ((unhide B0).trans (hb1.mono (unhide B0).size))
  obtain ⟨n0, n1, _, _⟩ := two_cells ((hb1.block w.heap.size (by rw [unhide Z0]; omega)).trans (unhide N0))
  clear hb1 C1 N0
  by_cases hneg : R < 0
  · have HF := hide ((unhide hS1) (by omega))
    go_wp2
    go_ret
    exact ⟨by rw [unhide HF]; rfl, unhide B1⟩
  · have HF := hide ((unhide hS2) (by omega))
    have C3 := hide (fun W h => (unhide C2) W h R (by omega))
    rw [unhide HF] at C3
    clear C2
    go_wp2_with fail
    refine ((unhide C3) _ (mk_below (unhide H2) (unhide B1))).mono ?_
    rintro e w2 ⟨rfl, hb2⟩
    have B2 := hide ((unhide B1).trans (hb2.mono (unhide B1).size))
    have HG : Hid (F < 0 → F = -1) := hide (by
      intro h
      have := unhide HF
      by_cases c : R - ((mk_sR M : Nat) : Int) < 0
      · rw [← this, lf_no c]
      · rw [lf_ok c] at this; omega)
    clear hb2 C3 HF
    by_cases hn2 : F < 0
    · have HF := hide ((unhide HG) hn2)
      go_wp2
      go_ret
      exact ⟨by rw [unhide HF]; rfl, unhide B2⟩
    · go_wp2
      go_ret
      exact ⟨rfl, unhide B2⟩
theorem three_rope (w : World) (x1 x2 x3 : Obj) : ((((w.alloc x1).alloc x2).alloc x3).heap[w.heap.size]? = some x1 ∧ (((w.alloc x1).alloc x2).alloc x3).heap[w.heap.size + 1]? = some x2 ∧ (((w.alloc x1).alloc x2).alloc x3).heap[w.heap.size + 1 + 1]? = some x3) ∧ (((w.alloc x1).alloc x2).alloc x3).heap.size = w.heap.size + 3 ∧ Below w.heap.size w (((w.alloc x1).alloc x2).alloc x3) := by
  refine ⟨⟨?_, ?_, ?_⟩, by simp, (((Below.refl _ _).alloc (Nat.le_refl _) _).alloc (by simp) _).alloc (by simp; omega) _⟩
  · rw [Below.heap_alloc _ _ _ (by simp; omega), Below.heap_alloc _ _ _ (by simp)]
    exact heap_new w _
  · rw [Below.heap_alloc _ _ _ (by simp)]
    have := heap_new (w.alloc x1) x2
    simpa using this
  · have := heap_new ((w.alloc x1).alloc x2) x3
    simpa using this
set_option maxRecDepth 100000 in
set_option maxHeartbeats 4000000 in
theorem toRopeI (v1 v2 : Value) (L : List Nd) (M : List Mk) (B : Nat) (w : World) (h1 : nd_At B w v1 L) (h2 : mk_At B w v2 M) (hL : L.length ≤ 1048576) (hM : M.length ≤ 1048576) :
    Calls Tryd.prog 10 #[.agg #[v1, v2]] w fun e w' => ∃ q1 q2, e = .returned (.agg #[.slice (some ⟨q1, 0, none⟩) L.length L.length, .slice (some ⟨q2, 0, none⟩) M.length M.length]) ∧ nd_At w.heap.size w' (.slice (some ⟨q1, 0, none⟩) L.length L.length) L ∧ mk_At w.heap.size w' (.slice (some ⟨q2, 0, none⟩) M.length M.length) M ∧ Below w.heap.size w w' := by
  have C1 := hide (fun W (h : nd_At B W v1 L) => nd_tos v1 L B W h hL)
  have C2 := hide (fun W (h : mk_At B W v2 M) => mk_tos v2 M B W h hM)
  have H1 := hide h1
  have H2 := hide h2
  obtain ⟨a1, c1, rfl⟩ := nd_form h1
  obtain ⟨a2, c2, rfl⟩ := mk_form h2
  clear h1 h2
  obtain ⟨⟨p0, p1, p2⟩, hz, hb⟩ := three_rope w (.cells #[.slice a1 L.length c1, .slice a2 M.length c2] 25) (.cells #[.slice none 0 0, .slice none 0 0] 31) (.cells #[.slice none 0 0, .slice none 0 0] 31)
  go_enter Tryd.func10, Tryd.ntmps10
  go_wp2_with fail
  generalize ((w.alloc (.cells #[.slice a1 L.length c1, .slice a2 M.length c2] 25)).alloc (.cells #[.slice none 0 0, .slice none 0 0] 31)).alloc (.cells #[.slice none 0 0, .slice none 0 0] 31) = w3 at *
  refine ((unhide C1) _ (nd_below (unhide H1) hb)).mono ?_
  rintro e w4 ⟨rfl, ho4, hb4⟩
  have k0 := (hb4.block w.heap.size (by omega)).trans p0
  have k1 := (hb4.block (w.heap.size + 1) (by omega)).trans p1
  have k2 := (hb4.block (w.heap.size + 1 + 1) (by omega)).trans p2
  have hb5 := hb.trans (hb4.mono (by omega))
  have hz4 := hb4.size
  generalize hq1 : w3.heap.size = q1 at *
  have hq3 : w.heap.size + 3 ≤ q1 := by omega
  clear hz hq1
  obtain ⟨w5, hw5⟩ : ∃ w5, w4.setCell ⟨w.heap.size + 1 + 1, 0, none⟩ (.slice (some ⟨q1, 0, none⟩) L.length L.length) = w5 := ⟨_, rfl⟩
  have l0 : w5.heap[w.heap.size]? = some (.cells #[.slice a1 L.length c1, .slice a2 M.length c2] 25 (0, 0)) := by rw [← hw5]; exact (heap_setCell_other w4 ⟨w.heap.size + 1 + 1, 0, none⟩ w.heap.size _ (by show w.heap.size ≠ w.heap.size + 1 + 1; omega)).trans k0
  have l1 : w5.heap[w.heap.size + 1]? = some (.cells #[.slice none 0 0, .slice none 0 0] 31 (0, 0)) := by rw [← hw5]; exact (heap_setCell_other w4 ⟨w.heap.size + 1 + 1, 0, none⟩ (w.heap.size + 1) _ (by show w.heap.size + 1 ≠ w.heap.size + 1 + 1; omega)).trans k1
  have l2 : w5.heap[w.heap.size + 1 + 1]? = some (.cells #[.slice (some ⟨q1, 0, none⟩) L.length L.length, .slice none 0 0] 31 (0, 0)) := by
    rw [← hw5]
    have := heap_setCell_same w4 (w.heap.size + 1 + 1) 0 _ 31 (.slice (some ⟨q1, 0, none⟩) L.length L.length) k2
    simpa using this
  have B5 : Hid (Below w.heap.size w w5) := hide (by rw [← hw5]; exact hb5.setCell (p := ⟨w.heap.size + 1 + 1, 0, none⟩) (by show w.heap.size ≤ w.heap.size + 1 + 1; omega) _)
  have O5 : Hid (nd_At q1 w5 (.slice (some ⟨q1, 0, none⟩) L.length L.length) L) := hide (by rw [← hw5]; exact nd_put ho4 (by omega))
  have Z5 : Hid (w5.heap.size = w4.heap.size) := hide (by rw [← hw5]; simp)
  have L0 := hide l0
  have L1 := hide l1
  have L2 := hide l2
  obtain ⟨x0, x1, x2, x3⟩ := two_cells k2
  clear ho4 hb4 hb5 hb C1 k0 k1 p0 p1 p2 l0 l1 l2
  obtain ⟨y0, y1, _, _⟩ := two_cells (unhide L0)
  go_wp2_with fail
  clear k2 x0 x1 x2 x3
  refine ((unhide C2) _ (mk_below (unhide H2) (unhide B5))).mono ?_
  rintro e w6 ⟨rfl, ho6, hb6⟩
  have hz5 := unhide Z5
  have m1 := (hb6.block (w.heap.size + 1) (by omega)).trans (unhide L1)
  have m2 := (hb6.block (w.heap.size + 1 + 1) (by omega)).trans (unhide L2)
  have B6 := hide ((unhide B5).trans (hb6.mono (unhide B5).size))
  have O6 := hide (nd_below (unhide O5) hb6)
  have hz6 := hb6.size
  generalize hq2 : w5.heap.size = q2 at *
  have hq4 : w.heap.size + 3 ≤ q2 := by omega
  clear hz5 hq2 Z5
  have m3 : (w6.setCell ⟨w.heap.size + 1 + 1, 1, none⟩ (.slice (some ⟨q2, 0, none⟩) M.length M.length)).heap[w.heap.size + 1 + 1]? = some (.cells #[.slice (some ⟨q1, 0, none⟩) L.length L.length, .slice (some ⟨q2, 0, none⟩) M.length M.length] 31 (0, 0)) := by
    have := heap_setCell_same w6 (w.heap.size + 1 + 1) 1 _ 31 (.slice (some ⟨q2, 0, none⟩) M.length M.length) m2
    simpa using this
  have m4 := (heap_setCell_other w6 ⟨w.heap.size + 1 + 1, 1, none⟩ (w.heap.size + 1) (.slice (some ⟨q2, 0, none⟩) M.length M.length) (by show w.heap.size + 1 ≠ w.heap.size + 1 + 1; omega)).trans m1
  obtain ⟨z0, z1, z2, z3⟩ := two_cells m2
  obtain ⟨w7, hw7⟩ : ∃ w7, w6.setCell ⟨w.heap.size + 1 + 1, 1, none⟩ (.slice (some ⟨q2, 0, none⟩) M.length M.length) = w7 := ⟨_, rfl⟩
  rw [hw7] at m3 m4
  have B7 : Hid (Below w.heap.size w w7) := hide (by rw [← hw7]; exact (unhide B6).setCell (p := ⟨w.heap.size + 1 + 1, 1, none⟩) (by show w.heap.size ≤ w.heap.size + 1 + 1; omega) _)
  have O7 : Hid (nd_At q1 w7 (.slice (some ⟨q1, 0, none⟩) L.length L.length) L) := hide (by rw [← hw7]; exact nd_put (unhide O6) (by omega))
  have P7 : Hid (mk_At q2 w7 (.slice (some ⟨q2, 0, none⟩) M.length M.length) M) := hide (by rw [← hw7]; exact mk_put ho6 (by omega))
  have M3 := hide m3
  have M4 := hide m4
  clear ho6 hb6 C2 m1 m3 m4 y0 y1 hw5 H1 H2 L0 L1 L2
  have m3 := unhide M3
  obtain ⟨y0, y1, _, _⟩ := two_cells m3
  have n0 := heap_setCell_same w7 (w.heap.size + 1) 0 _ 31 (.slice (some ⟨q1, 0, none⟩) L.length L.length) (unhide M4)
  have n1 := heap_setCell_same _ (w.heap.size + 1) 1 _ 31 (.slice (some ⟨q2, 0, none⟩) M.length M.length) n0
  obtain ⟨e0, e1, e2, e3⟩ := two_cells (unhide M4)
  obtain ⟨f0, f1, f2, f3⟩ := two_cells n0
  obtain ⟨g0, g1, _, _⟩ := two_cells n1
  have B9 := hide (((unhide B7).setCell (p := ⟨w.heap.size + 1, 0, none⟩) (by show w.heap.size ≤ w.heap.size + 1; omega) (.slice (some ⟨q1, 0, none⟩) L.length L.length)).setCell (p := ⟨w.heap.size + 1, 1, none⟩) (by show w.heap.size ≤ w.heap.size + 1; omega) (.slice (some ⟨q2, 0, none⟩) M.length M.length))
  have O9 := hide (nd_down (nd_put (nd_put (unhide O7) (g := w.heap.size + 1) (j := 0) (x := .slice (some ⟨q1, 0, none⟩) L.length L.length) (by omega)) (g := w.heap.size + 1) (j := 1) (x := .slice (some ⟨q2, 0, none⟩) M.length M.length) (by omega)) (B' := w.heap.size) (by omega))
  have P9 := hide (mk_down (mk_put (mk_put (unhide P7) (g := w.heap.size + 1) (j := 0) (x := .slice (some ⟨q1, 0, none⟩) L.length L.length) (by omega)) (g := w.heap.size + 1) (j := 1) (x := .slice (some ⟨q2, 0, none⟩) M.length M.length) (by omega)) (B' := w.heap.size) (by omega))
  clear n0 n1 m3 m2
  go_wp2
  refine bodyPost_ret (v := .agg #[.slice (some ⟨q1, 0, none⟩) L.length L.length, .slice (some ⟨q2, 0, none⟩) M.length M.length]) (by simp [results, Tryd.results10, go_sem, g0, g1]; try rfl) rfl ?_
  exact ⟨q1, q2, rfl, unhide O9, unhide P9, unhide B9⟩
set_option maxRecDepth 100000 in
set_option maxHeartbeats 2000000 in
theorem eqRope2 (u1 u2 v1 v2 : Value) (L : List Nd) (M : List Mk) (B1 B2 : Nat) (w : World) (h1 : nd_At B1 w u1 L) (h2 : mk_At B1 w u2 M) (h3 : nd_At B2 w v1 L) (h4 : mk_At B2 w v2 M) (hL : L.length ≤ 1048576) (hM : M.length ≤ 1048576) :
    Calls Tryd.prog 12 #[.agg #[u1, u2], .agg #[v1, v2]] w fun e w' => e = .returned (.bool true) ∧ Below w.heap.size w w' := by
  have C1 := hide (fun W (x : nd_At B1 W u1 L) (y : nd_At B2 W v1 L) => nd_eqs u1 v1 L B1 B2 W x y hL)
  have C2 := hide (fun W (x : mk_At B1 W u2 M) (y : mk_At B2 W v2 M) => mk_eqs u2 v2 M B1 B2 W x y hM)
  have H1 := hide h1
  have H2 := hide h2
  have H3 := hide h3
  have H4 := hide h4
  obtain ⟨a1, c1, rfl⟩ := nd_form h1
  obtain ⟨a2, c2, rfl⟩ := mk_form h2
  obtain ⟨a3, c3, rfl⟩ := nd_form h3
  obtain ⟨a4, c4, rfl⟩ := mk_form h4
  clear h1 h2 h3 h4
  have B0 := hide (((Below.refl w.heap.size w).alloc (Nat.le_refl _) (.cells #[.slice a1 L.length c1, .slice a2 M.length c2] 31)).alloc (by simp) (.cells #[.slice a3 L.length c3, .slice a4 M.length c4] 31))
  have k0 : ((w.alloc (.cells #[.slice a1 L.length c1, .slice a2 M.length c2] 31)).alloc (.cells #[.slice a3 L.length c3, .slice a4 M.length c4] 31)).heap[w.heap.size]? = some (.cells #[.slice a1 L.length c1, .slice a2 M.length c2] 31 (0, 0)) := by
    rw [Below.heap_alloc _ _ _ (by simp)]
    exact heap_new w _
  have k1 : ((w.alloc (.cells #[.slice a1 L.length c1, .slice a2 M.length c2] 31)).alloc (.cells #[.slice a3 L.length c3, .slice a4 M.length c4] 31)).heap[w.heap.size + 1]? = some (.cells #[.slice a3 L.length c3, .slice a4 M.length c4] 31 (0, 0)) := by
    have := heap_new (w.alloc (.cells #[.slice a1 L.length c1, .slice a2 M.length c2] 31)) (.cells #[.slice a3 L.length c3, .slice a4 M.length c4] 31)
    simpa using this
  have hz : ((w.alloc (.cells #[.slice a1 L.length c1, .slice a2 M.length c2] 31)).alloc (.cells #[.slice a3 L.length c3, .slice a4 M.length c4] 31)).heap.size = w.heap.size + 2 := by simp
  have K0 := hide k0
  have K1 := hide k1
  clear k0 k1
  go_enter Tryd.func12, Tryd.ntmps12
  go_wp2_with fail
  generalize (w.alloc (.cells #[.slice a1 L.length c1, .slice a2 M.length c2] 31)).alloc (.cells #[.slice a3 L.length c3, .slice a4 M.length c4] 31) = w0 at *
  refine ((unhide C1) _ (nd_below (unhide H1) (unhide B0)) (nd_below (unhide H3) (unhide B0))).mono ?_
  rintro e w1 ⟨rfl, hb1⟩
  have B1 := hide ((unhide B0).trans (hb1.mono (unhide B0).size))
  obtain ⟨x0, x1, _, _⟩ := two_cells ((hb1.block w.heap.size (by omega)).trans (unhide K0))
  obtain ⟨y0, y1, _, _⟩ := two_cells ((hb1.block (w.heap.size + 1) (by omega)).trans (unhide K1))
  clear hb1 C1
  go_wp2_with fail
  refine ((unhide C2) _ (mk_below (unhide H2) (unhide B1)) (mk_below (unhide H4) (unhide B1))).mono ?_
  rintro e w2 ⟨rfl, hb2⟩
  have B2 := hide ((unhide B1).trans (hb2.mono (unhide B1).size))
  clear hb2
  go_wp2
  go_ret
  exact ⟨rfl, unhide B2⟩
end Go.Proofs.YtaipnmmlfbfcnaaDoor.Rop
