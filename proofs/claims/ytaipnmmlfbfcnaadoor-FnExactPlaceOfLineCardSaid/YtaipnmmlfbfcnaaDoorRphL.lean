/- PlaceOfLine of both sides: the law. -/
import Derived.Test.YtaipnmmlfbfcnaaDoorRphC
namespace Go.Proofs.YtaipnmmlfbfcnaaDoor.Rop
open Go.RowKit Rwc
set_option linter.unusedVariables false
set_option maxRecDepth 100000 in
set_option maxHeartbeats 8000000 in
theorem lawPlaceL (v1 v2 : Value) (L : List Nd) (M : List Mk) (x : Int) (w : World) (h1 : nd_At 0 w v1 L) (h2 : mk_At 0 w v2 M) (f1 : nd_FR L) (f2 : mk_FR M) (hwf : (Lit.int .i64 x).wf = true) (hTab : TabD w) :
    Calls Tryd.prog 7 #[.agg #[v1, v2], .int .i64 x] w fun e w' => e = .returned (.bool true) ∧ Below w.heap.size w w' := by
  have hxm : x ≤ 9223372036854775807 := by
    have h : (decide (IntKind.i64.min ≤ x) && decide (x ≤ IntKind.i64.max)) = true := hwf
    rw [Bool.and_eq_true] at h
    exact of_decide_eq_true h.2
  clear hwf
  have CZ := hide (fun W (x : nd_At 0 W v1 L) (y : mk_At 0 W v2 M) => szRopeI v1 v2 L M 0 W x y f1 f2)
  have HTAB := hide hTab
  have H1 := hide h1
  have H2 := hide h2
  obtain ⟨a1, c1, rfl⟩ := nd_form h1
  obtain ⟨a2, c2, rfl⟩ := mk_form h2
  clear h1 h2 hTab f1 f2
  have B0 := hide ((Below.refl w.heap.size w).alloc (Nat.le_refl _) (.cells #[.slice a1 L.length c1, .slice a2 M.length c2] 25))
  have N0 := hide (heap_new w (.cells #[.slice a1 L.length c1, .slice a2 M.length c2] 25))
  have Z0 : Hid (w.heap.size < (w.alloc (.cells #[.slice a1 L.length c1, .slice a2 M.length c2] 25)).heap.size) := hide (by simp)
  have HSM := hide (sm_of (L := L) (M := M))
  generalize lf 1048576 (nd_sR L + mk_sR M) = F at *
  go_enter Tryd.func7, Tryd.ntmps7
  go_wp2_with fail
  generalize w.alloc (.cells #[.slice a1 L.length c1, .slice a2 M.length c2] 25) = w0 at *
  refine ((unhide CZ) _ (nd_below (unhide H1) (unhide B0)) (mk_below (unhide H2) (unhide B0))).mono ?_
  rintro e w1 ⟨rfl, hb1⟩
  have B1 := hide ((unhide B0).trans (hb1.mono (unhide B0).size))
  have N1 := hide ((hb1.block w.heap.size (unhide Z0)).trans (unhide N0))
  have Z1 : Hid (w.heap.size < w1.heap.size) := hide (by have := hb1.size; have := unhide Z0; omega)
  clear hb1 N0 CZ Z0 B0
  by_cases hneg : F < 0
  · go_wp2
    go_ret
    exact ⟨rfl, unhide B1⟩
  · have hS := (unhide HSM) (by omega)
    obtain ⟨T, hT⟩ := isTr_exists (cat L).size (cat L) (Nat.le_refl _)
    have CT := hide (fun W (x : nd_At 0 W (.slice a1 L.length c1) L) (y : mk_At 0 W (.slice a2 M.length c2) M) => toRopeI (.slice a1 L.length c1) (.slice a2 M.length c2) L M 0 W x y hS.l hS.m)
    have CS := hide (fun u1 u2 B W (x' : nd_At B W u1 L) (y : mk_At B W u2 M) => placeS u1 u2 L M T B W x' y hT hS x hxm)
    have CI := hide (fun u1 u2 B W (x' : nd_At B W u1 L) (y : mk_At B W u2 M) (z : TabD W) => placeI u1 u2 L M T B W x' y hT hS z x hxm)
    have CE := hide (fun u1 u2 u3 u4 B1 B2 W (x : nd_At B1 W u1 L) (y : mk_At B1 W u2 M) (x' : nd_At B2 W u3 L) (y' : mk_At B2 W u4 M) => eqRope2 u1 u2 u3 u4 L M B1 B2 W x y x' y' hS.l hS.m)
    clear hS hT HSM
    generalize plcAns (rgt L (nds T 0) M) (cat L) x = Q at *
    skip
    obtain ⟨n0, n1, _, _⟩ := two_cells (unhide N1)
    go_wp2_with fail
    refine ((unhide CT) _ (nd_below (unhide H1) (unhide B1)) (mk_below (unhide H2) (unhide B1))).mono ?_
    rintro e w2 ⟨q1, q2, rfl, ho2, hp2, hb2⟩
    have O2 := hide ho2
    have P2 := hide hp2
    have B2 := hide ((unhide B1).trans (hb2.mono (unhide B1).size))
    have N2 := hide ((hb2.block w.heap.size (unhide Z1)).trans (unhide N1))
    have Z2 : Hid (w.heap.size < w2.heap.size) := hide (by have := hb2.size; have := unhide Z1; omega)
    clear ho2 hp2 hb2 n0 n1 N1
    go_wp2_with fail
    refine ((unhide CS) _ _ _ _ (unhide O2) (unhide P2)).mono ?_
    rintro e w3 ⟨rfl, hb3⟩
    have B3 := hide ((unhide B2).trans (hb3.mono (unhide B2).size))
    have N3 := hide ((hb3.block w.heap.size (unhide Z2)).trans (unhide N2))
    have Z3 : Hid (w.heap.size < w3.heap.size) := hide (by have := hb3.size; have := unhide Z2; omega)
    clear hb3 CS O2 P2 N2
    obtain ⟨n0, n1, _, _⟩ := two_cells (unhide N3)
    go_wp2_with fail
    refine ((unhide CT) _ (nd_below (unhide H1) (unhide B3)) (mk_below (unhide H2) (unhide B3))).mono ?_
    rintro e w4 ⟨q3, q4, rfl, ho4, hp4, hb4⟩
    have B4 := hide ((unhide B3).trans (hb4.mono (unhide B3).size))
    have N4 := hide ((hb4.block w.heap.size (unhide Z3)).trans (unhide N3))
    have Z4 : Hid (w.heap.size < w4.heap.size) := hide (by have := hb4.size; have := unhide Z3; omega)
    have hal := (Below.refl w4.heap.size w4).alloc (Nat.le_refl _) (.cells #[.slice (some ⟨q3, 0, none⟩) L.length L.length, .slice (some ⟨q4, 0, none⟩) M.length M.length] 31)
    have B5 := hide ((unhide B4).trans (hal.mono (unhide B4).size))
    have X5 := hide (heap_new w4 (.cells #[.slice (some ⟨q3, 0, none⟩) L.length L.length, .slice (some ⟨q4, 0, none⟩) M.length M.length] 31))
    have N5 := hide ((hal.block w.heap.size (unhide Z4)).trans (unhide N4))
    have O5 := hide (nd_below ho4 hal)
    have P5 := hide (mk_below hp4 hal)
    have Z5 : Hid (w4.heap.size < (w4.alloc (.cells #[.slice (some ⟨q3, 0, none⟩) L.length L.length, .slice (some ⟨q4, 0, none⟩) M.length M.length] 31)).heap.size) := hide (by simp)
    clear ho4 hp4 hb4 hal n0 n1 N3 N4
    obtain ⟨x0, x1, _, _⟩ := two_cells (unhide X5)
    go_wp2_with fail
    generalize w4.alloc (.cells #[.slice (some ⟨q3, 0, none⟩) L.length L.length, .slice (some ⟨q4, 0, none⟩) M.length M.length] 31) = w5 at *
    refine ((unhide CI) _ _ _ _ (unhide O5) (unhide P5) ((unhide HTAB).below (unhide B5))).mono ?_
    rintro e w6 ⟨rfl, hb6⟩
    have B6 := hide ((unhide B5).trans (hb6.mono (unhide B5).size))
    have O6 := hide (nd_below (unhide O5) hb6)
    have P6 := hide (mk_below (unhide P5) hb6)
    obtain ⟨y0, y1, _, _⟩ := two_cells ((hb6.block w4.heap.size (unhide Z5)).trans (unhide X5))
    obtain ⟨n0, n1, _, _⟩ := two_cells ((hb6.block w.heap.size (by have := unhide Z5; have := unhide Z4; omega)).trans (unhide N5))
    have Z6 : Hid (w4.heap.size < w6.heap.size) := hide (by have := hb6.size; have := unhide Z5; omega)
    have Z7 : Hid (w.heap.size < w6.heap.size) := hide (by have := unhide Z6; have := unhide Z4; omega)
    clear hb6 CI x0 x1 X5 N5 O5 P5
    go_wp2_with fail
    have K6 : (fun w' : World => (w'.cell? ⟨w4.heap.size, 0, none⟩ = some (.slice (some ⟨q3, 0, none⟩) L.length L.length) ∧ w'.cell? ⟨w4.heap.size, 1, none⟩ = some (.slice (some ⟨q4, 0, none⟩) M.length M.length)) ∧ w'.cell? ⟨w.heap.size, 0, none⟩ = some (.slice a1 L.length c1) ∧ w'.cell? ⟨w.heap.size, 1, none⟩ = some (.slice a2 M.length c2)) w6 := ⟨⟨y0, y1⟩, n0, n1⟩
    refine wp_region_held_drew (S := fun w' : World => (w'.cell? ⟨w4.heap.size, 0, none⟩ = some (.slice (some ⟨q3, 0, none⟩) L.length L.length) ∧ w'.cell? ⟨w4.heap.size, 1, none⟩ = some (.slice (some ⟨q4, 0, none⟩) M.length M.length)) ∧ w'.cell? ⟨w.heap.size, 0, none⟩ = some (.slice a1 L.length c1) ∧ w'.cell? ⟨w.heap.size, 1, none⟩ = some (.slice a2 M.length c2)) (by kernel_rfl) (by first | go_keep | exact K6) (fun hHeld => ?_)
    refine tkM (i := 0) (d := some 26) (v := ?_) rfl rfl (by kernel_rfl) (by kernel_rfl) (by kernel_rfl) (fun _ _ _ h => h) (Or.inl ⟨by rfl, ?_⟩) (by assumption) ?_
    rotate_left
    · intro w hSw; (try dsimp only at hSw); go_simp; try with_reducible rfl
    try simp only [Act.put, List.setIfInBounds_toArray, List.set_cons_zero, List.set_cons_succ]
    refine tkM (i := 1) (d := some 27) (v := ?_) rfl rfl (by kernel_rfl) (by kernel_rfl) (by kernel_rfl) (fun _ _ _ h => h) (Or.inl ⟨by rfl, ?_⟩) (by assumption) ?_
    rotate_left
    · intro w hSw; (try dsimp only at hSw); go_simp; try with_reducible rfl
    try simp only [Act.put, List.setIfInBounds_toArray, List.set_cons_zero, List.set_cons_succ]
    refine wpAnyH_ready (rs := [2]) (by kernel_rfl) (by simp) (AllReadyH.cons rfl (fun Kq hK => ?_) AllReadyH.nil)
    go_simp
    go_at_call 10
    refine ((unhide CT) _ (nd_below (unhide H1) (bdrew (unhide B6) 1)) (mk_below (unhide H2) (bdrew (unhide B6) 1))).mono ?_
    rintro e w8 ⟨q5, q6, rfl, ho8, hp8, hb8⟩
    have hd8 : Below w6.heap.size w6 w8 := ((Below.refl w6.heap.size w6).trans (bdrew (Below.refl w6.heap.size w6) 1)).trans hb8
    have O8 := hide ho8
    have P8 := hide hp8
    have O68 := hide (nd_below (unhide O6) hd8)
    have P68 := hide (mk_below (unhide P6) hd8)
    have B8 := hide ((unhide B6).trans (hd8.mono (unhide B6).size))
    have K8 : (fun w' : World => (w'.cell? ⟨w4.heap.size, 0, none⟩ = some (.slice (some ⟨q3, 0, none⟩) L.length L.length) ∧ w'.cell? ⟨w4.heap.size, 1, none⟩ = some (.slice (some ⟨q4, 0, none⟩) M.length M.length)) ∧ w'.cell? ⟨w.heap.size, 0, none⟩ = some (.slice a1 L.length c1) ∧ w'.cell? ⟨w.heap.size, 1, none⟩ = some (.slice a2 M.length c2)) w8 := ⟨⟨(hd8.cell (p := ⟨w4.heap.size, 0, none⟩) (unhide Z6)).trans y0, (hd8.cell (p := ⟨w4.heap.size, 1, none⟩) (unhide Z6)).trans y1⟩, (hd8.cell (p := ⟨w.heap.size, 0, none⟩) (unhide Z7)).trans n0, (hd8.cell (p := ⟨w.heap.size, 1, none⟩) (unhide Z7)).trans n1⟩
    have hz8 := hd8.size
    clear ho8 hp8 hb8 hd8
    try go_wp2_with fail
    refine hK.out _ _ K8 (fun hHeld8 => ?_)
    clear hK Kq
    try simp only [Act.put, List.setIfInBounds_toArray, List.set_cons_zero, List.set_cons_succ]
    refine wpAnyH_ready (rs := [3]) (by kernel_rfl) (by simp) (AllReadyH.cons rfl (fun Kq hK => ?_) AllReadyH.nil)
    go_simp
    go_at_call 12
    refine ((unhide CE) _ _ _ _ _ _ _ (unhide O68) (unhide P68) (unhide O8) (unhide P8)).mono ?_
    rintro e w9 ⟨rfl, hb9⟩
    have B9 := hide ((unhide B8).trans (hb9.mono (unhide B8).size))
    have K9 : (fun w' : World => (w'.cell? ⟨w4.heap.size, 0, none⟩ = some (.slice (some ⟨q3, 0, none⟩) L.length L.length) ∧ w'.cell? ⟨w4.heap.size, 1, none⟩ = some (.slice (some ⟨q4, 0, none⟩) M.length M.length)) ∧ w'.cell? ⟨w.heap.size, 0, none⟩ = some (.slice a1 L.length c1) ∧ w'.cell? ⟨w.heap.size, 1, none⟩ = some (.slice a2 M.length c2)) w9 := ⟨⟨(hb9.cell (p := ⟨w4.heap.size, 0, none⟩) (by have := unhide Z6; show w4.heap.size < _; omega)).trans K8.1.1, (hb9.cell (p := ⟨w4.heap.size, 1, none⟩) (by have := unhide Z6; show w4.heap.size < _; omega)).trans K8.1.2⟩, (hb9.cell (p := ⟨w.heap.size, 0, none⟩) (by have := unhide Z7; show w.heap.size < _; omega)).trans K8.2.1, (hb9.cell (p := ⟨w.heap.size, 1, none⟩) (by have := unhide Z7; show w.heap.size < _; omega)).trans K8.2.2⟩
    clear hb9
    try go_wp2_with fail
    refine hK.out _ _ K9 (fun hHeld9 => ?_)
    clear hK Kq
    try simp only [Act.put, List.setIfInBounds_toArray, List.set_cons_zero, List.set_cons_succ]
    refine tkM (i := 4) (d := some 30) (v := ?_) rfl rfl (by kernel_rfl) (by kernel_rfl) (by kernel_rfl) (fun _ _ _ h => h) (Or.inl ⟨by rfl, ?_⟩) (by assumption) ?_
    rotate_left
    · intro w hSw; (try dsimp only at hSw); go_simp; try with_reducible rfl
    try simp only [Act.put, List.setIfInBounds_toArray, List.set_cons_zero, List.set_cons_succ]
    refine wpAnyH_done (by kernel_rfl) ?_ _
    go_wp2
    go_ret
    exact ⟨rfl, unhide B9⟩
end Go.Proofs.YtaipnmmlfbfcnaaDoor.Rop
