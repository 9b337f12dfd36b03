/- Several texts in one. -/
import Derived.Test.YtefbfffngmhjfaaDoorMR
import Derived.Test.YtefbfffngmhjfaaDoorShwK
import Derived.ProofKit
import Derived.OpenShut
import Derived.LaidMore
import Derived.Lib.LaidU8T
/- The law of ReadPasses. -/
namespace Go.Proofs.YtefbfffngmhjfaaDoor.Pas
open Go.RowKit
set_option linter.unusedVariables false
theorem rdB_props (s : ByteArray) : (rdB s).2.2.length ≤ 10 ∧ ∀ i, i < (rdB s).2.2.length → (gp (rdB s).2.2 i).1.length ≤ 100 := by
  have hnil : ([] : List Pa).length ≤ 10 ∧ ∀ i, i < ([] : List Pa).length → (gp ([] : List Pa) i).1.length ≤ 100 := ⟨by simp, fun i hi => by simp at hi⟩
  unfold rdB
  by_cases h : s.size ≤ 65536
  · rw [if_pos h]
    cases hr : rd s (s.size + 1) 0 [] 0 with
    | mk o n =>
      cases o with
      | none => rw [rdA_no hr]; exact hnil
      | some P =>
        cases hp : right P with
        | false => rw [rdA_bad hr hp]; exact hnil
        | true =>
          rw [rdA_ok hr hp]
          unfold right at hp
          rw [Bool.and_eq_true, decide_eq_true_iff] at hp
          obtain ⟨h10, hq⟩ := hp
          refine ⟨h10, fun i hi => ?_⟩
          have hk := okq_at hq hi
          unfold okP at hk
          rw [Bool.and_eq_true, Bool.and_eq_true, decide_eq_true_iff, decide_eq_true_iff] at hk
          have e : cnt P (i + 1) = cnt P i + (gp P i).1.length := rfl
          show (gp P i).1.length ≤ 100
          omega
  · rw [if_neg h]
    exact hnil
theorem num_fewR (Q : List Pa) (h : ∀ i, i < Q.length → (gp Q i).1.length ≤ 100) (k : Nat) (hk : k ≤ Q.length) : num Q k ≤ 1 + k * 501 := by
  induction k with
  | zero => simp [num]
  | succ k ih =>
    have e1 : num Q (k + 1) = num Q k + (gp Q k).1.length * 5 + 1 := rfl
    have := h k (by omega)
    have := ih (by omega)
    omega
set_option maxRecDepth 100000 in
set_option maxHeartbeats 4000000 in
theorem eqPR_any (c a : Int) (v1 v2 : Value) (P : List Pa) (B1 B2 : Nat) (w : World) (h1 : PaAt B1 w v1 P) (h2 : PaAt B2 w v2 P) (hl : P.length ≤ 1048576) (hs : ∀ i, i < P.length → (gp P i).1.length ≤ 1048576) :
    Calls Tryd.prog 6 #[.agg #[.int .i64 c, .int .i64 a, v1], .agg #[.int .i64 c, .int .i64 a, v2]] w fun e w' => e = .returned (.bool true) ∧ Below w.heap.size w w' := by
  have CE := hide (fun W g1 g2 => eqPasses_any v1 v2 P B1 B2 W g1 g2 hl hs)
  obtain ⟨a1, c1, rfl⟩ := h1.form
  obtain ⟨a2, c2, rfl⟩ := h2.form
  have B0 := hide ((al1 w (.cells #[.int .i64 c, .int .i64 a, .slice a1 P.length c1] 24)).trans ((al1 _ (.cells #[.int .i64 c, .int .i64 a, .slice a2 P.length c2] 24)).mono (by simp)))
  have H1 := hide (h1.below (unhide B0))
  have H2 := hide (h2.below (unhide B0))
  clear h1 h2 hl hs
  go_enter Tryd.func6, Tryd.ntmps6
  go_wp2_with (go_at_call 14; refine ((unhide CE) _ (unhide H1) (unhide H2)).mono ?_; rintro e w2 ⟨rfl, hb2⟩; have B2 := hide ((unhide B0).trans (hb2.mono (unhide B0).size)); clear hb2)
  go_ret
  exact ⟨rfl, unhide B2⟩
set_option maxHeartbeats 4000000 in
theorem markPR_any (lo hi : Nat) (c a : Int) (v : Value) (P : List Pa) (w : World) (hlo : lo ≤ w.heap.size) (hhi : hi ≤ w.heap.size) (hn : num P P.length ≤ 8388608) (hl : P.length ≤ 1048576) (h : PaG lo hi w v P) :
    Calls Tryd.prog 7 #[.agg #[.int .i64 c, .int .i64 a, v], .int .i64 1] w fun e w' => e = .returned (.int .i64 (num P P.length : Int)) ∧ PaG lo hi w' v (mkP P) ∧ Chg lo hi w w' := by
  have CM := hide (fun W h1 h2 => markP_any lo hi v P W h1 hn hl h2)
  obtain ⟨va, vc, rfl⟩ := h.form
  have B0 := al1 w (.cells #[.int .i64 c, .int .i64 a, .slice va P.length vc] 24)
  have H1 := hide (h.below B0)
  have hz := B0.size
  have HB := hide B0
  clear h B0
  go_enter Tryd.func7, Tryd.ntmps7
  go_wp2_with (go_at_call 15; refine ((unhide CM) _ (Nat.le_trans hlo hz) (unhide H1)).mono ?_; rintro e w2 ⟨rfl, hp2, hc2⟩; have P2 := hide hp2; have C2 := hide hc2; clear hp2 hc2)
  go_ret
  exact ⟨rfl, unhide P2, ⟨((unhide HB).mono hlo).trans (unhide C2).1, fun b h1 h2 => ((unhide C2).2 b h1 (by omega)).trans ((unhide HB).block b h2)⟩⟩
set_option maxHeartbeats 4000000 in
theorem heldPR_any (B : Nat) (c a : Int) (v : Value) (P : List Pa) (w : World) (hn : num P P.length ≤ 8388608) (hl : P.length ≤ 1048576) (h : PaAt B w v (mkP P)) :
    Calls Tryd.prog 8 #[.agg #[.int .i64 c, .int .i64 a, v], .int .i64 1] w fun e w' => e = .returned (.int .i64 (num P P.length : Int)) ∧ Below w.heap.size w w' := by
  have CH := hide (fun W h => heldP_any B v P W hn hl h)
  obtain ⟨va, vc, rfl⟩ := h.form
  have B0 := al1 w (.cells #[.int .i64 c, .int .i64 a, .slice va (mkP P).length vc] 24)
  have H1 := hide (h.below B0)
  have HB := hide B0
  have hp : ¬ ((num P P.length : Nat) : Int) < 0 := by omega
  clear h B0
  generalize num P P.length = N at *
  go_enter Tryd.func8, Tryd.ntmps8
  go_wp2_with (go_at_call 16; refine ((unhide CH) _ (unhide H1)).mono ?_; rintro e w2 ⟨rfl, hb2⟩; have B2 := hide ((unhide HB).trans (hb2.mono (unhide HB).size)); clear hb2)
  go_ret
  exact ⟨rfl, unhide B2⟩
set_option maxRecDepth 100000 in
set_option maxHeartbeats 16000000 in
theorem lawR (s : ByteArray) (w : World) (hT : Tabs w) (hN : NamAt w) :
    Calls Tryd.prog 3 #[.string s] w fun e w' => e = .returned (.bool true) ∧ Below w.heap.size w w' := by
  by_cases hs : s.size ≤ 1048576
  · have hs' : ¬ (1048576 : Int) < (s.size : Int) := by omega
    obtain ⟨ha1, ha2⟩ := rdB_props s
    have hnm : num (rdB s).2.2 (rdB s).2.2.length ≤ 8388608 := by
      have := num_fewR (rdB s).2.2 ha2 (rdB s).2.2.length (Nat.le_refl _)
      omega
    have CS := hide (specR s w hs)
    have CI := hide (fun W (hb : Below w.heap.size w W) => implR s W hs (hN.below hb) (Utf8Tabs_below hT hb))
    unfold AnsI at CS CI
    generalize rdB s = R at *
    obtain ⟨c, a, P⟩ := R
    simp only at CS CI ha1 ha2 hnm
    have hl6 : P.length ≤ 1048576 := by omega
    have CE := hide (fun V1 V2 B1 B2 W g1 g2 => eqPR_any c a V1 V2 P B1 B2 W g1 g2 hl6 (fun i hi => by have := ha2 i hi; omega))
    have CM := hide (fun lo hi V W h1 h2 h3 => markPR_any lo hi c a V P W h1 h2 hnm hl6 h3)
    have CH := hide (fun B V W h => heldPR_any B c a V P W hnm hl6 h)
    have hp : ¬ ((num P P.length : Nat) : Int) < 0 := by omega
    have hpp : (((num P P.length : Nat) : Int) != ((num P P.length : Nat) : Int)) = false := by simp
    clear ha1 ha2 hnm hl6 hT hN hs
    generalize num P P.length = N at *
    generalize hmk : mkP P = MP at *
    have HMK := hide hmk
    clear hmk
    go_enter Tryd.func3, Tryd.ntmps3
    go_wp2_with fail
    refine (unhide CS).mono ?_
    rintro e w1 ⟨hb1, v1, rfl, hg1⟩
    obtain ⟨a1, c1, rfl⟩ := hg1.form
    have hsz1 := hb1.size
    have X1 := al1 w1 (.cells #[.int .i64 c, .int .i64 a, .slice a1 P.length c1] 24)
    have hz1 : (w1.alloc (.cells #[.int .i64 c, .int .i64 a, .slice a1 P.length c1] 24)).heap.size = w1.heap.size + 1 := by simp
    have B1 := hide (hb1.trans (X1.mono hsz1))
    have V1 := hide (hg1.pa.below X1)
    have N1 := heap_new w1 (.cells #[.int .i64 c, .int .i64 a, .slice a1 P.length c1] 24)
    have HN1 := hide N1
    clear hb1 hg1 X1 N1 CS
    go_wp2_with fail
    refine ((unhide CI) _ (unhide B1)).mono ?_
    generalize (w1.alloc (.cells #[.int .i64 c, .int .i64 a, .slice a1 P.length c1] 24)) = y1 at *
    rintro e w2 ⟨hb2, v2, rfl, hg2⟩
    obtain ⟨a2, c2, rfl⟩ := hg2.form
    have hsz2 := hb2.size
    have X2 := al1 w2 (.cells #[.int .i64 c, .int .i64 a, .slice a2 P.length c2] 24)
    have hz2 : (w2.alloc (.cells #[.int .i64 c, .int .i64 a, .slice a2 P.length c2] 24)).heap.size = w2.heap.size + 1 := by simp
    have D2 := hide (hb2.trans (X2.mono hsz2))
    have G2 := hide (hg2.below X2)
    have K2 := hide (heap_new w2 (.cells #[.int .i64 c, .int .i64 a, .slice a2 P.length c2] 24))
    have hw1y : w1.heap.size < y1.heap.size := by omega
    obtain ⟨⟨m0, m1, m2⟩, _⟩ := three_cellsR (((unhide D2).block w1.heap.size hw1y).trans (unhide HN1))
    obtain ⟨⟨n0, n1, n2⟩, _⟩ := three_cellsR (unhide K2)
    clear hb2 hg2 X2
    go_wp2_with fail
    generalize (w2.alloc (.cells #[.int .i64 c, .int .i64 a, .slice a2 P.length c2] 24)) = y2 at *
    refine ((unhide CE) _ _ _ _ _ (unhide G2).pa ((unhide V1).below (unhide D2))).mono ?_
    rintro e w3 ⟨rfl, hb3⟩
    have hsz3 := hb3.size
    have D3 := hide ((unhide D2).trans (hb3.mono (by omega)))
    have G3 := hide ((unhide G2).below hb3)
    have K3 := hide ((hb3.block w2.heap.size (by omega)).trans (unhide K2))
    clear hb3 m0 m1 m2 n0 n1 n2 G2 K2 D2
    obtain ⟨⟨n0, n1, n2⟩, _⟩ := three_cellsR (unhide K3)
    go_wp2_with fail
    refine ((unhide CM) _ _ _ _ (by omega) (by omega) (unhide G3)).mono ?_
    rintro e w4 ⟨rfl, hp4, hc4⟩
    have hsz4 := hc4.1.size
    have D4 := hide ((unhide D3).trans hc4.1)
    have G4 := hide hp4
    have K4 := hide ((hc4.2 w2.heap.size (Nat.le_refl _) (by omega)).trans (unhide K3))
    clear hc4 hp4 n0 n1 n2 G3 K3 D3
    obtain ⟨⟨n0, n1, n2⟩, _⟩ := three_cellsR (unhide K4)
    go_wp2_with fail
    refine ((unhide CH) _ _ _ (unhide G4).pa).mono ?_
    rintro e w5 ⟨rfl, hb5⟩
    have hsz5 := hb5.size
    have D5 := hide ((unhide D4).trans (hb5.mono (by omega)))
    have G5 := hide ((unhide G4).below hb5)
    have K5 := hide ((hb5.block w2.heap.size (by omega)).trans (unhide K4))
    have B5 := hide ((unhide B1).trans ((unhide D5).mono (unhide B1).size))
    clear hb5 n0 n1 n2 G4 K4 D4
    go_wp2_with fail
    refine ((unhide CI) _ (unhide B5)).mono ?_
    rintro e w6 ⟨hb6, v3, rfl, hg6⟩
    obtain ⟨a3, c3, rfl⟩ := hg6.form
    have hsz6 := hb6.size
    have X6 := hb6.trans ((al1 w6 (.cells #[.int .i64 c, .int .i64 a, .slice a3 P.length c3] 24)).mono hsz6)
    have hz6 : (w6.alloc (.cells #[.int .i64 c, .int .i64 a, .slice a3 P.length c3] 24)).heap.size = w6.heap.size + 1 := by simp
    have D6 := hide ((unhide D5).trans (X6.mono (by omega)))
    have G6 := hide ((unhide G5).below X6)
    have K6 := hide ((X6.block w2.heap.size (by omega)).trans (unhide K5))
    have H6 := hide (hg6.below (al1 w6 (.cells #[.int .i64 c, .int .i64 a, .slice a3 P.length c3] 24)))
    obtain ⟨⟨m0, m1, m2⟩, _⟩ := three_cellsR (((unhide D6).block w1.heap.size hw1y).trans (unhide HN1))
    obtain ⟨⟨n0, n1, n2⟩, _⟩ := three_cellsR (heap_new w6 (.cells #[.int .i64 c, .int .i64 a, .slice a3 P.length c3] 24))
    clear hb6 hg6 X6 G5 K5 D5
    go_wp2_with fail
    generalize (w6.alloc (.cells #[.int .i64 c, .int .i64 a, .slice a3 P.length c3] 24)) = y6 at *
    refine ((unhide CE) _ _ _ _ _ (unhide H6).pa ((unhide V1).below (unhide D6))).mono ?_
    rintro e w7 ⟨rfl, hb7⟩
    have hsz7 := hb7.size
    have D7 := hide ((unhide D6).trans (hb7.mono (by omega)))
    have G7 := hide ((unhide G6).below hb7)
    have K7 := hide ((hb7.block w2.heap.size (by omega)).trans (unhide K6))
    clear hb7 m0 m1 m2 n0 n1 n2 G6 K6 D6 H6
    obtain ⟨⟨n0, n1, n2⟩, _⟩ := three_cellsR (unhide K7)
    go_wp2_with fail
    refine ((unhide CH) _ _ _ (unhide G7).pa).mono ?_
    rintro e w8 ⟨rfl, hb8⟩
    have B8 := hide ((unhide B1).trans (((unhide D7).trans (hb8.mono (by omega))).mono (unhide B1).size))
    clear hb8 n0 n1 n2 G7 K7 D7
    go_wp2
    go_ret
    exact ⟨rfl, unhide B8⟩
  · have hs' : (1048576 : Int) < (s.size : Int) := by omega
    clear hT hN
    go_enter Tryd.func3, Tryd.ntmps3
    go_wp2
    go_ret
    exact ⟨rfl, Below.refl _ _⟩
end Go.Proofs.YtefbfffngmhjfaaDoor.Pas
/- What the row's list says of the names of the forms. -/
namespace Go.Proofs.YtefbfffngmhjfaaDoor.Pas
open Go.ChangeShapes Go.WideShapes Go.ChangeAt Go.RowKit
theorem gNam : Tryd.prog.globalNamed "loop.example/g00044/impl.normNames" = some 0 := by kernel_rfl
theorem gNamType : (Tryd.prog.globals[0]?).map (·.type) = some 79 := by kernel_rfl
theorem cellsNam : Tryd.prog.cellsOf 79 = 5 := by kernel_rfl
theorem cellsStr : Tryd.prog.cellsOf 9 = 1 := by kernel_rfl
theorem laid_nam : (Rows.laid_loop_example_g00044_impl_normNames : DataW Unit) = .agg [.lit (.string [110, 111, 110, 101]), .lit (.string [68]), .lit (.string [67]), .lit (.string [75, 68]), .lit (.string [75, 67])] := by kernel_rfl
set_option maxRecDepth 100000 in
theorem namAt_of {W : World} (h : Lib.VarReads Tryd.prog W "loop.example/g00044/impl.normNames" Rows.laid_loop_example_g00044_impl_normNames) : NamAt W := by
  rw [laid_nam] at h
  obtain ⟨g', t', cs, fuel, p, hg', ht', hvar, hd⟩ := h
  obtain rfl := Option.some.inj (gNam.symm.trans hg')
  obtain rfl := Option.some.inj (gNamType.symm.trans ht')
  obtain ⟨xs, m, _, hx, hl, hn, hel⟩ := DataW.trod_array Tryd.underlying79 hd
  rw [cellsStr] at hel
  rw [cellsNam] at hl
  simp only [Prod.mk.injEq, DataW.agg.injEq] at hx
  have hmap := hx.1
  clear hx hd
  have hpos : 0 < W.heap.size := by
    unfold World.var? at hvar
    rw [hg'] at hvar
    simp only [Option.bind_some] at hvar
    cases hh : W.heap[0]? with
    | none => rw [hh] at hvar; cases hvar
    | some o => exact (Array.getElem?_eq_some_iff.1 hh).1
  refine ⟨hpos, fun i hi => ?_⟩
  have hxi := hel i (by omega)
  have hlx : i < xs.length := by omega
  rw [List.getElem?_eq_getElem hlx] at hxi
  obtain ⟨s, c0, e0, _⟩ := DataW.trod_string Tryd.underlying9 hxi
  have h1 : (xs.map (·.1))[i]? = some xs[i].1 := by simp [hlx]
  rw [← hmap, e0] at h1
  have k0 : cs.toList[i]? = some (.string s) := by
    have := congrArg (·[0]?) c0
    simpa [List.getElem?_take, List.getElem?_drop] using this
  have cell := fun j => World.var?_cell hg' hvar j
  rw [cell, ← Array.getElem?_toList, k0]
  have hs : s = nmS i := by
    have : i = 0 ∨ i = 1 ∨ i = 2 ∨ i = 3 ∨ i = 4 := by omega
    rcases this with rfl | rfl | rfl | rfl | rfl
    all_goals
      simp at h1
      apply Go.WideShapes.bytes_inj
      rw [← h1]
      rfl
  rw [hs]
end Go.Proofs.YtefbfffngmhjfaaDoor.Pas
