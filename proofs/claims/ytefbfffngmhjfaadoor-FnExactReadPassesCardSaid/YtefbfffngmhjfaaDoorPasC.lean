/- Rules and passes that are alike. -/
import Derived.Test.YtefbfffngmhjfaaDoorPasB
namespace Go.Proofs.YtefbfffngmhjfaaDoor.Pas
open Go.RowKit
set_option linter.unusedVariables false
theorem drewB (w : World) : Below w.heap.size w w.drew := ⟨rfl, rfl, rfl, Nat.le_refl _, fun _ _ => rfl⟩
set_option maxRecDepth 100000 in
set_option maxHeartbeats 2000000 in
theorem eqWr_any (r : Ru) (w : World) : Calls Tryd.prog 52 #[rv r, rv r] w fun e w' => e = .returned (.bool true) ∧ Below w.heap.size w w' := by
  obtain ⟨a, b, c, d, g⟩ := r
  unfold rv
  have hg : (g != g) = false := by simp
  go_enter Tryd.func52, Tryd.ntmps52
  go_wp2
  go_ret
  exact ⟨rfl, ((Below.refl _ _).alloc (Nat.le_refl _) _).alloc (by simp) _⟩
set_option maxRecDepth 100000 in
set_option maxHeartbeats 4000000 in
theorem eqWrs_any (v1 v2 : Value) (L : List Ru) (B1 B2 : Nat) (w : World) (h1 : RuAt B1 w v1 L) (h2 : RuAt B2 w v2 L) (hl : L.length ≤ 1048576) :
    Calls Tryd.prog 42 #[v1, v2] w fun e w' => e = .returned (.bool true) ∧ Below w.heap.size w w' := by
  obtain ⟨a1, c1, rfl, hg1⟩ := h1
  obtain ⟨a2, c2, rfl, hg2⟩ := h2
  have G1 := hide hg1
  have G2 := hide hg2
  clear hg1 hg2
  have hne : ((L.length : Int) != (L.length : Int)) = false := by simp
  go_enter Tryd.func42, Tryd.ntmps42
  go_wp2
  go_loopw [5] (fun i wr => ∃ k : Nat, k ≤ L.length ∧ i = .int .i64 k ∧ Hid (Below w.heap.size w wr)) (fun i _ => L.length - (intOf i).toNat)
  case atStart => exact ⟨0, Nat.zero_le _, rfl, hide (Below.refl _ _)⟩
  case round =>
    obtain ⟨k, hk, rfl, HB⟩ := hrel
    by_cases hlt : k < L.length
    · rcases unhide G1 with h' | ⟨b1, o1, rfl, _, hb1, hc1⟩
      · rw [h'] at hlt; simp at hlt
      rcases unhide G2 with h' | ⟨b2, o2, rfl, _, hb2, hc2⟩
      · rw [h'] at hlt; simp at hlt
      obtain ⟨d0, d1, d2, d3, d4⟩ := (hc1 k hlt).block ((unhide HB).block b1 hb1)
      obtain ⟨e0, e1, e2, e3, e4⟩ := (hc2 k hlt).block ((unhide HB).block b2 hb2)
      have CE := hide (fun W => eqWr_any (gr L k) W)
      have hlt' : (k : Int) < (L.length : Int) := by omega
      have h0k : (0 : Int) ≤ (k : Int) := by omega
      clear hc1 hc2
      generalize gr L k = r at *
      obtain ⟨ta, tb, tc, td, tg⟩ := r
      unfold rv at CE
      simp only at d0 d1 d2 d3 d4 e0 e1 e2 e3 e4 CE
      go_wp2_with fail
      go_region_with (go_at_call 52; refine ((unhide CE) _).mono ?_; rintro e w2 ⟨rfl, hb2⟩)
      all_goals
        have HB' := hide ((unhide HB).trans (((drewB wr).trans hb2).mono (unhide HB).size))
        clear hb2
        go_wp2
        go_roundw
        case rel => exact ⟨k + 1, by omega, by go_num, HB'⟩
        case measure => simp [intOf]; omega
    · go_wp2
      go_ret
      exact ⟨rfl, unhide HB⟩
set_option maxRecDepth 100000 in
set_option maxHeartbeats 2000000 in
theorem eqPass_any (u1 u2 : Value) (L : List Ru) (g : Int) (B1 B2 : Nat) (w : World) (h1 : RuAt B1 w u1 L) (h2 : RuAt B2 w u2 L) (hL : L.length ≤ 1048576) :
    Calls Tryd.prog 27 #[.agg #[u1, .int .i64 g], .agg #[u2, .int .i64 g]] w fun e w' => e = .returned (.bool true) ∧ Below w.heap.size w w' := by
  have CE := hide (fun W (g1 : RuAt B1 W u1 L) (g2 : RuAt B2 W u2 L) => eqWrs_any u1 u2 L B1 B2 W g1 g2 hL)
  have H1 := hide h1
  have H2 := hide h2
  obtain ⟨a1, c1, rfl⟩ := h1.form
  obtain ⟨a2, c2, rfl⟩ := h2.form
  clear h1 h2
  have hg : (g != g) = false := by simp
  have B0 := hide (((Below.refl w.heap.size w).alloc (Nat.le_refl _) (.cells #[.slice a1 L.length c1, .int .i64 g] 36)).alloc (by simp) (.cells #[.slice a2 L.length c2, .int .i64 g] 36))
  have k0 : ((w.alloc (.cells #[.slice a1 L.length c1, .int .i64 g] 36)).alloc (.cells #[.slice a2 L.length c2, .int .i64 g] 36)).heap[w.heap.size]? = some (.cells #[.slice a1 L.length c1, .int .i64 g] 36 (0, 0)) := by
    rw [Below.heap_alloc _ _ _ (by simp)]
    exact heap_new w _
  have k1 : ((w.alloc (.cells #[.slice a1 L.length c1, .int .i64 g] 36)).alloc (.cells #[.slice a2 L.length c2, .int .i64 g] 36)).heap[w.heap.size + 1]? = some (.cells #[.slice a2 L.length c2, .int .i64 g] 36 (0, 0)) := by
    have := heap_new (w.alloc (.cells #[.slice a1 L.length c1, .int .i64 g] 36)) (.cells #[.slice a2 L.length c2, .int .i64 g] 36)
    simpa using this
  have hz : ((w.alloc (.cells #[.slice a1 L.length c1, .int .i64 g] 36)).alloc (.cells #[.slice a2 L.length c2, .int .i64 g] 36)).heap.size = w.heap.size + 2 := by simp
  have K0 := hide k0
  have K1 := hide k1
  clear k0 k1
  go_enter Tryd.func27, Tryd.ntmps27
  go_wp2_with (go_at_call 42; refine ((unhide CE) _ ((unhide H1).below (unhide B0)) ((unhide H2).below (unhide B0))).mono ?_; rintro e w2 ⟨rfl, hb2⟩; have B2 := hide ((unhide B0).trans (hb2.mono (unhide B0).size)); obtain ⟨_, x1, _, _⟩ := two_cells ((hb2.block w.heap.size (by omega)).trans (unhide K0)); obtain ⟨_, y1, _, _⟩ := two_cells ((hb2.block (w.heap.size + 1) (by omega)).trans (unhide K1)); clear hb2)
  go_ret
  exact ⟨rfl, unhide B2⟩
set_option maxRecDepth 100000 in
set_option maxHeartbeats 4000000 in
theorem eqPasses_any (v1 v2 : Value) (P : List Pa) (B1 B2 : Nat) (w : World) (h1 : PaAt B1 w v1 P) (h2 : PaAt B2 w v2 P) (hl : P.length ≤ 1048576) (hs : ∀ i, i < P.length → (gp P i).1.length ≤ 1048576) :
    Calls Tryd.prog 14 #[v1, v2] w fun e w' => e = .returned (.bool true) ∧ Below w.heap.size w w' := by
  obtain ⟨a1, c1, rfl, hg1⟩ := h1
  obtain ⟨a2, c2, rfl, hg2⟩ := h2
  have G1 := hide hg1
  have G2 := hide hg2
  have HS := hide hs
  clear hg1 hg2 hs
  have hne : ((P.length : Int) != (P.length : Int)) = false := by simp
  go_enter Tryd.func14, Tryd.ntmps14
  go_wp2
  go_loopw [5] (fun i wr => ∃ k : Nat, k ≤ P.length ∧ i = .int .i64 k ∧ Hid (Below w.heap.size w wr)) (fun i _ => P.length - (intOf i).toNat)
  case atStart => exact ⟨0, Nat.zero_le _, rfl, hide (Below.refl _ _)⟩
  case round =>
    obtain ⟨k, hk, rfl, HB⟩ := hrel
    by_cases hlt : k < P.length
    · rcases unhide G1 with h' | ⟨b1, o1, rfl, _, hb1, hc1⟩
      · rw [h'] at hlt; simp at hlt
      rcases unhide G2 with h' | ⟨b2, o2, rfl, _, hb2, hc2⟩
      · rw [h'] at hlt; simp at hlt
      obtain ⟨u1, x1, r1, y1⟩ := hc1 k hlt
      obtain ⟨u2, x2, r2, y2⟩ := hc2 k hlt
      have d1 := ((unhide HB).cell (p := ⟨b1, o1 + k * 2, none⟩) hb1).trans x1
      have e1 := ((unhide HB).cell (p := ⟨b1, o1 + k * 2 + 1, none⟩) hb1).trans y1
      have d2 := ((unhide HB).cell (p := ⟨b2, o2 + k * 2, none⟩) hb2).trans x2
      have e2 := ((unhide HB).cell (p := ⟨b2, o2 + k * 2 + 1, none⟩) hb2).trans y2
      have I1 := hide ((r1.below (unhide HB)).below (drewB wr))
      have I2 := hide ((r2.below (unhide HB)).below (drewB wr))
      have CE := hide (fun W g1 g2 => eqPass_any u1 u2 (gp P k).1 (gp P k).2 B1 B2 W g1 g2 ((unhide HS) k hlt))
      have hlt' : (k : Int) < (P.length : Int) := by omega
      have h0k : (0 : Int) ≤ (k : Int) := by omega
      clear x1 x2 y1 y2 r1 r2 hc1 hc2
      generalize (gp P k).1 = L at *
      generalize (gp P k).2 = g at *
      go_wp2_with fail
      go_region_with (go_at_call 27; refine ((unhide CE) _ (unhide I1) (unhide I2)).mono ?_; rintro e w2 ⟨rfl, hb2⟩)
      all_goals
        have HB' := hide ((unhide HB).trans (((drewB wr).trans hb2).mono (unhide HB).size))
        clear hb2
        go_wp2
        go_roundw
        case rel => exact ⟨k + 1, by omega, by go_num, HB'⟩
        case measure => simp [intOf]; omega
    · go_wp2
      go_ret
      exact ⟨rfl, unhide HB⟩
end Go.Proofs.YtefbfffngmhjfaaDoor.Pas
