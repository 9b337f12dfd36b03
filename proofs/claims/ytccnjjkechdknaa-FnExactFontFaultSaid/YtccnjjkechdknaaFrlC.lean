/- Rules that are alike; marks written into rows of rules. -/
import Derived.Test.YtccnjjkechdknaaFrlB
import Derived.Deep.RegionWith
namespace Go.Proofs.Ytccnjjkechdknaa.Frl
open Go.RowKit
set_option linter.unusedVariables false
set_option maxRecDepth 100000 in
set_option maxHeartbeats 4000000 in
theorem eqRule_any (u0 u1 u2 u3 v0 v1 v2 v3 : Value) (L0 L1 L2 L3 : List Int) (w : World) (h0 : IntsAt w u0 L0) (h1 : IntsAt w u1 L1) (h2 : IntsAt w u2 L2) (h3 : IntsAt w u3 L3) (g0 : IntsAt w v0 L0) (g1 : IntsAt w v1 L1) (g2 : IntsAt w v2 L2) (g3 : IntsAt w v3 L3)
    (l0 : L0.length ≤ 1048576) (l1 : L1.length ≤ 1048576) (l2 : L2.length ≤ 1048576) (l3 : L3.length ≤ 1048576) :
    Calls Try.prog 40 #[.agg #[u0, u1, u2, u3], .agg #[v0, v1, v2, v3]] w fun e w' => e = .returned (.bool true) ∧ Below w.heap.size w w' := by
  have C0 := hide (fun W a b => eqInts u0 v0 L0 W a b l0)
  have C1 := hide (fun W a b => eqInts u1 v1 L1 W a b l1)
  have C2 := hide (fun W a b => eqInts u2 v2 L2 W a b l2)
  have C3 := hide (fun W a b => eqInts u3 v3 L3 W a b l3)
  have H0 := hide h0
  have H1 := hide h1
  have H2 := hide h2
  have H3 := hide h3
  have G0 := hide g0
  have G1 := hide g1
  have G2 := hide g2
  have G3 := hide g3
  have B0 := hide (((Below.refl w.heap.size w).alloc (Nat.le_refl _) (.cells #[u0, u1, u2, u3] 68)).alloc (by simp) (.cells #[v0, v1, v2, v3] 68))
  have k0 : ((w.alloc (.cells #[u0, u1, u2, u3] 68)).alloc (.cells #[v0, v1, v2, v3] 68)).heap[w.heap.size]? = some (.cells #[u0, u1, u2, u3] 68 (0, 0)) := by
    rw [Below.heap_alloc _ _ _ (by simp)]
    exact heap_new w _
  have k1 : ((w.alloc (.cells #[u0, u1, u2, u3] 68)).alloc (.cells #[v0, v1, v2, v3] 68)).heap[w.heap.size + 1]? = some (.cells #[v0, v1, v2, v3] 68 (0, 0)) := by
    have := heap_new (w.alloc (.cells #[u0, u1, u2, u3] 68)) (.cells #[v0, v1, v2, v3] 68)
    simpa using this
  have hz : w.heap.size + 2 ≤ ((w.alloc (.cells #[u0, u1, u2, u3] 68)).alloc (.cells #[v0, v1, v2, v3] 68)).heap.size := by simp
  clear h0 h1 h2 h3 g0 g1 g2 g3 l0 l1 l2 l3
  go_enter Try.func40, Try.ntmps40
  go_wp2_with fail
  generalize (w.alloc (.cells #[u0, u1, u2, u3] 68)).alloc (.cells #[v0, v1, v2, v3] 68) = wa at *
  refine ((unhide C0) _ ((unhide H0).below (unhide B0)) ((unhide G0).below (unhide B0))).mono ?_
  rintro e wb ⟨rfl, hb⟩
  have k0' := (hb.block w.heap.size (by omega)).trans k0
  have k1' := (hb.block (w.heap.size + 1) (by omega)).trans k1
  have hz' : w.heap.size + 2 ≤ wb.heap.size := by have := hb.size; omega
  have B1 := hide ((unhide B0).trans (hb.mono (unhide B0).size))
  obtain ⟨⟨a0, a1, a2, a3⟩, _⟩ := four_cells k0'
  obtain ⟨⟨b0, b1, b2, b3⟩, _⟩ := four_cells k1'
  clear k0 k1 hz hb B0 C0 H0 G0
  go_wp2_with fail
  refine ((unhide C1) _ ((unhide H1).below (unhide B1)) ((unhide G1).below (unhide B1))).mono ?_
  rintro e wc ⟨rfl, hb⟩
  have k0 := (hb.block w.heap.size (by omega)).trans k0'
  have k1 := (hb.block (w.heap.size + 1) (by omega)).trans k1'
  have hz : w.heap.size + 2 ≤ wc.heap.size := by have := hb.size; omega
  have B2 := hide ((unhide B1).trans (hb.mono (unhide B1).size))
  clear a0 a1 a2 a3 b0 b1 b2 b3
  obtain ⟨⟨a0, a1, a2, a3⟩, _⟩ := four_cells k0
  obtain ⟨⟨b0, b1, b2, b3⟩, _⟩ := four_cells k1
  clear k0' k1' hz' hb B1 C1 H1 G1
  go_wp2_with fail
  refine ((unhide C2) _ ((unhide H2).below (unhide B2)) ((unhide G2).below (unhide B2))).mono ?_
  rintro e wd ⟨rfl, hb⟩
  have k0' := (hb.block w.heap.size (by omega)).trans k0
  have k1' := (hb.block (w.heap.size + 1) (by omega)).trans k1
  have B3 := hide ((unhide B2).trans (hb.mono (unhide B2).size))
  clear a0 a1 a2 a3 b0 b1 b2 b3
  obtain ⟨⟨a0, a1, a2, a3⟩, _⟩ := four_cells k0'
  obtain ⟨⟨b0, b1, b2, b3⟩, _⟩ := four_cells k1'
  clear k0 k1 hz hb B2 C2 H2 G2
  go_wp2_with fail
  refine ((unhide C3) _ ((unhide H3).below (unhide B3)) ((unhide G3).below (unhide B3))).mono ?_
  rintro e we ⟨rfl, hb⟩
  have B4 := hide ((unhide B3).trans (hb.mono (unhide B3).size))
  clear a0 a1 a2 a3 b0 b1 b2 b3 hb B3 C3 H3 G3
  go_wp2
  go_ret
  exact ⟨rfl, unhide B4⟩
theorem drew_bel (w : World) : Below w.heap.size w w.drew := ⟨rfl, rfl, rfl, Nat.le_refl _, fun _ _ => rfl⟩
set_option maxRecDepth 100000 in
set_option maxHeartbeats 8000000 in
theorem eqRules_any (v1 v2 : Value) (n : Nat) (Q : List (List Int)) (w : World) (h1 : RuI w v1 n Q) (h2 : RuI w v2 n Q) (hl : n ≤ 1048576) (hs : AllB Q 1048576) :
    Calls Try.prog 17 #[v1, v2] w fun e w' => e = .returned (.bool true) ∧ Below w.heap.size w w' := by
  obtain ⟨a1, c1, rfl, f1⟩ := h1.form
  obtain ⟨a2, c2, rfl, f2⟩ := h2.form
  have G1 := hide f1
  have G2 := hide f2
  have HS := hide hs
  clear f1 f2 hs h1 h2
  have hne : ((n : Int) != (n : Int)) = false := by simp
  go_enter Try.func17, Try.ntmps17
  go_wp2
  go_loopw [5] (fun i wr => ∃ k : Nat, k ≤ n ∧ i = .int .i64 k ∧ Hid (Below w.heap.size w wr)) (fun i _ => n - (intOf i).toNat)
  case atStart => exact ⟨0, Nat.zero_le _, rfl, hide (Below.refl _ _)⟩
  case round =>
    obtain ⟨k, hk, rfl, HB⟩ := hrel
    by_cases hlt : k < n
    · obtain ⟨b1, o1, rfl, hb1, u0, u1, u2, u3, ⟨x0, x1, x2, x3⟩, i0, i1, i2, i3⟩ := (unhide G1) k hlt
      obtain ⟨b2, o2, rfl, hb2, v0, v1, v2, v3, ⟨y0, y1, y2, y3⟩, j0, j1, j2, j3⟩ := (unhide G2) k hlt
      have d0 := ((unhide HB).cell (p := ⟨b1, o1 + k * 4, none⟩) hb1).trans x0
      have d1 := ((unhide HB).cell (p := ⟨b1, o1 + k * 4 + 1, none⟩) hb1).trans x1
      have d2 := ((unhide HB).cell (p := ⟨b1, o1 + k * 4 + 2, none⟩) hb1).trans x2
      have d3 := ((unhide HB).cell (p := ⟨b1, o1 + k * 4 + 3, none⟩) hb1).trans x3
      have e0 := ((unhide HB).cell (p := ⟨b2, o2 + k * 4, none⟩) hb2).trans y0
      have e1 := ((unhide HB).cell (p := ⟨b2, o2 + k * 4 + 1, none⟩) hb2).trans y1
      have e2 := ((unhide HB).cell (p := ⟨b2, o2 + k * 4 + 2, none⟩) hb2).trans y2
      have e3 := ((unhide HB).cell (p := ⟨b2, o2 + k * 4 + 3, none⟩) hb2).trans y3
      have bb := (unhide HB).trans ((drew_bel wr).mono (unhide HB).size)
      have CE := hide (eqRule_any u0 u1 u2 u3 v0 v1 v2 v3 (qn Q (k * 4)) (qn Q (k * 4 + 1)) (qn Q (k * 4 + 2)) (qn Q (k * 4 + 3)) wr.drew (i0.below bb) (i1.below bb) (i2.below bb) (i3.below bb) (j0.below bb) (j1.below bb) (j2.below bb) (j3.below bb) ((unhide HS) _) ((unhide HS) _) ((unhide HS) _) ((unhide HS) _))
      have hlt' : (k : Int) < (n : Int) := by omega
      have h0k : (0 : Int) ≤ (k : Int) := by omega
      clear x0 x1 x2 x3 y0 y1 y2 y3 i0 i1 i2 i3 j0 j1 j2 j3 bb
      go_wp2_with fail
      go_region_with (go_at_call 40; refine (unhide CE).mono ?_; rintro e w2 ⟨rfl, hb2⟩)
      all_goals
        have HB' := hide ((unhide HB).trans (((drew_bel wr).trans hb2).mono (unhide HB).size))
        clear hb2
        go_wp2
        go_roundw
        case rel => exact ⟨k + 1, by omega, by go_num, HB'⟩
        case measure => simp [intOf]; omega
    · go_wp2
      go_ret
      exact ⟨rfl, unhide HB⟩
theorem grown_refl (w : World) (r : Option Nat) : w.grownBy w r := ⟨rfl, rfl, rfl, Nat.le_refl _, fun _ _ _ => rfl⟩
theorem grown_set {w w' : World} {g j : Nat} {u : Value} (h : w.grownBy w' (some g)) : w.grownBy (w'.setCell ⟨g, j, none⟩ u) (some g) :=
  ⟨h.os, h.tape, h.output, by simp; exact h.size, fun k hk hne => (heap_setCell_other w' ⟨g, j, none⟩ k u (fun e => hne (by rw [e]))).trans (h.block k hk hne)⟩
/-- A row of n numbers of one's own in the block g, whatever they are. -/
def Oz (w : World) (B g n : Nat) : Prop := ∃ L : List Int, L.length = n ∧ w.ownsRow B 2 1 (.slice (some ⟨g, 0, none⟩) n n) n (L.map (Value.int .i64))
theorem Oz.at {w w' : World} {B g n : Nat} (h : Oz w B g n) (hs : w'.heap[g]? = w.heap[g]?) : Oz w' B g n := by
  obtain ⟨L, e, h⟩ := h
  exact ⟨L, e, own_at h (fun k hk => by cases hk; exact hs)⟩
theorem Oz.set {w : World} {B g n : Nat} (h : Oz w B g n) (k : Nat) (x : Int) : Oz (w.setCell ⟨g, k, none⟩ (.int .i64 x)) B g n := by
  obtain ⟨L, e, h⟩ := h
  refine ⟨L.set k x, by simp [e], ?_⟩
  rw [List.map_set]
  exact (h.stored k (.int .i64 x)).1
theorem Oz.cell {w : World} {B g n : Nat} (h : Oz w B g n) (k : Nat) (hk : k < n) : ∃ x, w.cell? ⟨g, k, none⟩ = some (.int .i64 x) ∧ w.frozen? ⟨g, k, none⟩ = false := by
  obtain ⟨L, e, h⟩ := h
  have c := h.cellAt k (by omega)
  rw [List.getElem?_map, List.getElem?_eq_getElem (by omega)] at c
  exact ⟨_, c, h.frozenAt k⟩
set_option maxHeartbeats 4000000 in
theorem markN (B g n : Nat) (m0 : Int) (w : World) (hm : 0 ≤ m0 ∧ m0 ≤ 100000000) (hn : n ≤ 1048576) (h : Oz w B g n) :
    Calls Try.prog 41 #[.slice (some ⟨g, 0, none⟩) n n, .int .i64 m0] w fun e w' => e = .returned (.int .i64 (m0 + (n : Int))) ∧ Oz w' B g n ∧ w.grownBy w' (some g) := by
  have H := hide h
  clear h
  go_enter Try.func41, Try.ntmps41
  go_wp2
  go_loopw [1, 5] (fun m i wr => ∃ k : Nat, k ≤ n ∧ i = .int .i64 k ∧ m = .int .i64 (m0 + (k : Int)) ∧ Hid (Oz wr B g n) ∧ Hid (w.grownBy wr (some g))) (fun _ i _ => n - (intOf i).toNat)
  case atStart => exact ⟨0, Nat.zero_le _, rfl, by simp, H, hide (grown_refl _ _)⟩
  case round =>
    obtain ⟨k, hk, rfl, rfl, HO, HB⟩ := hrel
    clear H
    by_cases hlt : k < n
    · have hlt' : (k : Int) < (n : Int) := by omega
      obtain ⟨x, c0, c1⟩ := (unhide HO).cell k hlt
      have HO' := hide ((unhide HO).set k (m0 + (k : Int)))
      have HB' := hide (grown_set (j := k) (u := .int .i64 (m0 + (k : Int))) (unhide HB))
      clear HO HB
      go_wp2
      go_roundw
      case rel => exact ⟨k + 1, by omega, by go_num, by go_num, HO', HB'⟩
      case measure => simp [intOf]; omega
    · obtain rfl : k = n := by omega
      go_wp2
      go_ret
      exact ⟨rfl, unhide HO, unhide HB⟩
/-- Marks in rows of rules: the rows stay rows, and nothing but them changes. -/
structure MS (w wr : World) (b : Nat) (Q : List (List Int)) (blk : Nat → Nat) (N : Nat) : Prop where
  row : ∀ k, k < N → Oz wr (b + 1) (blk k) (qn Q k).length
  os : wr.os = w.os
  tape : wr.tape = w.tape
  output : wr.output = w.output
  size : w.heap.size ≤ wr.heap.size
  out : ∀ j, j < w.heap.size → (∀ k, k < N → j ≠ blk k) → wr.heap[j]? = w.heap[j]?
theorem RuC.start {w : World} {b N : Nat} {Q : List (List Int)} {blk : Nat → Nat} (h : RuC w b Q blk N) : MS w w b Q blk N :=
  ⟨fun k hk => ⟨_, rfl, h.row k hk⟩, rfl, rfl, rfl, Nat.le_refl _, fun _ _ _ => rfl⟩
theorem Oz.lt {w : World} {B g n : Nat} (h : Oz w B g n) : B ≤ g ∧ g < w.heap.size := by
  obtain ⟨L, e, h⟩ := h
  exact World.ownsRow.lt h g rfl
theorem MS.step {w wr w2 : World} {b N k : Nat} {Q : List (List Int)} {blk : Nat → Nat} (h : MS w wr b Q blk N) (hmono : ∀ i j, i < j → j < N → blk i < blk j) (hk : k < N) (ho : Oz w2 (b + 1) (blk k) (qn Q k).length) (hg : wr.grownBy w2 (some (blk k))) : MS w w2 b Q blk N := by
  refine ⟨fun j hj => ?_, hg.os.trans h.os, hg.tape.trans h.tape, hg.output.trans h.output, Nat.le_trans h.size hg.size, fun j hj hne => ?_⟩
  · by_cases e : j = k
    · subst e; exact ho
    · have hd : blk j ≠ blk k := by
        rcases Nat.lt_or_gt_of_ne e with l | l
        · have := hmono j k l hk; omega
        · have := hmono k j l hj; omega
      exact (h.row j hj).at (hg.block (blk j) (h.row j hj).lt.2 (fun e => hd (by injection e)))
  · exact (hg.block j (Nat.lt_of_lt_of_le hj h.size) (fun e => hne k hk (by injection e))).trans (h.out j hj hne)
theorem MS.cell {w wr : World} {b N k : Nat} {Q : List (List Int)} {blk : Nat → Nat} (h : MS w wr b Q blk N) (hr : RuC w b Q blk N) (hk : k < N) : wr.cell? ⟨b, k, none⟩ = some (.slice (some ⟨blk k, 0, none⟩) (qn Q k).length (qn Q k).length) :=
  (World.cell?_of_block (a := ⟨b, k, none⟩) (h.out b hr.here (fun j hj => by have := (hr.row j hj).lt; omega))).trans (hr.cell k hk)
set_option maxRecDepth 100000 in
set_option maxHeartbeats 8000000 in
theorem markRules_any (b n : Nat) (Q : List (List Int)) (blk : Nat → Nat) (w : World) (hr : RuC w b Q blk (n * 4)) (hl : n ≤ 1048576) (hs : AllB Q 1048576) (hz : szk Q n ≤ 1048576) :
    Calls Try.prog 18 #[.slice (some ⟨b, 0, none⟩) n n, .int .i64 1] w fun e w' => e = .returned (.int .i64 (1 + (szk Q n : Int))) ∧ MS w w' b Q blk (n * 4) := by
  have HR := hide hr
  have HS := hide hs
  have S0 := hide hr.start
  have HM := hide (fun i h => szk_mono Q i n h)
  have HU := hide (fun k => (show szk Q (k + 1) = szk Q k + sz4 Q k from rfl))
  clear hr hs
  go_enter Try.func18, Try.ntmps18
  go_wp2
  go_loopw [1, 5] (fun m i wr => ∃ k : Nat, k ≤ n ∧ i = .int .i64 k ∧ m = .int .i64 (1 + (szk Q k : Int)) ∧ Hid (MS w wr b Q blk (n * 4))) (fun _ i _ => n - (intOf i).toNat)
  case atStart => exact ⟨0, Nat.zero_le _, rfl, by simp [szk], S0⟩
  case round =>
    obtain ⟨k, hk, rfl, rfl, HO⟩ := hrel
    clear S0
    by_cases hlt : k < n
    · have hlt' : (k : Int) < (n : Int) := by omega
      have hs := (unhide HU) k
      unfold sz4 at hs
      have hm := (unhide HM) (k + 1) (by omega)
      have hmo := hide (unhide HR).mono
      have K0 : k * 4 < n * 4 := by omega
      have K1 : k * 4 + 1 < n * 4 := by omega
      have K2 : k * 4 + 2 < n * 4 := by omega
      have K3 : k * 4 + 3 < n * 4 := by omega
      have P0 := hide (fun W W2 (h : MS w W b Q blk (n * 4)) a c => h.step (w2 := W2) (unhide hmo) K0 a c)
      have P1 := hide (fun W W2 (h : MS w W b Q blk (n * 4)) a c => h.step (w2 := W2) (unhide hmo) K1 a c)
      have P2 := hide (fun W W2 (h : MS w W b Q blk (n * 4)) a c => h.step (w2 := W2) (unhide hmo) K2 a c)
      have P3 := hide (fun W W2 (h : MS w W b Q blk (n * 4)) a c => h.step (w2 := W2) (unhide hmo) K3 a c)
      have E0 := hide (fun W (h : MS w W b Q blk (n * 4)) => h.cell (unhide HR) K0)
      have E1 := hide (fun W (h : MS w W b Q blk (n * 4)) => h.cell (unhide HR) K1)
      have E2 := hide (fun W (h : MS w W b Q blk (n * 4)) => h.cell (unhide HR) K2)
      have E3 := hide (fun W (h : MS w W b Q blk (n * 4)) => h.cell (unhide HR) K3)
      have R0 := hide (fun W (h : MS w W b Q blk (n * 4)) => h.row (k * 4) K0)
      have R1 := hide (fun W (h : MS w W b Q blk (n * 4)) => h.row (k * 4 + 1) K1)
      have R2 := hide (fun W (h : MS w W b Q blk (n * 4)) => h.row (k * 4 + 2) K2)
      have R3 := hide (fun W (h : MS w W b Q blk (n * 4)) => h.row (k * 4 + 3) K3)
      have l0 := (unhide HS) (k * 4)
      have l1 := (unhide HS) (k * 4 + 1)
      have l2 := (unhide HS) (k * 4 + 2)
      have l3 := (unhide HS) (k * 4 + 3)
      obtain ⟨s0, hs0⟩ : ∃ s, s = szk Q k := ⟨_, rfl⟩
      obtain ⟨s1, hs1⟩ : ∃ s, s = szk Q (k + 1) := ⟨_, rfl⟩
      rw [← hs1, ← hs0] at hs
      rw [← hs1] at hm
      rw [← hs0]
      generalize (qn Q (k * 4)).length = n0 at *
      generalize (qn Q (k * 4 + 1)).length = n1 at *
      generalize (qn Q (k * 4 + 2)).length = n2 at *
      generalize (qn Q (k * 4 + 3)).length = n3 at *
      generalize blk (k * 4) = g0 at *
      generalize blk (k * 4 + 1) = g1 at *
      generalize blk (k * 4 + 2) = g2 at *
      generalize blk (k * 4 + 3) = g3 at *
      have M0 := hide (fun W h => markN (b + 1) g0 n0 (1 + (s0 : Int)) W (by omega) l0 h)
      have M1 := hide (fun W h => markN (b + 1) g1 n1 (1 + (s0 : Int) + (n0 : Int)) W (by omega) l1 h)
      have M2 := hide (fun W h => markN (b + 1) g2 n2 (1 + (s0 : Int) + (n0 : Int) + (n1 : Int)) W (by omega) l2 h)
      have M3 := hide (fun W h => markN (b + 1) g3 n3 (1 + (s0 : Int) + (n0 : Int) + (n1 : Int) + (n2 : Int)) W (by omega) l3 h)
      have HQ : Hid (1 + (s0 : Int) + (n0 : Int) + (n1 : Int) + (n2 : Int) + (n3 : Int) = 1 + (szk Q (k + 1) : Int)) := hide (by rw [← hs1]; omega)
      have c0 := (unhide E0) _ (unhide HO)
      clear hs hs0 hs1 hm l0 l1 l2 l3 hmo
      go_wp2_with fail
      refine ((unhide M0) _ ((unhide R0) _ (unhide HO))).mono ?_
      rintro e wb ⟨rfl, oz, hg⟩
      have HO1 := hide ((unhide P0) _ _ (unhide HO) oz hg)
      have c1 := (unhide E1) _ (unhide HO1)
      clear oz hg HO c0 M0 R0 P0 E0
      go_wp2_with fail
      refine ((unhide M1) _ ((unhide R1) _ (unhide HO1))).mono ?_
      rintro e wc ⟨rfl, oz, hg⟩
      have HO2 := hide ((unhide P1) _ _ (unhide HO1) oz hg)
      have c2 := (unhide E2) _ (unhide HO2)
      clear oz hg HO1 c1 M1 R1 P1 E1
      go_wp2_with fail
      refine ((unhide M2) _ ((unhide R2) _ (unhide HO2))).mono ?_
      rintro e wd ⟨rfl, oz, hg⟩
      have HO3 := hide ((unhide P2) _ _ (unhide HO2) oz hg)
      have c3 := (unhide E3) _ (unhide HO3)
      clear oz hg HO2 c2 M2 R2 P2 E2
      go_wp2_with fail
      refine ((unhide M3) _ ((unhide R3) _ (unhide HO3))).mono ?_
      rintro e we ⟨rfl, oz, hg⟩
      have HO4 := hide ((unhide P3) _ _ (unhide HO3) oz hg)
      clear oz hg HO3 c3 M3 R3 P3 E3
      go_wp2
      go_roundw
      case rel => exact ⟨k + 1, by omega, by go_num, by rw [unhide HQ], HO4⟩
      case measure => simp [intOf]; omega
    · obtain rfl : k = n := by omega
      go_wp2
      go_ret
      exact ⟨rfl, unhide HO⟩
end Go.Proofs.Ytccnjjkechdknaa.Frl
