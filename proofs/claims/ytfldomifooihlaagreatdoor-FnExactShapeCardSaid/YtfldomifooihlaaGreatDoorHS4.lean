/- Several texts in one. -/
import Derived.Test.YtfldomifooihlaaGreatDoorHR1
import Derived.Test.YtfldomifooihlaaGreatDoorHF3
import Derived.Test.YtfldomifooihlaaGreatDoorShaZ
/- Marks in a font's rows: rules, spans and kerns, from any number on. -/
namespace Go.Proofs.YtfldomifooihlaaGreatDoor.Rul
open Go.RowKit
set_option linter.unusedVariables false
set_option maxRecDepth 100000 in
set_option maxHeartbeats 8000000 in
theorem markRules_m (m0 : Int) (hm0 : 0 ≤ m0 ∧ m0 ≤ 10000000) (b n : Nat) (Q : List (List Int)) (blk : Nat → Nat) (w : World) (hr : RuC w b Q blk (n * 4)) (hl : n ≤ 1048576) (hs : AllB Q 1048576) (hz : szk Q n ≤ 1048576) :
    Calls Tryz.prog 34 #[.slice (some ⟨b, 0, none⟩) n n, .int .i64 m0] w fun e w' => e = .returned (.int .i64 (m0 + (szk Q n : Int))) ∧ MS w w' b Q blk (n * 4) := by
  have HR := hide hr
  have HS := hide hs
  have S0 := hide hr.start
  have HM := hide (fun i h => szk_mono Q i n h)
  have HU := hide (fun k => (show szk Q (k + 1) = szk Q k + sz4 Q k from rfl))
  clear hr hs
  go_enter Tryz.func34, Tryz.ntmps34
  go_wp2
  go_loopw [1, 5] (fun m i wr => ∃ k : Nat, k ≤ n ∧ i = .int .i64 k ∧ m = .int .i64 (m0 + (szk Q k : Int)) ∧ Hid (MS w wr b Q blk (n * 4))) (fun _ i _ => n - (intOf i).toNat)
  case atStart => exact ⟨0, Nat.zero_le _, rfl, by simp [szk], S0⟩
  case round =>
    obtain ⟨k, hk, rfl, rfl, HO⟩ := hrel
    clear S0
    by_cases hlt : k < n
    · have hlt' : (k : Int) < (n : Int) := by omega
      have hs := (unhide HU) k
      unfold sz4 at hs
      have hm := (unhide HM) (k + 1) (by omega)
      have hmo := hide (unhide HR).mono
      have K0 : k * 4 < n * 4 := by omega
      have K1 : k * 4 + 1 < n * 4 := by omega
      have K2 : k * 4 + 2 < n * 4 := by omega
      have K3 : k * 4 + 3 < n * 4 := by omega
      have P0 := hide (fun W W2 (h : MS w W b Q blk (n * 4)) a c => h.step (w2 := W2) (unhide hmo) K0 a c)
      have P1 := hide (fun W W2 (h : MS w W b Q blk (n * 4)) a c => h.step (w2 := W2) (unhide hmo) K1 a c)
      have P2 := hide (fun W W2 (h : MS w W b Q blk (n * 4)) a c => h.step (w2 := W2) (unhide hmo) K2 a c)
      have P3 := hide (fun W W2 (h : MS w W b Q blk (n * 4)) a c => h.step (w2 := W2) (unhide hmo) K3 a c)
      have E0 := hide (fun W (h : MS w W b Q blk (n * 4)) => h.cell (unhide HR) K0)
      have E1 := hide (fun W (h : MS w W b Q blk (n * 4)) => h.cell (unhide HR) K1)
      have E2 := hide (fun W (h : MS w W b Q blk (n * 4)) => h.cell (unhide HR) K2)
      have E3 := hide (fun W (h : MS w W b Q blk (n * 4)) => h.cell (unhide HR) K3)
      have R0 := hide (fun W (h : MS w W b Q blk (n * 4)) => h.row (k * 4) K0)
      have R1 := hide (fun W (h : MS w W b Q blk (n * 4)) => h.row (k * 4 + 1) K1)
      have R2 := hide (fun W (h : MS w W b Q blk (n * 4)) => h.row (k * 4 + 2) K2)
      have R3 := hide (fun W (h : MS w W b Q blk (n * 4)) => h.row (k * 4 + 3) K3)
      have l0 := (unhide HS) (k * 4)
      have l1 := (unhide HS) (k * 4 + 1)
      have l2 := (unhide HS) (k * 4 + 2)
      have l3 := (unhide HS) (k * 4 + 3)
      obtain ⟨s0, hs0⟩ : ∃ s, s = szk Q k := ⟨_, rfl⟩
      obtain ⟨s1, hs1⟩ : ∃ s, s = szk Q (k + 1) := ⟨_, rfl⟩
      rw [← hs1, ← hs0] at hs
      rw [← hs1] at hm
      rw [← hs0]
      generalize (qn Q (k * 4)).length = n0 at *
      generalize (qn Q (k * 4 + 1)).length = n1 at *
      generalize (qn Q (k * 4 + 2)).length = n2 at *
      generalize (qn Q (k * 4 + 3)).length = n3 at *
      generalize blk (k * 4) = g0 at *
      generalize blk (k * 4 + 1) = g1 at *
      generalize blk (k * 4 + 2) = g2 at *
      generalize blk (k * 4 + 3) = g3 at *
      have M0 := hide (fun W h => markN (b + 1) g0 n0 (m0 + (s0 : Int)) W (by omega) l0 h)
      have M1 := hide (fun W h => markN (b + 1) g1 n1 (m0 + (s0 : Int) + (n0 : Int)) W (by omega) l1 h)
      have M2 := hide (fun W h => markN (b + 1) g2 n2 (m0 + (s0 : Int) + (n0 : Int) + (n1 : Int)) W (by omega) l2 h)
      have M3 := hide (fun W h => markN (b + 1) g3 n3 (m0 + (s0 : Int) + (n0 : Int) + (n1 : Int) + (n2 : Int)) W (by omega) l3 h)
      have HQ : Hid (m0 + (s0 : Int) + (n0 : Int) + (n1 : Int) + (n2 : Int) + (n3 : Int) = m0 + (szk Q (k + 1) : Int)) := hide (by rw [← hs1]; omega)
      have c0 := (unhide E0) _ (unhide HO)
      clear hs hs0 hs1 hm l0 l1 l2 l3 hmo
      go_wp2_with fail
      refine ((unhide M0) _ ((unhide R0) _ (unhide HO))).mono ?_
      rintro e wb ⟨rfl, oz, hg⟩
      have HO1 := hide ((unhide P0) _ _ (unhide HO) oz hg)
      have c1 := (unhide E1) _ (unhide HO1)
      clear oz hg HO c0 M0 R0 P0 E0
      go_wp2_with fail
      refine ((unhide M1) _ ((unhide R1) _ (unhide HO1))).mono ?_
      rintro e wc ⟨rfl, oz, hg⟩
      have HO2 := hide ((unhide P1) _ _ (unhide HO1) oz hg)
      have c2 := (unhide E2) _ (unhide HO2)
      clear oz hg HO1 c1 M1 R1 P1 E1
      go_wp2_with fail
      refine ((unhide M2) _ ((unhide R2) _ (unhide HO2))).mono ?_
      rintro e wd ⟨rfl, oz, hg⟩
      have HO3 := hide ((unhide P2) _ _ (unhide HO2) oz hg)
      have c3 := (unhide E3) _ (unhide HO3)
      clear oz hg HO2 c2 M2 R2 P2 E2
      go_wp2_with fail
      refine ((unhide M3) _ ((unhide R3) _ (unhide HO3))).mono ?_
      rintro e we ⟨rfl, oz, hg⟩
      have HO4 := hide ((unhide P3) _ _ (unhide HO3) oz hg)
      clear oz hg HO3 c3 M3 R3 P3 E3
      go_wp2
      go_roundw
      case rel => exact ⟨k + 1, by omega, by go_num, by rw [unhide HQ], HO4⟩
      case measure => simp [intOf]; omega
    · obtain rfl : k = n := by omega
      go_wp2
      go_ret
      exact ⟨rfl, unhide HO⟩
end Go.Proofs.YtfldomifooihlaaGreatDoor.Rul
namespace Go.Proofs.YtfldomifooihlaaGreatDoor
namespace Sha
open Go.RowKit
set_option linter.unusedVariables false
/-- A row of n times three numbers of one's own in the block g, whatever they are. -/
def Fz (w : World) (B : Nat) (t : TypeId) (g cap n : Nat) : Prop := ∃ l : List Int, l.length = n * 3 ∧ w.ownsRow B t 3 (.slice (some ⟨g, 0, none⟩) n cap) n (l.map (Value.int .i64))
theorem Fz.set {w : World} {B : Nat} {t : TypeId} {g cap n : Nat} (h : Fz w B t g cap n) (k : Nat) (x : Int) : Fz (w.setCell ⟨g, k, none⟩ (.int .i64 x)) B t g cap n := by
  obtain ⟨l, e, h⟩ := h
  refine ⟨l.set k x, by simp [e], ?_⟩
  rw [List.map_set]
  exact (h.stored k (.int .i64 x)).1
theorem Fz.cell {w : World} {B : Nat} {t : TypeId} {g cap n : Nat} (h : Fz w B t g cap n) (k : Nat) (hk : k < n * 3) : ∃ x, w.cell? ⟨g, k, none⟩ = some (.int .i64 x) ∧ w.frozen? ⟨g, k, none⟩ = false := by
  obtain ⟨l, e, h⟩ := h
  have c := h.cellAt k hk
  rw [List.getElem?_map, List.getElem?_eq_getElem (by omega)] at c
  exact ⟨_, c, h.frozenAt k⟩
theorem Fz.lt {w : World} {B : Nat} {t : TypeId} {g cap n : Nat} (h : Fz w B t g cap n) : B ≤ g ∧ g < w.heap.size := by
  obtain ⟨l, e, h⟩ := h
  exact World.ownsRow.lt h g rfl
set_option maxHeartbeats 4000000 in
theorem markSp (B g cap n : Nat) (m0 : Int) (w : World) (hm : 0 ≤ m0 ∧ m0 ≤ 100000000) (hn : n ≤ 1048576) (h : Fz w B 86 g cap n) :
    Calls Tryz.prog 33 #[.slice (some ⟨g, 0, none⟩) n cap, .int .i64 m0] w fun e w' => e = .returned (.int .i64 (m0 + (n : Int) * 3)) ∧ Fz w' B 86 g cap n ∧ w.grownBy w' (some g) := by
  have H := hide h
  clear h
  go_enter Tryz.func33, Tryz.ntmps33
  go_wp2
  go_loopw [1, 5] (fun m i wr => ∃ k : Nat, k ≤ n ∧ i = .int .i64 k ∧ m = .int .i64 (m0 + (k : Int) * 3) ∧ Hid (Fz wr B 86 g cap n) ∧ Hid (w.grownBy wr (some g))) (fun _ i _ => n - (intOf i).toNat)
  case atStart => exact ⟨0, Nat.zero_le _, rfl, by simp, H, hide (Rul.grown_refl _ _)⟩
  case round =>
    obtain ⟨k, hk, rfl, rfl, HO, HB⟩ := hrel
    clear H
    by_cases hlt : k < n
    · have hlt' : (k : Int) < (n : Int) := by omega
      have F1 := (unhide HO).set (k * 3) (m0 + (k : Int) * 3)
      have F2 := F1.set (k * 3 + 1) (m0 + (k : Int) * 3 + 1)
      have F3 := F2.set (k * 3 + 2) (m0 + (k : Int) * 3 + 1 + 1)
      obtain ⟨x0, p0, q0⟩ := (unhide HO).cell (k * 3) (by omega)
      obtain ⟨x1, p1, q1⟩ := F1.cell (k * 3 + 1) (by omega)
      obtain ⟨x2, p2, q2⟩ := F2.cell (k * 3 + 2) (by omega)
      have HO3 := hide F3
      have HB3 := hide (Rul.grown_set (j := k * 3 + 2) (u := .int .i64 (m0 + (k : Int) * 3 + 1 + 1)) (Rul.grown_set (j := k * 3 + 1) (u := .int .i64 (m0 + (k : Int) * 3 + 1)) (Rul.grown_set (j := k * 3) (u := .int .i64 (m0 + (k : Int) * 3)) (unhide HB))))
      clear F1 F2 F3 HO HB
      go_wp2
      go_roundw
      case rel => exact ⟨k + 1, by omega, by go_num, by go_num, HO3, HB3⟩
      case measure => simp [intOf]; omega
    · obtain rfl : k = n := by omega
      go_wp2
      go_ret
      exact ⟨rfl, unhide HO, unhide HB⟩
set_option maxHeartbeats 4000000 in
theorem markKr (B g cap n : Nat) (m0 : Int) (w : World) (hm : 0 ≤ m0 ∧ m0 ≤ 100000000) (hn : n ≤ 1048576) (h : Fz w B 75 g cap n) :
    Calls Tryz.prog 35 #[.slice (some ⟨g, 0, none⟩) n cap, .int .i64 m0] w fun e w' => e = .returned (.int .i64 (m0 + (n : Int) * 3)) ∧ Fz w' B 75 g cap n ∧ w.grownBy w' (some g) := by
  have H := hide h
  clear h
  go_enter Tryz.func35, Tryz.ntmps35
  go_wp2
  go_loopw [1, 5] (fun m i wr => ∃ k : Nat, k ≤ n ∧ i = .int .i64 k ∧ m = .int .i64 (m0 + (k : Int) * 3) ∧ Hid (Fz wr B 75 g cap n) ∧ Hid (w.grownBy wr (some g))) (fun _ i _ => n - (intOf i).toNat)
  case atStart => exact ⟨0, Nat.zero_le _, rfl, by simp, H, hide (Rul.grown_refl _ _)⟩
  case round =>
    obtain ⟨k, hk, rfl, rfl, HO, HB⟩ := hrel
    clear H
    by_cases hlt : k < n
    · have hlt' : (k : Int) < (n : Int) := by omega
      have F1 := (unhide HO).set (k * 3) (m0 + (k : Int) * 3)
      have F2 := F1.set (k * 3 + 1) (m0 + (k : Int) * 3 + 1)
      have F3 := F2.set (k * 3 + 2) (m0 + (k : Int) * 3 + 1 + 1)
      obtain ⟨x0, p0, q0⟩ := (unhide HO).cell (k * 3) (by omega)
      obtain ⟨x1, p1, q1⟩ := F1.cell (k * 3 + 1) (by omega)
      obtain ⟨x2, p2, q2⟩ := F2.cell (k * 3 + 2) (by omega)
      have HO3 := hide F3
      have HB3 := hide (Rul.grown_set (j := k * 3 + 2) (u := .int .i64 (m0 + (k : Int) * 3 + 1 + 1)) (Rul.grown_set (j := k * 3 + 1) (u := .int .i64 (m0 + (k : Int) * 3 + 1)) (Rul.grown_set (j := k * 3) (u := .int .i64 (m0 + (k : Int) * 3)) (unhide HB))))
      clear F1 F2 F3 HO HB
      go_wp2
      go_roundw
      case rel => exact ⟨k + 1, by omega, by go_num, by go_num, HO3, HB3⟩
      case measure => simp [intOf]; omega
    · obtain rfl : k = n := by omega
      go_wp2
      go_ret
      exact ⟨rfl, unhide HO, unhide HB⟩
end Sha
end Go.Proofs.YtfldomifooihlaaGreatDoor
/- What the law asks of a shaped text: alike, marked, held. -/
namespace Go.Proofs.YtfldomifooihlaaGreatDoor
namespace Sha
open Go.RowKit Fnt Rul
set_option linter.unusedVariables false
set_option linter.unusedSimpArgs false
theorem box_s (w : World) (v0 v1 v2 : Value) : (w.alloc (.cells #[v0, v1, v2] 30)).heap[w.heap.size]? = some (.cells #[v0, v1, v2] 30 (0, 0)) := Frl.heap_new w _
set_option maxRecDepth 100000 in
set_option maxHeartbeats 4000000 in
theorem eqShaped_any (x y : Int) (v1 v2 : Value) (G : List Gl) (w : World) (h1 : GA w v1 G) (h2 : GA w v2 G) (hl : G.length ≤ 1048576) :
    Calls Tryz.prog 8 #[.agg #[.int .i64 x, v1, .int .i64 y], .agg #[.int .i64 x, v2, .int .i64 y]] w fun e w' => e = .returned (.bool true) ∧ Below w.heap.size w w' := by
  have hx : (x != x) = false := by simp
  have hy : (y != y) = false := by simp
  have CE := hide (fun W a b => eqGlyphs_any v1 v2 G W a b hl)
  have H1 := hide h1
  have H2 := hide h2
  obtain ⟨a1, c1, rfl, _⟩ := h1.form
  obtain ⟨a2, c2, rfl, _⟩ := h2.form
  clear h1 h2
  obtain ⟨W0, hW0⟩ : ∃ W0, W0 = (w.alloc (.cells #[.int .i64 x, .slice a1 G.length c1, .int .i64 y] 30)).alloc (.cells #[.int .i64 x, .slice a2 G.length c2, .int .i64 y] 30) := ⟨_, rfl⟩
  have hB : Below w.heap.size w W0 := by rw [hW0]; exact ((Below.refl _ _).alloc (Nat.le_refl _) _).alloc (by simp) _
  have k1 : W0.heap[w.heap.size]? = some (.cells #[.int .i64 x, .slice a1 G.length c1, .int .i64 y] 30 (0, 0)) := by
    rw [hW0, Below.heap_alloc _ _ _ (by simp)]
    exact box_s w _ _ _
  have k2 : W0.heap[w.heap.size + 1]? = some (.cells #[.int .i64 x, .slice a2 G.length c2, .int .i64 y] 30 (0, 0)) := by
    have e : (w.alloc (.cells #[.int .i64 x, .slice a1 G.length c1, .int .i64 y] 30)).heap.size = w.heap.size + 1 := by simp
    rw [hW0, ← e]
    exact box_s _ _ _ _
  obtain ⟨⟨p0, p1, p2⟩, _⟩ := three_a k1
  obtain ⟨⟨q0, q1, q2⟩, _⟩ := three_a k2
  have z1 := (Array.getElem?_eq_some_iff.1 k1).1
  have z2 := (Array.getElem?_eq_some_iff.1 k2).1
  have HB := hide hB
  have J1 := hide ((unhide H1).below hB)
  have J2 := hide ((unhide H2).below hB)
  clear hB k1 k2 H1 H2
  go_enter Tryz.func8, Tryz.ntmps8
  go_upto_region 1 with fail
  rw [← hW0]
  clear hW0
  go_wp2_with (go_at_call 29; refine ((unhide CE) _ (unhide J1) (unhide J2)).mono ?_; rintro e w2 ⟨rfl, hb2⟩; have q2' := (hb2.cell (p := ⟨w.heap.size + 1, 2, none⟩) z2).trans q2; have p2' := (hb2.cell (p := ⟨w.heap.size, 2, none⟩) z1).trans p2; have B2 := hide ((unhide HB).trans (hb2.mono (unhide HB).size)); clear hb2)
  go_ret
  exact ⟨rfl, unhide B2⟩
set_option maxRecDepth 100000 in
set_option maxHeartbeats 4000000 in
theorem markShaped_any (x y : Int) (v : Value) (B m : Nat) (F : List Int) (w : World) (hm : m ≤ 1048576) (h : FR w B v m F) :
    Calls Tryz.prog 11 #[.agg #[.int .i64 x, v, .int .i64 y], .int .i64 1] w fun e w' => e = .returned (.int .i64 (1 + (m : Int) * 5)) ∧ FR w' B v m (mks 1 (m * 5)) ∧ w.grownBy w' v.ownBlock := by
  have CM := hide (fun W (h : FR W B v m F) => Rul.markG B m v 1 F W (by omega) hm h)
  have HF := hide (FR.below h ((Below.refl w.heap.size w).alloc (Nat.le_refl _) (.cells #[.int .i64 x, v, .int .i64 y] 30)))
  have HG := hide (World.grownBy_alloc w (.cells #[.int .i64 x, v, .int .i64 y] 30) v.ownBlock)
  have hc : ∃ a c, v = .slice a m c := by
    rcases h.2 with ⟨hv, hn⟩ | ⟨g, cap, cur, hv, _⟩
    · exact ⟨_, _, by rw [hv, hn]⟩
    · exact ⟨_, _, hv⟩
  obtain ⟨a, c, rfl⟩ := hc
  clear h
  obtain ⟨⟨p0, p1, p2⟩, _⟩ := three_a (box_s w (.int .i64 x) (.slice a m c) (.int .i64 y))
  go_enter Tryz.func11, Tryz.ntmps11
  go_upto_region 1 with fail
  generalize w.alloc (.cells #[.int .i64 x, .slice a m c, .int .i64 y] 30) = w1 at *
  go_wp2_with (go_at_call 36; refine ((unhide CM) _ (unhide HF)).mono ?_; rintro e w2 ⟨rfl, hr, hg⟩; have H2 := hide hr; have G2 := hide ((unhide HG).trans hg); clear hr hg)
  go_ret
  exact ⟨rfl, unhide H2, unhide G2⟩
set_option maxRecDepth 100000 in
set_option maxHeartbeats 4000000 in
theorem heldShaped_any (x y : Int) (v : Value) (B m : Nat) (w : World) (hm : m ≤ 1048576) (h : FR w B v m (mks 1 (m * 5))) :
    Calls Tryz.prog 12 #[.agg #[.int .i64 x, v, .int .i64 y], .int .i64 1] w fun e w' => e = .returned (.int .i64 (1 + (m : Int) * 5)) ∧ Below w.heap.size w w' := by
  have CM := hide (fun W (h : FR W B v m (mks 1 (m * 5))) => Rul.heldG B m v W hm h)
  have hB : Below w.heap.size w (w.alloc (.cells #[.int .i64 x, v, .int .i64 y] 30)) := (Below.refl w.heap.size w).alloc (Nat.le_refl _) _
  have HF := hide (FR.below h hB)
  have HB := hide hB
  have hc : ∃ a c, v = .slice a m c := by
    rcases h.2 with ⟨hv, hn⟩ | ⟨g, cap, cur, hv, _⟩
    · exact ⟨_, _, by rw [hv, hn]⟩
    · exact ⟨_, _, hv⟩
  obtain ⟨a, c, rfl⟩ := hc
  have k0 : ¬ (1 + (m : Int) * 5) < 0 := by omega
  clear h hB
  obtain ⟨⟨p0, p1, p2⟩, _⟩ := three_a (box_s w (.int .i64 x) (.slice a m c) (.int .i64 y))
  go_enter Tryz.func12, Tryz.ntmps12
  go_upto_region 1 with fail
  generalize w.alloc (.cells #[.int .i64 x, .slice a m c, .int .i64 y] 30) = w1 at *
  go_wp2_with (go_at_call 37; refine ((unhide CM) _ (unhide HF)).mono ?_; rintro e w2 ⟨rfl, hw2⟩; rw [hw2]; clear hw2 w2)
  go_ret
  exact ⟨rfl, unhide HB⟩
end Sha
end Go.Proofs.YtfldomifooihlaaGreatDoor
/- Marks in a font of one's own: nothing but its rows changes. -/
namespace Go.Proofs.YtfldomifooihlaaGreatDoor
namespace Sha
open Go.RowKit Fnt Rul
set_option linter.unusedVariables false
set_option linter.unusedSimpArgs false
theorem some_is {a b : Nat} (h : some a = some b) : a = b := by injection h
/-- Only blocks from B on and ahead of T are changed. -/
structure MB (B T : Nat) (w w' : World) : Prop where
  os : w'.os = w.os
  tape : w'.tape = w.tape
  output : w'.output = w.output
  size : w.heap.size ≤ w'.heap.size
  out : ∀ j, j < w.heap.size → (j < B ∨ T ≤ j) → w'.heap[j]? = w.heap[j]?
theorem MB.refl (B T : Nat) (w : World) : MB B T w w := ⟨rfl, rfl, rfl, Nat.le_refl _, fun _ _ _ => rfl⟩
theorem MB.below {B T : Nat} {w w1 w2 : World} (h : MB B T w w1) (hb : Below w1.heap.size w1 w2) : MB B T w w2 :=
  ⟨hb.os.trans h.os, hb.tape.trans h.tape, hb.output.trans h.output, Nat.le_trans h.size hb.size, fun j hj hc => (hb.block j (Nat.lt_of_lt_of_le hj h.size)).trans (h.out j hj hc)⟩
theorem MB.grown {B T g : Nat} {w w1 w2 : World} (h : MB B T w w1) (hg : w1.grownBy w2 (some g)) (h1 : B ≤ g) (h2 : g < T) : MB B T w w2 :=
  ⟨hg.os.trans h.os, hg.tape.trans h.tape, hg.output.trans h.output, Nat.le_trans h.size hg.size, fun j hj hc => (hg.block j (Nat.lt_of_lt_of_le hj h.size) (fun e => by have e : j = g := some_is e; omega)).trans (h.out j hj hc)⟩
theorem MB.ms {B T b N : Nat} {w w1 w2 : World} {Q : List (List Int)} {blk : Nat → Nat} (h : MB B T w w1) (hm : MS w1 w2 b Q blk N) (hb : ∀ k, k < N → B ≤ blk k ∧ blk k < T) : MB B T w w2 :=
  ⟨hm.os.trans h.os, hm.tape.trans h.tape, hm.output.trans h.output, Nat.le_trans h.size hm.size, fun j hj hc => (hm.out j (Nat.lt_of_lt_of_le hj h.size) (fun k hk e => by have := hb k hk; omega)).trans (h.out j hj hc)⟩
theorem fz_of {w : World} {B g n c : Nat} {L : List Sp} (hn : n = L.length) (h : SpRow w B (.slice (some ⟨g, 0, none⟩) n c) L) : Fz w B 86 g c n := by
  subst hn
  refine ⟨L.flatMap (fun r => [r.1, r.2.1, r.2.2]), ?_, ?_⟩
  · induction L with
    | nil => rfl
    | cons a t ih => clear ih h; induction t with
      | nil => rfl
      | cons b t ih => simp only [List.flatMap_cons, List.length_append, List.length_cons, List.length_nil] at ih ⊢; omega
  · have e : (L.flatMap (fun r => [r.1, r.2.1, r.2.2])).map (Value.int .i64) = cells L := by
      simp [cells, List.map_flatMap]
    rw [e]
    exact h
theorem fz_kr {w : World} {B g n c : Nat} {L : List Sp} (hn : n = L.length) (h : Krn.SpRow w B (.slice (some ⟨g, 0, none⟩) n c) L) : Fz w B 75 g c n := by
  subst hn
  refine ⟨L.flatMap (fun r => [r.1, r.2.1, r.2.2]), ?_, ?_⟩
  · induction L with
    | nil => rfl
    | cons a t ih => clear ih h; induction t with
      | nil => rfl
      | cons b t ih => simp only [List.flatMap_cons, List.length_append, List.length_cons, List.length_nil] at ih ⊢; omega
  · have e : (L.flatMap (fun r => [r.1, r.2.1, r.2.2])).map (Value.int .i64) = Krn.cells L := by
      simp [Krn.cells, List.map_flatMap]
    rw [e]
    exact h
theorem Fz.at {w w' : World} {B : Nat} {t : TypeId} {g cap n : Nat} (h : Fz w B t g cap n) (hs : w'.heap[g]? = w.heap[g]?) : Fz w' B t g cap n := by
  obtain ⟨l, e, h⟩ := h
  exact ⟨l, e, own_at h (fun k hk => by cases hk; exact hs)⟩
theorem ruc_at {w w' : World} {b N : Nat} {Q : List (List Int)} {blk : Nat → Nat} (h : RuC w b Q blk N) (hs : ∀ j, b ≤ j → (j = b ∨ ∃ k, k < N ∧ j = blk k) → w'.heap[j]? = w.heap[j]?) (hz : w.heap.size ≤ w'.heap.size) : RuC w' b Q blk N :=
  ⟨fun k hk => (World.cell?_of_block (a := ⟨b, k, none⟩) (hs b (Nat.le_refl _) (.inl rfl))).trans (h.cell k hk), fun k hk => (h.row k hk).at (hs (blk k) (by have := (h.row k hk).lt; omega) (.inr ⟨k, hk, rfl⟩)), h.mono, Nat.lt_of_lt_of_le h.here hz⟩
theorem ruc_of {w : World} {b N : Nat} {Q : List (List Int)} {blk : Nat → Nat} (h : Frl.RuC w b Q blk N) : RuC w b Q blk N := ⟨h.cell, h.row, h.mono, h.here⟩
theorem szk_eq (Q : List (List Int)) (n : Nat) : Rul.szk Q n = Frl.szk Q n := by
  induction n with
  | zero => rfl
  | succ n ih =>
    show Rul.szk Q n + Rul.sz4 Q n = Frl.szk Q n + Frl.sz4 Q n
    rw [ih]
    rfl
set_option maxRecDepth 100000 in
set_option maxHeartbeats 8000000 in
theorem markFont_any (v : Value) (wd : Int) (LW : List Sp) (n : Nat) (Q : List (List Int)) (LK LA : List Sp) (B : Nat) (w5 w : World) (h5 : FO w5 B v wd LW n Q LK LA) (hb : Below w5.heap.size w5 w) (hf : Fit LW n Q LK LA) (hz : Frl.szk Q n ≤ 1048576) :
    Calls Tryz.prog 10 #[v, .int .i64 1] w fun e w' => ∃ k : Int, e = .returned (.int .i64 k) ∧ 0 ≤ k ∧ MB B w5.heap.size w w' := by
  obtain ⟨q1, q2, q3, q4, blk, rfl, hQ, h1, h2, hq, h3, h4, r1, r2, r3, r4⟩ := h5
  obtain ⟨l1, l2, l5, l3, l4⟩ := hf
  rw [← szk_eq] at hz
  have t4 := (World.ownsRow.lt h4 q4 rfl).2
  have g1 := (World.ownsRow.lt h1 q1 rfl).1
  have Z1 := fz_of rfl h1
  have Z3 := fz_kr rfl h3
  have Z4 := fz_of rfl h4
  have Z2 := ruc_of h2
  have hw := hb.size
  obtain ⟨W0, hW0⟩ : ∃ W0, W0 = w.alloc (.cells #[.int .i64 wd, .slice (some ⟨q1, 0, none⟩) LW.length LW.length, .slice (some ⟨q2, 0, none⟩) n n, .slice (some ⟨q3, 0, none⟩) LK.length LK.length, .slice (some ⟨q4, 0, none⟩) LA.length LA.length] 36) := ⟨_, rfl⟩
  have bw : Below w.heap.size w W0 := by rw [hW0]; exact (Below.refl _ _).alloc (Nat.le_refl _) _
  have kb : W0.heap[w.heap.size]? = some (.cells #[.int .i64 wd, .slice (some ⟨q1, 0, none⟩) LW.length LW.length, .slice (some ⟨q2, 0, none⟩) n n, .slice (some ⟨q3, 0, none⟩) LK.length LK.length, .slice (some ⟨q4, 0, none⟩) LA.length LA.length] 36 (0, 0)) := by rw [hW0]; exact Frl.heap_new w _
  have hs : ∀ j, j < w5.heap.size → W0.heap[j]? = w5.heap[j]? := fun j hj => (bw.block j (by omega)).trans (hb.block j hj)
  have hW : w.heap.size < W0.heap.size := (Array.getElem?_eq_some_iff.1 kb).1
  have Y1 := hide (Z1.at (hs q1 (by omega)))
  have Y3 := hide (Z3.at (hs q3 (by omega)))
  have Y4 := hide (Z4.at (hs q4 (by omega)))
  have Y2 := hide (ruc_at Z2 (fun j _ hc => hs j (by rcases hc with e | ⟨k, hk, e⟩; (omega); (have := r2 k hk; omega))) (by omega))
  have M0 := hide ((MB.refl B w5.heap.size w).below bw)
  have C1 := hide (fun W (h : Fz W B 86 q1 LW.length LW.length) => markSp B q1 LW.length LW.length 1 W (by omega) l1 h)
  have C2 := hide (fun W (h : RuC W q2 Q blk (n * 4)) => markRules_m (1 + (LW.length : Int) * 3) (by omega) q2 n Q blk W h l2 l5 hz)
  have C3 := hide (fun W (h : Fz W B 75 q3 LK.length LK.length) => markKr B q3 LK.length LK.length (1 + (LW.length : Int) * 3 + (szk Q n : Int)) W (by omega) l3 h)
  have C4 := hide (fun W (h : Fz W B 86 q4 LA.length LA.length) => markSp B q4 LA.length LA.length (1 + (LW.length : Int) * 3 + (szk Q n : Int) + (LK.length : Int) * 3) W (by omega) l4 h)
  have KB := hide kb
  have R2 := hide r2
  have hpos : (0 : Int) ≤ 1 + (LW.length : Int) * 3 + (szk Q n : Int) + (LK.length : Int) * 3 + (LA.length : Int) * 3 := by omega
  obtain ⟨⟨p0, p1, p2, p3, p4⟩, _⟩ := five_cellsF kb
  obtain ⟨T, hT⟩ : ∃ T, T = w5.heap.size := ⟨_, rfl⟩
  rw [← hT] at t4 hw M0 ⊢
  clear h1 h2 h3 h4 Z1 Z2 Z3 Z4 hb bw kb hs hT r2
  generalize szk Q n = z at *
  go_enter Tryz.func10, Tryz.ntmps10
  go_upto_region 1 with fail
  rw [← hW0]
  clear hW0
  go_wp2_with fail
  refine ((unhide C1) _ (unhide Y1)).mono ?_
  rintro e w1 ⟨rfl, _, hg⟩
  have hz1 := hg.size
  have KB1 := hide ((hg.block w.heap.size hW (fun e => by have := some_is e; omega)).trans (unhide KB))
  have M1 := hide ((unhide M0).grown hg g1 (by omega))
  have X3 := hide ((unhide Y3).at (hg.block q3 (by omega) (fun e => by have := some_is e; omega)))
  have X4 := hide ((unhide Y4).at (hg.block q4 (by omega) (fun e => by have := some_is e; omega)))
  have X2 := hide (ruc_at (unhide Y2) (fun j hj hc => hg.block j (by rcases hc with e | ⟨k, hk, e⟩; (omega); (have := (unhide R2) k hk; omega)) (fun e => by have := some_is e; omega)) hg.size)
  obtain ⟨⟨p0, p1, p2, p3, p4⟩, _⟩ := five_cellsF (unhide KB1)
  clear hg Y1 Y2 Y3 Y4 M0 KB C1
  go_wp2_with fail
  refine ((unhide C2) _ (unhide X2)).mono ?_
  rintro e w2 ⟨rfl, hm⟩
  have hz2 := hm.size
  have KB2 := hide ((hm.out w.heap.size (by omega) (fun k hk => by have := (unhide R2) k hk; omega)).trans (unhide KB1))
  have M2 := hide ((unhide M1).ms hm (fun k hk => by have := (unhide R2) k hk; omega))
  have V3 := hide ((unhide X3).at (hm.out q3 (by omega) (fun k hk => by have := (unhide R2) k hk; omega)))
  have V4 := hide ((unhide X4).at (hm.out q4 (by omega) (fun k hk => by have := (unhide R2) k hk; omega)))
  obtain ⟨⟨p0, p1, p2, p3, p4⟩, _⟩ := five_cellsF (unhide KB2)
  clear hm X2 X3 X4 M1 KB1 C2
  go_wp2_with fail
  refine ((unhide C3) _ (unhide V3)).mono ?_
  rintro e w3 ⟨rfl, _, hg⟩
  have hz3 := hg.size
  have KB3 := hide ((hg.block w.heap.size (by omega) (fun e => by have := some_is e; omega)).trans (unhide KB2))
  have M3 := hide ((unhide M2).grown hg (by omega) (by omega))
  have U4 := hide ((unhide V4).at (hg.block q4 (by omega) (fun e => by have := some_is e; omega)))
  obtain ⟨⟨p0, p1, p2, p3, p4⟩, _⟩ := five_cellsF (unhide KB3)
  clear hg V3 V4 M2 KB2 C3
  go_wp2_with fail
  refine ((unhide C4) _ (unhide U4)).mono ?_
  rintro e w4 ⟨rfl, _, hg⟩
  have M4 := hide ((unhide M3).grown hg (by omega) t4)
  clear hg U4 M3 KB3 C4
  go_wp2
  go_ret
  exact ⟨_, rfl, hpos, unhide M4⟩
end Sha
end Go.Proofs.YtfldomifooihlaaGreatDoor
