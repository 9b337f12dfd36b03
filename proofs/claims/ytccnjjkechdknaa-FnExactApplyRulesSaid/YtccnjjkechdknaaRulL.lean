/- The law of ApplyRules. -/
import Derived.Test.YtccnjjkechdknaaRulT
namespace Go.Proofs.Ytccnjjkechdknaa.Rul
open Go.RowKit
set_option linter.unusedVariables false
theorem MS.bel {w wr : World} {b N B : Nat} {Q : List (List Int)} {blk : Nat → Nat} (h : MS w wr b Q blk N) (hB : B ≤ w.heap.size) (hb : ∀ k, k < N → B ≤ blk k) : Below B w wr :=
  ⟨h.os, h.tape, h.output, h.size, fun j hj => h.out j (by omega) (fun k hk => by have := hb k hk; omega)⟩
theorem MS.gr {w wr : World} {b N B : Nat} {Q : List (List Int)} {blk : Nat → Nat} {v : Value} {m : Nat} {F : List Int} (h : MS w wr b Q blk N) (hv : FR w B v m F) (hn : ∀ j, v.ownBlock = some j → ∀ k, k < N → j ≠ blk k) : FR wr B v m F :=
  own_at hv (fun j hj => h.out j (World.ownsRow.lt hv j hj).2 (hn j hj))
theorem grown_fr {w w' : World} {r : Option Nat} {B : Nat} {v : Value} {m : Nat} {F : List Int} (h : w.grownBy w' r) (hv : FR w B v m F) (hn : ∀ j, v.ownBlock = some j → some j ≠ r) : FR w' B v m F :=
  own_at hv (fun j hj => h.block j (World.ownsRow.lt hv j hj).2 (hn j hj))
theorem own_is {q n c j : Nat} (h : (Value.slice (some ⟨q, 0, none⟩) n c).ownBlock = some j) : q = j := by
  have e : some q = some j := h
  injection e
theorem some_is {a b : Nat} (h : some a = some b) : a = b := by injection h
theorem grown_belR {w w' : World} {r : Option Nat} {B : Nat} (hg : w.grownBy w' r) (hr : ∀ k, r = some k → B ≤ k) (hB : B ≤ w.heap.size) : Below B w w' := (Below.refl _ _).grown hg hB hr
set_option maxRecDepth 100000 in
set_option maxHeartbeats 8000000 in
theorem lawApply (rv gv : Value) (n : Nat) (Q : List (List Int)) (G : List Gl) (w : World) (hr : RuI w rv n Q) (hn : n ≤ maxLen) (hs : AllB Q maxLen) (hg : GA w gv G) (hG : G.length ≤ maxLen) :
    Calls Try.prog 4 #[rv, gv] w fun e w' => e = .returned (.bool true) ∧ Below w.heap.size w w' := by
  have CZ := hide (szRules_any rv n Q w hr (by unfold maxLen at hn; omega) (fun k => by have := hs k; unfold maxLen at this; omega))
  have hG2 : G.length ≤ 9223372036854775807 := by unfold maxLen at hG; omega
  have HR := hide hr
  have HG := hide hg
  have hQ := hr.1
  obtain ⟨ra, rc, rfl, _⟩ := hr.form
  obtain ⟨ga, gc, rfl, _⟩ := hg.form
  by_cases t1 : lf 1048576 (n + szk Q n) < 0
  · generalize lf 1048576 (n + szk Q n) = R at *
    clear hr hg hQ
    go_enter Try.func4, Try.ntmps4
    go_wp2_with fail
    refine (unhide CZ).mono ?_
    rintro e w1 ⟨rfl, hb1⟩
    have B1 := hide hb1
    clear hb1
    go_wp2
    go_ret
    exact ⟨rfl, unhide B1⟩
  obtain ⟨f1, f2, f3⟩ := fits_all hQ t1
  have hR : lf 1048576 (n + szk Q n) = 1048576 - ((n + szk Q n : Nat) : Int) := lf_pos (by omega)
  obtain ⟨R, hRR⟩ : ∃ R : Int, 1048576 - ((n + szk Q n : Nat) : Int) = R := ⟨_, rfl⟩
  rw [hR, hRR] at CZ t1
  have CG := hide (fun W => szGlyphs_any ga G.length gc R (by omega) W hG2)
  by_cases t2 : lf R G.length < 0
  · generalize lf R G.length = S at *
    clear hr hg hQ hR hRR
    go_enter Try.func4, Try.ntmps4
    go_wp2_with fail
    refine (unhide CZ).mono ?_
    rintro e w1 ⟨rfl, hb1⟩
    have B1 := hide hb1
    clear hb1
    go_wp2_with fail
    refine ((unhide CG) _).mono ?_
    rintro e w2 ⟨rfl, e2⟩
    have f2 := e2.symm
    subst f2
    clear e2
    go_wp2
    go_ret
    exact ⟨rfl, unhide B1⟩
  have hS : 0 ≤ R - (G.length : Int) := by
    by_cases c : R - (G.length : Int) < 0
    · rw [lf_neg c] at t2; omega
    · omega
  have hG6 : G.length ≤ 1048576 := by omega
  have hz6 : szk Q n ≤ 1048576 := by omega
  rw [lf_pos (by omega)] at CG t2
  have CT := hide (fun W h => toRules_any (.slice ra n rc) n Q W h f1 f2)
  have CU := hide (fun W h => toGlyphs_any (.slice ga G.length gc) G W h hG6)
  have CS := hide (fun b W h hg => specA (.slice (some ⟨b, 0, none⟩) n n) n Q W.heap.size 0 G.length G.length G W h f1 f2 hg rfl hG6)
  have CS2 := hide (fun b g W h hg => specA (.slice (some ⟨b, 0, none⟩) n n) n Q g 0 G.length G.length G W h f1 f2 hg rfl hG6)
  have CI2 := hide (fun b g W h hg => implA (.slice (some ⟨b, 0, none⟩) n n) n Q g 0 G.length G.length G W h f1 f2 hg rfl hG6)
  have CE := hide (fun V1 V2 W a b => eqGlyphs_any V1 V2 (apl n Q G) W a b (by have := apl_len (n := n) (Q := Q) (G := G); omega))
  have CE2 := hide (fun V1 V2 W a b => eqGlyphs_any V1 V2 G W a b hG6)
  have CQ := hide (fun V1 V2 W a b => eqRules_any V1 V2 n Q W a b f1 f2)
  have CM := hide (fun b blk W h => markRules_any b n Q blk W h f1 f2 hz6)
  have hZl := apl_len (n := n) (Q := Q) (G := G)
  have HQ := hide hQ
  generalize apl n Q G = Z at *
  obtain ⟨z, hz⟩ : ∃ z, z = Z.length := ⟨_, rfl⟩
  have hz3 : z ≤ 1000 := by omega
  obtain ⟨s0, hs0⟩ : ∃ s0, s0 = szk Q n := ⟨_, rfl⟩
  rw [← hs0] at CM
  have hs6 : s0 ≤ 1048576 := by omega
  have HZ := hide hz
  clear hr hg hQ hR hRR hs f1 f2 f3 CS hs0 hz hz6 hZl
  have k0 : ¬ (1 + (s0 : Int) + (G.length : Int) * 5) < 0 := by omega
  have k1 : ¬ (1 + (z : Int) * 5) < 0 := by omega
  have k2 : ((1 + (z : Int) * 5) != (1 + (z : Int) * 5)) = false := by simp
  go_enter Try.func4, Try.ntmps4
  go_wp2_with fail
  refine (unhide CZ).mono ?_
  rintro e w1 ⟨rfl, hb1⟩
  have B1 := hide hb1
  clear hb1 CZ
  go_wp2_with fail
  refine ((unhide CG) _).mono ?_
  rintro e wx ⟨rfl, e2⟩
  have f2 := e2.symm
  subst f2
  clear e2 CG
  go_wp2_with fail
  refine ((unhide CT) _ ((unhide HR).below (unhide B1))).mono ?_
  rintro e w2 ⟨rfl, ⟨bl2, hc2⟩, hb2⟩
  have B2 := hide ((unhide B1).trans (hb2.mono (unhide B1).size))
  have R2 := hide (hc2.ints (unhide HQ) n)
  clear hc2 hb2 B1
  go_wp2_with fail
  refine ((unhide CU) _ ((unhide HG).below (unhide B2))).mono ?_
  rintro e w3 ⟨rfl, hg3, hb3⟩
  have B3 := hide ((unhide B2).trans (hb3.mono (unhide B2).size))
  have R3 := hide ((unhide R2).below hb3)
  have G3 := hide hg3.ga
  clear hg3 hb3 B2 R2
  go_wp2_with fail
  refine ((unhide CS2) _ _ _ (unhide R3) (unhide G3)).mono ?_
  rintro e w4 ⟨v0, rfl, hv4, hb4⟩
  have B4 := hide ((unhide B3).trans (hb4.mono (unhide B3).size))
  have V4 := hide hv4
  have N4 : Hid (∀ k, v0.ownBlock = some k → k < w4.heap.size) := hide (fun k hk => (World.ownsRow.lt hv4 k hk).2)
  clear hv4 hb4 B3 R3 G3
  go_wp2_with fail
  refine ((unhide CT) _ ((unhide HR).below (unhide B4))).mono ?_
  rintro e w5 ⟨rfl, ⟨bl, hc5⟩, hb5⟩
  have B5 := hide ((unhide B4).trans (hb5.mono (unhide B4).size))
  have X5 := hide hc5
  have V5 := hide ((unhide V4).below hb5)
  have N5 : Hid (∀ k, k < n * 4 → w4.heap.size < bl k ∧ bl k < w5.heap.size) := hide (fun k hk => by have := (hc5.row k hk).lt; omega)
  have h45 := hb5.size
  have hw4 := (unhide B4).size
  clear hc5 hb5 B4 V4
  go_wp2_with fail
  refine ((unhide CU) _ ((unhide HG).below (unhide B5))).mono ?_
  rintro e w6 ⟨rfl, hg6, hb6⟩
  have B6 := hide ((unhide B5).trans (hb6.mono (unhide B5).size))
  have X6 := hide ((unhide X5).below hb6)
  have V6 := hide ((unhide V5).below hb6)
  have Y6 := hide hg6
  have h56 : w5.heap.size < w6.heap.size := (World.ownsRow.lt hg6 w5.heap.size rfl).2
  clear hg6 hb6 B5 X5 V5
  go_wp2_with fail
  refine ((unhide CI2) _ _ _ ((unhide X6).ints (unhide HQ) n) (unhide Y6).ga).mono ?_
  rintro e w7 ⟨g, rfl, hg7, hb7⟩
  have B7 := hide ((unhide B6).trans (hb7.mono (unhide B6).size))
  have X7 := hide ((unhide X6).below hb7)
  have V7 := hide ((unhide V6).below hb7)
  have Y7 := hide ((unhide Y6).below hb7)
  have M7 := hide hg7
  have N7 : Hid (∀ k, g.ownBlock = some k → w6.heap.size ≤ k) := hide (fun k hk => (World.ownsRow.lt hg7 k hk).1)
  clear hg7 hb7 B6 X6 V6 Y6
  go_wp2_with fail
  refine ((unhide CE) _ _ _ (unhide M7).ga (unhide V7).ga).mono ?_
  rintro e w8 ⟨rfl, hb8⟩
  have B8 := hide ((unhide B7).trans (hb8.mono (unhide B7).size))
  have X8 := hide ((unhide X7).below hb8)
  have V8 := hide ((unhide V7).below hb8)
  have Y8 := hide ((unhide Y7).below hb8)
  have M8 := hide ((unhide M7).below hb8)
  clear hb8 B7 X7 V7 Y7 M7
  go_wp2_with fail
  refine ((unhide CT) _ ((unhide HR).below (unhide B8))).mono ?_
  rintro e w9 ⟨rfl, ⟨bl9, hc9⟩, hb9⟩
  have B9 := hide ((unhide B8).trans (hb9.mono (unhide B8).size))
  have X9 := hide ((unhide X8).below hb9)
  have V9 := hide ((unhide V8).below hb9)
  have Y9 := hide ((unhide Y8).below hb9)
  have M9 := hide ((unhide M8).below hb9)
  have E9 := hide (hc9.ints (unhide HQ) n)
  clear hc9 hb9 B8 X8 V8 Y8 M8
  go_wp2_with fail
  refine ((unhide CQ) _ _ _ ((unhide X9).ints (unhide HQ) n) (unhide E9)).mono ?_
  rintro e w10 ⟨rfl, hb10⟩
  have B10 := hide ((unhide B9).trans (hb10.mono (unhide B9).size))
  have X10 := hide ((unhide X9).below hb10)
  have V10 := hide ((unhide V9).below hb10)
  have Y10 := hide ((unhide Y9).below hb10)
  have M10 := hide ((unhide M9).below hb10)
  clear hb10 B9 X9 V9 Y9 M9 E9
  go_wp2_with fail
  refine ((unhide CU) _ ((unhide HG).below (unhide B10))).mono ?_
  rintro e w11 ⟨rfl, hg11, hb11⟩
  have B11 := hide ((unhide B10).trans (hb11.mono (unhide B10).size))
  have X11 := hide ((unhide X10).below hb11)
  have V11 := hide ((unhide V10).below hb11)
  have Y11 := hide ((unhide Y10).below hb11)
  have M11 := hide ((unhide M10).below hb11)
  have E11 := hide hg11.ga
  clear hg11 hb11 B10 X10 V10 Y10 M10
  go_wp2_with fail
  refine ((unhide CE2) _ _ _ (unhide Y11).ga (unhide E11)).mono ?_
  rintro e w12 ⟨rfl, hb12⟩
  have B12 := hide ((unhide B11).trans (hb12.mono (unhide B11).size))
  have X12 := hide ((unhide X11).below hb12)
  have V12 := hide ((unhide V11).below hb12)
  have Y12 := hide ((unhide Y11).below hb12)
  have M12 := hide ((unhide M11).below hb12)
  clear hb12 B11 X11 V11 Y11 M11 E11
  go_wp2_with fail
  refine ((unhide CM) _ _ _ (unhide X12)).mono ?_
  rintro e w13 ⟨rfl, ms⟩
  have B13 := hide ((unhide B12).trans (ms.bel (unhide B12).size (fun k hk => by have := (unhide N5) k hk; omega)))
  have V13 : Hid (GR w13 w3.heap.size v0 Z) := hide (ms.gr (unhide V12) (fun j hj k hk => by have a := (unhide N4) j hj; have b := (unhide N5) k hk; omega))
  have Y13 : Hid (GR w13 w5.heap.size (.slice (some ⟨w5.heap.size, 0, none⟩) G.length G.length) G) := hide (ms.gr (unhide Y12) (fun j hj k hk => by have b := (unhide N5) k hk; have a := own_is hj; omega))
  have M13 : Hid (GR w13 w6.heap.size g Z) := hide (ms.gr (unhide M12) (fun j hj k hk => by have a := (unhide N7) j hj; have b := (unhide N5) k hk; omega))
  clear ms B12 X12 V12 Y12 M12
  go_wp2_with fail
  refine (markG _ G.length _ (1 + (s0 : Int)) _ _ (by omega) hG6 (unhide Y13)).mono ?_
  rintro e w14 ⟨rfl, _, hgr⟩
  have B14 := hide ((unhide B13).trans (grown_belR hgr (fun k hk => by have a := own_is hk; omega) (unhide B13).size))
  have V14 : Hid (GR w14 w3.heap.size v0 Z) := hide (grown_fr hgr (unhide V13) (fun j hj e => by have a := (unhide N4) j hj; have b := some_is (show some j = some w5.heap.size from e); omega))
  have M14 : Hid (GR w14 w6.heap.size g Z) := hide (grown_fr hgr (unhide M13) (fun j hj e => by have a := (unhide N7) j hj; have b := some_is (show some j = some w5.heap.size from e); omega))
  clear hgr B13 V13 Y13 M13
  go_wp2_with fail
  refine ((unhide CE) _ _ _ (unhide M14).ga (unhide V14).ga).mono ?_
  rintro e w15 ⟨rfl, hb15⟩
  have B15 := hide ((unhide B14).trans (hb15.mono (unhide B14).size))
  have V15 := hide ((unhide V14).below hb15)
  have M15 : Hid (FR w15 w6.heap.size g z (flt Z)) := hide (by have := (unhide M14).below hb15; unfold GR at this; rw [← unhide HZ] at this; exact this)
  clear hb15 B14 V14 M14
  go_wp2_with fail
  refine (markG _ z _ 1 _ _ (by omega) (by omega) (unhide M15)).mono ?_
  rintro e w16 ⟨rfl, hmk, hgr⟩
  have B16 := hide ((unhide B15).trans (grown_belR hgr (fun k hk => by have a := (unhide N7) k hk; omega) (unhide B15).size))
  have V16 : Hid (GR w16 w3.heap.size v0 Z) := hide (grown_fr hgr (unhide V15) (fun j hj e => by have a := (unhide N4) j hj; have b := (unhide N7) j e.symm; omega))
  have M16 := hide hmk
  clear hmk hgr B15 V15 M15
  go_wp2_with fail
  refine (heldG _ z _ _ (by omega) (unhide M16)).mono ?_
  rintro e wy ⟨rfl, e5⟩
  have e6 := e5.symm
  subst e6
  clear e5
  go_wp2_with fail
  refine ((unhide CT) _ ((unhide HR).below (unhide B16))).mono ?_
  rintro e w17 ⟨rfl, ⟨bl17, hc17⟩, hb17⟩
  have B17 := hide ((unhide B16).trans (hb17.mono (unhide B16).size))
  have V17 := hide ((unhide V16).below hb17)
  have M17 := hide ((unhide M16).below hb17)
  have R17 := hide (hc17.ints (unhide HQ) n)
  clear hc17 hb17 B16 V16 M16
  go_wp2_with fail
  refine ((unhide CU) _ ((unhide HG).below (unhide B17))).mono ?_
  rintro e w18 ⟨rfl, hg18, hb18⟩
  have B18 := hide ((unhide B17).trans (hb18.mono (unhide B17).size))
  have V18 := hide ((unhide V17).below hb18)
  have M18 := hide ((unhide M17).below hb18)
  have R18 := hide ((unhide R17).below hb18)
  have G18 := hide hg18.ga
  clear hg18 hb18 B17 V17 M17 R17
  go_wp2_with fail
  refine ((unhide CI2) _ _ _ (unhide R18) (unhide G18)).mono ?_
  rintro e w19 ⟨h, rfl, hh, hb19⟩
  have B19 := hide ((unhide B18).trans (hb19.mono (unhide B18).size))
  have V19 := hide ((unhide V18).below hb19)
  have M19 := hide ((unhide M18).below hb19)
  have H19 := hide hh.ga
  clear hh hb19 B18 V18 M18 R18 G18
  go_wp2_with fail
  refine ((unhide CE) _ _ _ (unhide H19) (unhide V19).ga).mono ?_
  rintro e w20 ⟨rfl, hb20⟩
  have B20 := hide ((unhide B19).trans (hb20.mono (unhide B19).size))
  have M20 := hide ((unhide M19).below hb20)
  clear hb20 B19 V19 M19 H19
  go_wp2_with fail
  refine (heldG _ z _ _ (by omega) (unhide M20)).mono ?_
  rintro e wz ⟨rfl, e5⟩
  have e6 := e5.symm
  subst e6
  clear e5
  go_wp2
  go_ret
  exact ⟨rfl, unhide B20⟩
theorem lawApplyF (rv : Value) (n : Nat) (Q : List (List Int)) (gv : Value) (G : List Gl) (w : World) (hr : RuI w rv n Q) (hn : n ≤ maxLen) (hs : AllB Q maxLen) (hg : GA w gv G) (hG : G.length ≤ maxLen) :
    Calls Try.prog 4 #[rv, gv] w fun e w' => e = .returned (.bool true) ∧ Below w.heap.size w w' := lawApply rv gv n Q G w hr hn hs hg hG
end Go.Proofs.Ytccnjjkechdknaa.Rul
