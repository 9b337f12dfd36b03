/- The law of FontFault. -/
import Derived.Test.YtccnjjkechdknaaFntF
namespace Go.Proofs.Ytccnjjkechdknaa.Fnt
open Go.RowKit
set_option linter.unusedVariables false
theorem FA.mk5 {w : World} {wd : Int} {LW : List Sp} {n : Nat} {Q : List (List Int)} {LK LA : List Sp} {v : Value} (h : FA w v wd LW n Q LK LA) : ∃ a1 a2 a3 a4 c1 c2 c3 c4, v = .agg #[.int .i64 wd, .slice a1 LW.length c1, .slice a2 n c2, .slice a3 LK.length c3, .slice a4 LA.length c4] := by
  obtain ⟨a1, a2, a3, a4, c1, c2, c3, c4, e, _⟩ := h.form
  exact ⟨a1, a2, a3, a4, c1, c2, c3, c4, e⟩
set_option maxRecDepth 100000 in
set_option maxHeartbeats 8000000 in
theorem lawFF (wd : Int) (a1 a2 a3 a4 : Option Addr) (c1 c2 c3 c4 : Nat) (LW : List Sp) (n : Nat) (Q : List (List Int)) (LK LA : List Sp) (w : World) (h1 : SpsAt w (.slice a1 LW.length c1) LW) (h2 : Frl.RuI w (.slice a2 n c2) n Q) (h3 : Krn.SpsAt w (.slice a3 LK.length c3) LK) (h4 : SpsAt w (.slice a4 LA.length c4) LA)
    (m1 : LW.length ≤ maxLen) (m2 : n ≤ maxLen) (m5 : Frl.AllB Q maxLen) (m3 : LK.length ≤ maxLen) (m4 : LA.length ≤ maxLen) :
    Calls Try.prog 3 #[.agg #[.int .i64 wd, .slice a1 LW.length c1, .slice a2 n c2, .slice a3 LK.length c3, .slice a4 LA.length c4]] w fun e w' => e = .returned (.bool true) ∧ Below w.heap.size w w' := by
  have bl : maxLen ≤ 9223372036854775807 := by unfold maxLen; omega
  have B0 := hide ((Below.refl w.heap.size w).alloc (Nat.le_refl _) (.cells #[.int .i64 wd, .slice a1 LW.length c1, .slice a2 n c2, .slice a3 LK.length c3, .slice a4 LA.length c4] 26))
  have Z0 := hide (Frl.heap_new w (.cells #[.int .i64 wd, .slice a1 LW.length c1, .slice a2 n c2, .slice a3 LK.length c3, .slice a4 LA.length c4] 26))
  have hw0 : w.heap.size < (w.alloc (.cells #[.int .i64 wd, .slice a1 LW.length c1, .slice a2 n c2, .slice a3 LK.length c3, .slice a4 LA.length c4] 26)).heap.size := by simp
  have CZ := hide (szFont_any wd a1 a2 a3 a4 c1 c2 c3 c4 LW n Q LK LA _ (h2.below (unhide B0)) (by omega) (by omega) (fun k => Nat.le_trans (m5 k) bl) (by omega) (by omega))
  have CT := hide (fun W (hb : Below w.heap.size w W) (hf : Fit LW n Q LK LA) => toFont_any wd _ _ _ _ LW n Q LK LA W (h1.below hb) (h2.below hb) (h3.below hb) (h4.below hb) hf.1 hf.2.1 hf.2.2.1 hf.2.2.2.1 hf.2.2.2.2)
  clear h1 h2 h3 h4 m1 m2 m3 m4 m5 bl
  go_enter Try.func3, Try.ntmps3
  go_wp2_with fail
  generalize w.alloc (.cells #[.int .i64 wd, .slice a1 LW.length c1, .slice a2 n c2, .slice a3 LK.length c3, .slice a4 LA.length c4] 26) = wa at *
  refine (unhide CZ).mono ?_
  rintro e w1 ⟨S, rfl, hS, hb1⟩
  have B1 := hide ((unhide B0).trans (hb1.mono (unhide B0).size))
  have k1 := (hb1.block w.heap.size hw0).trans (unhide Z0)
  have y1 := Nat.lt_of_lt_of_le hw0 hb1.size
  clear hb1 CZ B0 Z0
  by_cases t : S < 0
  · clear hS
    go_wp2
    go_ret
    exact ⟨rfl, unhide B1⟩
  have HF := hide (hS (by omega))
  clear hS
  have CS := hide (fun V W (h : FA W V wd LW n Q LK LA) => specFF V wd LW n Q LK LA W h (unhide HF))
  have CI := hide (fun V W (h : FA W V wd LW n Q LK LA) => implFF V wd LW n Q LK LA W h (unhide HF))
  have CE := hide (fun V1 V2 W (g1 : FA W V1 wd LW n Q LK LA) (g2 : FA W V2 wd LW n Q LK LA) => eqFont_any V1 V2 wd LW n Q LK LA W g1 g2 (unhide HF))
  generalize ff wd LW n Q LK LA = F at *
  have hFF : (F != F) = false := by simp
  obtain ⟨⟨p0, p1, p2, p3, p4⟩, _⟩ := five_cellsF k1
  go_wp2_with fail
  refine ((unhide CT) _ (unhide B1) (unhide HF)).mono ?_
  rintro e w2 ⟨v2, rfl, g2, hb2⟩
  have G2 := hide g2
  have B2 := hide ((unhide B1).trans (hb2.mono (unhide B1).size))
  have k2 := (hb2.block w.heap.size y1).trans k1
  have y2 := Nat.lt_of_lt_of_le y1 hb2.size
  clear g2 hb2 B1 k1 y1 p0 p1 p2 p3 p4
  go_wp2_with fail
  refine ((unhide CS) _ _ (unhide G2)).mono ?_
  rintro e w3 ⟨rfl, hb3⟩
  have B3 := hide ((unhide B2).trans (hb3.mono (unhide B2).size))
  have k3 := (hb3.block w.heap.size y2).trans k2
  have y3 := Nat.lt_of_lt_of_le y2 hb3.size
  obtain ⟨⟨p0, p1, p2, p3, p4⟩, _⟩ := five_cellsF k3
  clear hb3 B2 k2 y2 G2
  go_wp2_with fail
  refine ((unhide CT) _ (unhide B3) (unhide HF)).mono ?_
  rintro e w4 ⟨v4, rfl, g4, hb4⟩
  have B4 := hide ((unhide B3).trans (hb4.mono (unhide B3).size))
  have k4 := (hb4.block w.heap.size y3).trans k3
  have y4 := Nat.lt_of_lt_of_le y3 hb4.size
  obtain ⟨b1, b2, b3, b4, d1, d2, d3, d4, rfl⟩ := g4.mk5
  have G4 := hide g4
  clear g4 hb4 B3 k3 y3 p0 p1 p2 p3 p4
  have B5 := hide ((unhide B4).alloc (unhide B4).size (.cells #[.int .i64 wd, .slice b1 LW.length d1, .slice b2 n d2, .slice b3 LK.length d3, .slice b4 LA.length d4] 33))
  have n5 := Frl.heap_new w4 (.cells #[.int .i64 wd, .slice b1 LW.length d1, .slice b2 n d2, .slice b3 LK.length d3, .slice b4 LA.length d4] 33)
  have k5 := (Below.heap_alloc w4 (.cells #[.int .i64 wd, .slice b1 LW.length d1, .slice b2 n d2, .slice b3 LK.length d3, .slice b4 LA.length d4] 33) _ y4).trans k4
  have G5 := hide ((unhide G4).below ((Below.refl w4.heap.size w4).alloc (Nat.le_refl _) (.cells #[.int .i64 wd, .slice b1 LW.length d1, .slice b2 n d2, .slice b3 LK.length d3, .slice b4 LA.length d4] 33)))
  have y5 : w.heap.size < (w4.alloc (.cells #[.int .i64 wd, .slice b1 LW.length d1, .slice b2 n d2, .slice b3 LK.length d3, .slice b4 LA.length d4] 33)).heap.size := by simp; omega
  have y5' : w4.heap.size < (w4.alloc (.cells #[.int .i64 wd, .slice b1 LW.length d1, .slice b2 n d2, .slice b3 LK.length d3, .slice b4 LA.length d4] 33)).heap.size := by simp
  go_wp2_with fail
  generalize w4.alloc (.cells #[.int .i64 wd, .slice b1 LW.length d1, .slice b2 n d2, .slice b3 LK.length d3, .slice b4 LA.length d4] 33) = w5 at *
  refine ((unhide CI) _ _ (unhide G5)).mono ?_
  rintro e w6 ⟨rfl, hb6⟩
  have B6 := hide ((unhide B5).trans (hb6.mono (unhide B5).size))
  have n6 := (hb6.block w4.heap.size y5').trans n5
  have k6 := (hb6.block w.heap.size y5).trans k5
  have G6 := hide ((unhide G5).below hb6)
  have y6 := Nat.lt_of_lt_of_le y5 hb6.size
  have y6' := Nat.lt_of_lt_of_le y5' hb6.size
  clear hb6 n5 k5 k4 G5 G4 B4 B5 y5 y5' y4
  obtain ⟨⟨t0, t1, t2, t3, t4⟩, _⟩ := five_cellsF n6
  obtain ⟨⟨u0, u1, u2, u3, u4⟩, _⟩ := five_cellsF k6
  go_upto_region 10 with fail
  go_region_with (first
    | (go_at_call 7; refine ((unhide CT) _ (unhide B6).drew (unhide HF)).mono ?_; rintro e w8 ⟨v8, rfl, g8, hb8⟩; have G8 := hide g8; have G68 := hide (((unhide G6).below (drew_below w6)).below hb8); have B8 := hide ((unhide B6).drew.trans (hb8.mono (unhide B6).size)); have n8 := (hb8.block w4.heap.size y6').trans n6; obtain ⟨⟨s0, s1, s2, s3, s4⟩, _⟩ := five_cellsF n8; clear hb8 g8 n8)
    | (go_at_call 9; refine ((unhide CE) _ _ _ (unhide G68) (unhide G8)).mono ?_; rintro e w9 ⟨rfl, hb9⟩; have B9 := hide ((unhide B8).trans (hb9.mono (unhide B8).size)); clear hb9))
  all_goals
    go_wp2
    go_ret
    exact ⟨rfl, unhide B9⟩
end Go.Proofs.Ytccnjjkechdknaa.Fnt
