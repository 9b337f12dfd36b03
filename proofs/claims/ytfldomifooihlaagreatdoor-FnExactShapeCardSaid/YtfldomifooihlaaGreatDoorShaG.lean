/- The law of Shape. -/
import Derived.Test.YtfldomifooihlaaGreatDoorHS4
namespace Go.Proofs.YtfldomifooihlaaGreatDoor
namespace Sha
open Go.RowKit Fnt Rul
set_option linter.unusedVariables false
set_option linter.unusedSimpArgs false
theorem shp_len (wd : Int) (LW : List Sp) (n : Nat) (Q : List (List Int)) (LK LA : List Sp) (s : ByteArray) : (shp wd LW n Q LK LA s).2.1.length ≤ 1000 := by
  unfold shp
  split
  · simp
  · split
    · split
      · simp
      · rename_i h
        show (run _ _ _).1.length ≤ 1000
        rw [run_len]
        omega
    · simp
/-- What the law has laid: the argument's box, what the specification tells, the font's copy, what the program tells. -/
structure Lb (w wr : World) (b6 b7 b8 : Nat) (ac fc : Array Value) (C X : Int) (v0 g : Value) : Prop where
  bel : Below w.heap.size w wr
  box : wr.heap[w.heap.size]? = some (.cells ac 26 (0, 0))
  k6 : wr.heap[b6]? = some (.cells #[.int .i64 C, v0, .int .i64 X] 30 (0, 0))
  k7 : wr.heap[b7]? = some (.cells fc 36 (0, 0))
  k8 : wr.heap[b8]? = some (.cells #[.int .i64 C, g, .int .i64 X] 30 (0, 0))
theorem Lb.below {w wr w2 : World} {b6 b7 b8 : Nat} {ac fc : Array Value} {C X : Int} {v0 g : Value} (h : Lb w wr b6 b7 b8 ac fc C X v0 g) (hb : Below wr.heap.size wr w2) : Lb w w2 b6 b7 b8 ac fc C X v0 g :=
  ⟨h.bel.trans (hb.mono h.bel.size), (hb.block _ (Array.getElem?_eq_some_iff.1 h.box).1).trans h.box, (hb.block _ (Array.getElem?_eq_some_iff.1 h.k6).1).trans h.k6, (hb.block _ (Array.getElem?_eq_some_iff.1 h.k7).1).trans h.k7, (hb.block _ (Array.getElem?_eq_some_iff.1 h.k8).1).trans h.k8⟩
theorem Lb.mb {w wr w2 : World} {b6 b7 b8 B T : Nat} {ac fc : Array Value} {C X : Int} {v0 g : Value} (h : Lb w wr b6 b7 b8 ac fc C X v0 g) (hm : MB B T wr w2) (h0 : w.heap.size < B) (h6 : b6 < B) (h7 : T ≤ b7) (h8 : T ≤ b8) : Lb w w2 b6 b7 b8 ac fc C X v0 g :=
  ⟨h.bel.trans ⟨hm.os, hm.tape, hm.output, hm.size, fun j hj => hm.out j (Nat.lt_of_lt_of_le hj h.bel.size) (.inl (by omega))⟩, (hm.out _ (Array.getElem?_eq_some_iff.1 h.box).1 (.inl h0)).trans h.box, (hm.out _ (Array.getElem?_eq_some_iff.1 h.k6).1 (.inl h6)).trans h.k6, (hm.out _ (Array.getElem?_eq_some_iff.1 h.k7).1 (.inr h7)).trans h.k7, (hm.out _ (Array.getElem?_eq_some_iff.1 h.k8).1 (.inr h8)).trans h.k8⟩
theorem Lb.grown {w wr w2 : World} {b6 b7 b8 : Nat} {ac fc : Array Value} {C X : Int} {v0 g : Value} {r : Option Nat} (h : Lb w wr b6 b7 b8 ac fc C X v0 g) (hm : wr.grownBy w2 r) (hr : ∀ j, r = some j → w.heap.size < j ∧ j ≠ b6 ∧ j ≠ b7 ∧ j ≠ b8) : Lb w w2 b6 b7 b8 ac fc C X v0 g :=
  ⟨h.bel.grown hm h.bel.size (fun k hk => by have := hr k hk; omega), (hm.block _ (Array.getElem?_eq_some_iff.1 h.box).1 (fun e => by have := hr _ e.symm; omega)).trans h.box, (hm.block _ (Array.getElem?_eq_some_iff.1 h.k6).1 (fun e => by have := hr _ e.symm; omega)).trans h.k6, (hm.block _ (Array.getElem?_eq_some_iff.1 h.k7).1 (fun e => by have := hr _ e.symm; omega)).trans h.k7, (hm.block _ (Array.getElem?_eq_some_iff.1 h.k8).1 (fun e => by have := hr _ e.symm; omega)).trans h.k8⟩
theorem fr_mb {w w2 : World} {B T B2 m : Nat} {v : Value} {F : List Int} (h : FR w B2 v m F) (hm : MB B T w w2) (hv : ∀ j, v.ownBlock = some j → j < B ∨ T ≤ j) : FR w2 B2 v m F :=
  own_at h (fun j hj => hm.out j (World.ownsRow.lt h j hj).2 (hv j hj))
theorem fr_gr {w w2 : World} {r : Option Nat} {B2 m : Nat} {v : Value} {F : List Int} (h : FR w B2 v m F) (hm : w.grownBy w2 r) (hv : ∀ j, v.ownBlock = some j → some j ≠ r) : FR w2 B2 v m F :=
  own_at h (fun j hj => hm.block j (World.ownsRow.lt h j hj).2 (hv j hj))
theorem fr_form {w : World} {B m : Nat} {v : Value} {F : List Int} (h : FR w B v m F) : ∃ a c, v = .slice a m c := by
  rcases h.2 with ⟨hv, hn⟩ | ⟨g, cap, cur, hv, _⟩
  · exact ⟨_, _, by rw [hv, hn]⟩
  · exact ⟨_, _, hv⟩
set_option maxRecDepth 100000 in
set_option maxHeartbeats 16000000 in
theorem lawShape (wd : Int) (a1 a2 a3 a4 : Option Addr) (c1 c2 c3 c4 : Nat) (LW : List Sp) (n : Nat) (Q : List (List Int)) (LK LA : List Sp) (s : ByteArray) (w : World) (ht : TabAt w) (h1 : SpsAt w (.slice a1 LW.length c1) LW) (h2 : Frl.RuI w (.slice a2 n c2) n Q) (h3 : Krn.SpsAt w (.slice a3 LK.length c3) LK) (h4 : SpsAt w (.slice a4 LA.length c4) LA)
    (m1 : LW.length ≤ maxLen) (m2 : n ≤ maxLen) (m5 : Frl.AllB Q maxLen) (m3 : LK.length ≤ maxLen) (m4 : LA.length ≤ maxLen) :
    Calls Tryz.prog 3 #[.agg #[.int .i64 wd, .slice a1 LW.length c1, .slice a2 n c2, .slice a3 LK.length c3, .slice a4 LA.length c4], .string s] w fun e w' => e = .returned (.bool true) ∧ Below w.heap.size w w' := by
  have B0 := hide ((Below.refl w.heap.size w).alloc (Nat.le_refl _) (.cells #[.int .i64 wd, .slice a1 LW.length c1, .slice a2 n c2, .slice a3 LK.length c3, .slice a4 LA.length c4] 26))
  by_cases hs : 1048576 < s.size
  · have hs' : (1048576 : Int) < (s.size : Int) := by omega
    clear h1 h2 h3 h4
    go_enter Tryz.func3, Tryz.ntmps3
    go_wp2
    go_ret
    exact ⟨rfl, unhide B0⟩
  have hs' : ¬ (1048576 : Int) < (s.size : Int) := by omega
  have bl : maxLen ≤ 9223372036854775807 := by unfold maxLen; omega
  have Z0 := hide (Frl.heap_new w (.cells #[.int .i64 wd, .slice a1 LW.length c1, .slice a2 n c2, .slice a3 LK.length c3, .slice a4 LA.length c4] 26))
  have hw0 : w.heap.size < (w.alloc (.cells #[.int .i64 wd, .slice a1 LW.length c1, .slice a2 n c2, .slice a3 LK.length c3, .slice a4 LA.length c4] 26)).heap.size := by simp
  have CZ := hide (szFont_z wd a1 a2 a3 a4 c1 c2 c3 c4 LW n Q LK LA _ (h2.below (unhide B0)) (by omega) (by omega) (fun k => Nat.le_trans (m5 k) bl) (by omega) (by omega))
  have CT := hide (fun W (hb : Below w.heap.size w W) (hf : Fit LW n Q LK LA) => toFont_own wd _ _ _ _ LW n Q LK LA W (h1.below hb) (h2.below hb) (h3.below hb) (h4.below hb) hf.1 hf.2.1 hf.2.2.1 hf.2.2.2.1 hf.2.2.2.2)
  have HT := hide ht
  clear h1 h2 h3 h4 m1 m2 m3 m4 m5 bl ht
  go_enter Tryz.func3, Tryz.ntmps3
  go_wp2_with fail
  generalize w.alloc (.cells #[.int .i64 wd, .slice a1 LW.length c1, .slice a2 n c2, .slice a3 LK.length c3, .slice a4 LA.length c4] 26) = wa at *
  refine (unhide CZ).mono ?_
  rintro e w1 ⟨S, rfl, hS, hb1⟩
  have B1 := hide ((unhide B0).trans (hb1.mono (unhide B0).size))
  have k1 := (hb1.block w.heap.size hw0).trans (unhide Z0)
  have y1 := Nat.lt_of_lt_of_le hw0 hb1.size
  clear hb1 CZ B0 Z0
  by_cases t : S < 0
  · clear hS
    go_wp2
    go_ret
    exact ⟨rfl, unhide B1⟩
  have HF := hide (hS (by omega)).1
  have HZ := hide (hS (by omega)).2
  clear hS
  have hm := shp_len wd LW n Q LK LA s
  have CS := hide (fun V W (h : FA W V wd LW n Q LK LA) => specShape V wd LW n Q LK LA s W h (unhide HF) (by omega))
  have CI := hide (fun V W (h : FA W V wd LW n Q LK LA) (ht : TabAt W) => implShape V wd LW n Q LK LA s W h (unhide HF) (by omega) ht)
  generalize (shp wd LW n Q LK LA s).1 = C at *
  generalize (shp wd LW n Q LK LA s).2.2 = X at *
  generalize (shp wd LW n Q LK LA s).2.1 = Z at *
  have CE := hide (fun v1 v2 W (g1 : GA W v1 Z) (g2 : GA W v2 Z) => eqShaped_any C X v1 v2 Z W g1 g2 (by omega))
  have CQ := hide (fun V1 V2 W (g1 : FA W V1 wd LW n Q LK LA) (g2 : FA W V2 wd LW n Q LK LA) => eqFont_any V1 V2 wd LW n Q LK LA W g1 g2 (unhide HF))
  obtain ⟨⟨p0, p1, p2, p3, p4⟩, _⟩ := five_cellsF k1
  go_wp2_with fail
  refine ((unhide CT) _ (unhide B1) (unhide HF)).mono ?_
  rintro e w2 ⟨v2, rfl, g2, hb2⟩
  have G2 := hide g2.fa
  have B2 := hide ((unhide B1).trans (hb2.mono (unhide B1).size))
  have k2 := (hb2.block w.heap.size y1).trans k1
  have y2 := Nat.lt_of_lt_of_le y1 hb2.size
  clear g2 hb2 B1 k1 y1 p0 p1 p2 p3 p4
  go_wp2_with fail
  refine ((unhide CS) _ _ (unhide G2)).mono ?_
  rintro e w3 ⟨v0, rfl, hv0, hb3⟩
  obtain ⟨va, vc, rfl⟩ := fr_form hv0
  have B3 := hide ((unhide B2).trans (hb3.mono (unhide B2).size))
  have V3 := hide hv0
  have k3 := (hb3.block w.heap.size y2).trans k2
  have y3 := Nat.lt_of_lt_of_le y2 hb3.size
  clear hb3 B2 k2 y2 G2 hv0
  obtain ⟨W4, hW4⟩ : ∃ W4, W4 = w3.alloc (.cells #[.int .i64 C, .slice va Z.length vc, .int .i64 X] 30) := ⟨_, rfl⟩
  have bb4 : Below w3.heap.size w3 W4 := by rw [hW4]; exact (Below.refl _ _).alloc (Nat.le_refl _) _
  have k64 : W4.heap[w3.heap.size]? = some (.cells #[.int .i64 C, .slice va Z.length vc, .int .i64 X] 30 (0, 0)) := by rw [hW4]; exact box_s w3 _ _ _
  have k4 := (bb4.block w.heap.size y3).trans k3
  have y4 := Nat.lt_of_lt_of_le y3 bb4.size
  have B4 := hide ((unhide B3).trans (bb4.mono (unhide B3).size))
  have V4 := hide ((unhide V3).below bb4)
  have b6l := (Array.getElem?_eq_some_iff.1 k64).1
  obtain ⟨⟨p0, p1, p2, p3, p4⟩, _⟩ := five_cellsF k4
  clear bb4 B3 V3 k3
  have N4 : Hid (∀ j, (Value.slice va Z.length vc).ownBlock = some j → j < W4.heap.size) := hide (fun j hj => (World.ownsRow.lt (unhide V4) j hj).2)
  subst hW4
  go_wp2_with fail
  generalize w3.alloc (.cells #[.int .i64 C, .slice va Z.length vc, .int .i64 X] 30) = W4 at *
  refine ((unhide CT) _ (unhide B4) (unhide HF)).mono ?_
  rintro e w5 ⟨v5, rfl, g5, hb5⟩
  have F5 := hide g5
  have B5 := hide ((unhide B4).trans (hb5.mono (unhide B4).size))
  have k5 := (hb5.block w.heap.size y4).trans k4
  have k65 := (hb5.block w3.heap.size b6l).trans k64
  have V5 := hide ((unhide V4).below hb5)
  have s45 := hb5.size
  obtain ⟨q1, q2, q3, q4, blk, rfl, _⟩ := g5
  clear hb5 B4 k4 k64 V4 p0 p1 p2 p3 p4
  obtain ⟨W6, hW6⟩ : ∃ W6, W6 = w5.alloc (.cells #[.int .i64 wd, .slice (some ⟨q1, 0, none⟩) LW.length LW.length, .slice (some ⟨q2, 0, none⟩) n n, .slice (some ⟨q3, 0, none⟩) LK.length LK.length, .slice (some ⟨q4, 0, none⟩) LA.length LA.length] 36) := ⟨_, rfl⟩
  have bb6 : Below w5.heap.size w5 W6 := by rw [hW6]; exact (Below.refl _ _).alloc (Nat.le_refl _) _
  have k76 : W6.heap[w5.heap.size]? = some (.cells #[.int .i64 wd, .slice (some ⟨q1, 0, none⟩) LW.length LW.length, .slice (some ⟨q2, 0, none⟩) n n, .slice (some ⟨q3, 0, none⟩) LK.length LK.length, .slice (some ⟨q4, 0, none⟩) LA.length LA.length] 36 (0, 0)) := by rw [hW6]; exact Frl.heap_new w5 _
  have k6' := (bb6.block w.heap.size (by omega)).trans k5
  have k66 := (bb6.block w3.heap.size (by omega)).trans k65
  have B6 := hide ((unhide B5).trans (bb6.mono (unhide B5).size))
  have V6 := hide ((unhide V5).below bb6)
  have D6 := hide bb6
  have b7l := (Array.getElem?_eq_some_iff.1 k76).1
  obtain ⟨⟨p0, p1, p2, p3, p4⟩, _⟩ := five_cellsF k76
  clear bb6 B5 V5 k5 k65
  subst hW6
  go_wp2_with fail
  generalize w5.alloc (.cells #[.int .i64 wd, .slice (some ⟨q1, 0, none⟩) LW.length LW.length, .slice (some ⟨q2, 0, none⟩) n n, .slice (some ⟨q3, 0, none⟩) LK.length LK.length, .slice (some ⟨q4, 0, none⟩) LA.length LA.length] 36) = W6 at *
  refine ((unhide CI) _ _ ((unhide F5).below (unhide D6)).fa ((unhide HT).below (unhide B6))).mono ?_
  rintro e w7 ⟨g, rfl, hg7, hb7⟩
  obtain ⟨ga, gc, rfl⟩ := fr_form hg7
  have N7 : Hid (∀ j, (Value.slice ga Z.length gc).ownBlock = some j → W6.heap.size ≤ j ∧ j < w7.heap.size) := hide (fun j hj => World.ownsRow.lt hg7 j hj)
  have B7 := hide ((unhide B6).trans (hb7.mono (unhide B6).size))
  have D7 := hide ((unhide D6).trans (hb7.mono (unhide D6).size))
  have k7a := (hb7.block w.heap.size (by omega)).trans k6'
  have k7b := (hb7.block w3.heap.size (by omega)).trans k66
  have k7c := (hb7.block w5.heap.size b7l).trans k76
  have V7 := hide ((unhide V6).below hb7)
  have M7 := hide hg7
  have s67 := hb7.size
  clear hb7 hg7 B6 D6 V6 k6' k66 k76 p0 p1 p2 p3 p4
  obtain ⟨W8, hW8⟩ : ∃ W8, W8 = w7.alloc (.cells #[.int .i64 C, .slice ga Z.length gc, .int .i64 X] 30) := ⟨_, rfl⟩
  have bb8 : Below w7.heap.size w7 W8 := by rw [hW8]; exact (Below.refl _ _).alloc (Nat.le_refl _) _
  have k88 : W8.heap[w7.heap.size]? = some (.cells #[.int .i64 C, .slice ga Z.length gc, .int .i64 X] 30 (0, 0)) := by rw [hW8]; exact box_s w7 _ _ _
  have L8 : Lb w W8 w3.heap.size w5.heap.size w7.heap.size #[.int .i64 wd, .slice a1 LW.length c1, .slice a2 n c2, .slice a3 LK.length c3, .slice a4 LA.length c4] #[.int .i64 wd, .slice (some ⟨q1, 0, none⟩) LW.length LW.length, .slice (some ⟨q2, 0, none⟩) n n, .slice (some ⟨q3, 0, none⟩) LK.length LK.length, .slice (some ⟨q4, 0, none⟩) LA.length LA.length] C X (.slice va Z.length vc) (.slice ga Z.length gc) := ⟨(unhide B7).trans (bb8.mono (unhide B7).size), (bb8.block w.heap.size (by omega)).trans k7a, (bb8.block w3.heap.size (by omega)).trans k7b, (bb8.block w5.heap.size (by omega)).trans k7c, k88⟩
  have D8 := hide ((unhide D7).trans (bb8.mono (unhide D7).size))
  have V8 := hide ((unhide V7).below bb8)
  have M8 := hide ((unhide M7).below bb8)
  obtain ⟨⟨x0, x1, x2⟩, _⟩ := three_a L8.k8
  obtain ⟨⟨z0, z1, z2⟩, _⟩ := three_a L8.k6
  have HL8 := hide L8
  clear bb8 B7 D7 V7 M7 k7a k7b k7c k88 L8
  subst hW8
  go_wp2_with fail
  generalize w7.alloc (.cells #[.int .i64 C, .slice ga Z.length gc, .int .i64 X] 30) = W8 at *
  refine ((unhide CE) _ _ _ (GR.ga (unhide M8)) (GR.ga (unhide V8))).mono ?_
  rintro e w9 ⟨rfl, hb9⟩
  have HL9 := hide ((unhide HL8).below hb9)
  have D9 := hide ((unhide D8).trans (hb9.mono (unhide D8).size))
  have V9 := hide ((unhide V8).below hb9)
  have M9 := hide ((unhide M8).below hb9)
  clear hb9 HL8 D8 V8 M8 x0 x1 x2 z0 z1 z2
  have y7 := (Array.getElem?_eq_some_iff.1 (unhide HL9).k7).1
  have n7 := (unhide HL9).k7
  obtain ⟨⟨t0, t1, t2, t3, t4⟩, _⟩ := five_cellsF n7
  obtain ⟨⟨u0, u1, u2, u3, u4⟩, _⟩ := five_cellsF (unhide HL9).box
  have G9 := hide ((unhide F5).below (unhide D9)).fa
  go_upto_region 12 with fail
  go_region_with (first
    | (go_at_call 6; refine ((unhide CT) _ (unhide HL9).bel.drew (unhide HF)).mono ?_; rintro e wx ⟨vx, rfl, gx, hbx⟩; have GX := hide gx.fa; have G9x := hide (((unhide G9).below (drew_below w9)).below hbx); have Bx := hide ((drew_below w9).trans hbx); have nx := (hbx.block w5.heap.size y7).trans n7; obtain ⟨⟨s0, s1, s2, s3, s4⟩, _⟩ := five_cellsF nx; clear hbx gx nx)
    | (go_at_call 9; refine ((unhide CQ) _ _ _ (unhide G9x) (unhide GX)).mono ?_; rintro e w11 ⟨rfl, hb11⟩; have BX := hide ((unhide Bx).trans (hb11.mono (unhide Bx).size)); clear hb11))
  all_goals
    have HL11 := hide ((unhide HL9).below (unhide BX))
    have D11 := hide ((unhide D9).trans ((unhide BX).mono (unhide D9).size))
    have V11 := hide ((unhide V9).below (unhide BX))
    have M11 := hide ((unhide M9).below (unhide BX))
    clear BX HL9 D9 V9 M9 G9 n7 y7
    try clear t0 t1 t2 t3 t4
    try clear u0 u1 u2 u3 u4
    try clear s0 s1 s2 s3 s4
    obtain ⟨⟨t0, t1, t2, t3, t4⟩, _⟩ := five_cellsF (unhide HL11).k7
    go_upto_region 16 with (go_at_call 10; refine (markFont_any _ wd LW n Q LK LA _ w5 _ (unhide F5) (unhide D11) (unhide HF) (unhide HZ)).mono ?_; rintro e w12 ⟨kk, rfl, hkk, hmb⟩; have HL12 := hide ((unhide HL11).mb hmb (by omega) (by omega) (Nat.le_refl _) (by omega)); have V12 : Hid (FR w12 _ _ _ (flt Z)) := hide (fr_mb (unhide V11) hmb (fun j hj => .inl ((unhide N4) j hj))); have M12 : Hid (FR w12 _ _ _ (flt Z)) := hide (fr_mb (unhide M11) hmb (fun j hj => .inr (by have := (unhide N7) j hj; omega))); clear hmb)
    have hk0 : ¬ kk < 0 := by omega
    obtain ⟨⟨x0, x1, x2⟩, _⟩ := three_a (unhide HL12).k8
    obtain ⟨⟨z0, z1, z2⟩, _⟩ := three_a (unhide HL12).k6
    clear HL11 D11 V11 M11 t0 t1 t2 t3 t4
    have K0 : ¬ (1 + (Z.length : Int) * 5) < 0 := by omega
    have K1 : ((1 + (Z.length : Int) * 5) != (1 + (Z.length : Int) * 5)) = false := by simp
    go_wp2_with fail
    refine ((unhide CE) _ _ _ (GR.ga (unhide M12)) (GR.ga (unhide V12))).mono ?_
    rintro e w13 ⟨rfl, hb13⟩
    have HL13 := hide ((unhide HL12).below hb13)
    have V13 := hide ((unhide V12).below hb13)
    have M13 := hide ((unhide M12).below hb13)
    clear hb13 HL12 V12 M12 x0 x1 x2 z0 z1 z2
    obtain ⟨⟨x0, x1, x2⟩, _⟩ := three_a (unhide HL13).k8
    go_wp2_with fail
    refine (markShaped_any C X _ _ Z.length _ _ (by omega) (unhide M13)).mono ?_
    rintro e w14 ⟨rfl, hr14, hg14⟩
    have HL14 := hide ((unhide HL13).grown hg14 (fun j hj => by have := (unhide N7) j hj; omega))
    have V14 : Hid (FR w14 _ _ _ (flt Z)) := hide (fr_gr (unhide V13) hg14 (fun j hj e => by have a := (unhide N4) j hj; have b := (unhide N7) j e.symm; omega))
    have M14 := hide hr14
    clear hr14 hg14 HL13 V13 M13 x0 x1 x2
    obtain ⟨⟨x0, x1, x2⟩, _⟩ := three_a (unhide HL14).k8
    go_wp2_with fail
    refine (heldShaped_any C X _ _ Z.length _ (by omega) (unhide M14)).mono ?_
    rintro e w15 ⟨rfl, hb15⟩
    have HL15 := hide ((unhide HL14).below hb15)
    have V15 := hide ((unhide V14).below hb15)
    have M15 := hide ((unhide M14).below hb15)
    clear hb15 HL14 V14 M14 x0 x1 x2
    obtain ⟨⟨u0, u1, u2, u3, u4⟩, _⟩ := five_cellsF (unhide HL15).box
    go_wp2_with fail
    refine ((unhide CT) _ (unhide HL15).bel (unhide HF)).mono ?_
    rintro e w16 ⟨v16, rfl, g16, hb16⟩
    have G16 := hide g16.fa
    have HL16 := hide ((unhide HL15).below hb16)
    have V16 := hide ((unhide V15).below hb16)
    have M16 := hide ((unhide M15).below hb16)
    clear hb16 g16 HL15 V15 M15 u0 u1 u2 u3 u4
    go_wp2_with fail
    refine ((unhide CI) _ _ (unhide G16) ((unhide HT).below (unhide HL16).bel)).mono ?_
    rintro e w17 ⟨h, rfl, hh, hb17⟩
    obtain ⟨ha, hc, rfl⟩ := fr_form hh
    have HL17 := hide ((unhide HL16).below hb17)
    have V17 := hide ((unhide V16).below hb17)
    have M17 := hide ((unhide M16).below hb17)
    have H17 := hide hh
    clear hb17 hh HL16 V16 M16 G16
    obtain ⟨W18, hW18⟩ : ∃ W18, W18 = w17.alloc (.cells #[.int .i64 C, .slice ha Z.length hc, .int .i64 X] 30) := ⟨_, rfl⟩
    have bb18 : Below w17.heap.size w17 W18 := by rw [hW18]; exact (Below.refl _ _).alloc (Nat.le_refl _) _
    have k18 : W18.heap[w17.heap.size]? = some (.cells #[.int .i64 C, .slice ha Z.length hc, .int .i64 X] 30 (0, 0)) := by rw [hW18]; exact box_s w17 _ _ _
    have HL18 := hide ((unhide HL17).below bb18)
    have V18 := hide ((unhide V17).below bb18)
    have M18 := hide ((unhide M17).below bb18)
    have H18 := hide ((unhide H17).below bb18)
    obtain ⟨⟨x0, x1, x2⟩, _⟩ := three_a k18
    obtain ⟨⟨z0, z1, z2⟩, _⟩ := three_a (unhide HL18).k6
    clear bb18 k18 HL17 V17 M17 H17
    subst hW18
    go_wp2_with fail
    generalize w17.alloc (.cells #[.int .i64 C, .slice ha Z.length hc, .int .i64 X] 30) = W18 at *
    refine ((unhide CE) _ _ _ (GR.ga (unhide H18)) (GR.ga (unhide V18))).mono ?_
    rintro e w19 ⟨rfl, hb19⟩
    have HL19 := hide ((unhide HL18).below hb19)
    have M19 := hide ((unhide M18).below hb19)
    clear hb19 HL18 V18 M18 H18 x0 x1 x2 z0 z1 z2
    obtain ⟨⟨x0, x1, x2⟩, _⟩ := three_a (unhide HL19).k8
    go_wp2_with fail
    refine (heldShaped_any C X _ _ Z.length _ (by omega) (unhide M19)).mono ?_
    rintro e w20 ⟨rfl, hb20⟩
    have HL20 := hide ((unhide HL19).below hb20)
    clear hb20 HL19 M19 x0 x1 x2
    go_wp2
    go_ret
    exact ⟨rfl, (unhide HL20).bel⟩
end Sha
end Go.Proofs.YtfldomifooihlaaGreatDoor
