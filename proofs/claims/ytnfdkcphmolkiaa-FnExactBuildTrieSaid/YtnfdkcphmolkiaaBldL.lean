/- The law of BuildTrie. -/
import Derived.Test.YtnfdkcphmolkiaaMrkT
namespace Go.Proofs.Ytnfdkcphmolkiaa
open Go.RowKit
theorem own_belowB {w w' : World} {B N n : Nat} {v : Value} {xs : List Value} (h : w.ownsRow B 2 1 v n xs) (hb : Below N w w') (hl : ∀ k, v.ownBlock = some k → k < N) : w'.ownsRow B 2 1 v n xs :=
  ownsRow_at h (fun k hk => hb.block k (hl k hk))
theorem Box.block {w w' : World} {g : Nat} {x y : Value} (h : Box w g x y) (e : w'.heap[g]? = w.heap[g]?) : Box w' g x y :=
  ⟨⟨(World.cell?_of_block (a := ⟨g, 0, none⟩) e).trans h.1.1, (World.cell?_of_block (a := ⟨g, 1, none⟩) e).trans h.1.2⟩, (World.frozen?_of_block (a := ⟨g, 0, none⟩) e).trans h.2.1, (World.frozen?_of_block (a := ⟨g, 1, none⟩) e).trans h.2.2⟩
/-- What the specification answered, in its box, below N. -/
structure Told (w : World) (N g0 : Nat) (v1 v2 : Value) (ix dt : List Int) : Prop where
  o1 : w.ownsRow 0 2 1 v1 ix.length (ix.map (Value.int .i64))
  o2 : w.ownsRow 0 2 1 v2 dt.length (dt.map (Value.int .i64))
  l1 : ∀ k, v1.ownBlock = some k → k < N
  l2 : ∀ k, v2.ownBlock = some k → k < N
  bx : Box w g0 v1 v2
  lt : g0 < N
theorem Told.below {w w' : World} {N bx : Nat} {v1 v2 : Value} {ix dt : List Int} (h : Told w N bx v1 v2 ix dt) (hb : Below N w w') : Told w' N bx v1 v2 ix dt :=
  ⟨own_belowB h.o1 hb h.l1, own_belowB h.o2 hb h.l2, h.l1, h.l2, h.bx.block (hb.block _ h.lt), h.lt⟩
set_option maxHeartbeats 8000000 in
set_option maxRecDepth 100000 in
theorem lawBuild (va : Value) (L : List Sp) (o : Int) (w : World) (hA : SpsAt w va L) (mA : L.length ≤ maxLen) (_ : (Lit.int .i64 o).wf = true) :
    Calls Try.prog 5 #[va, .int .i64 o] w fun e w' => e = .returned (.bool true) ∧ Below w.heap.size w w' := by
  have HA := hide hA
  obtain ⟨a1, c1, rfl, _⟩ := hA
  unfold maxLen at mA
  by_cases q1 : (1048576 : Int) - L.length < 0
  · go_enter Try.func5, Try.ntmps5
    go_wp2_with fail
    refine (szSpans_any _ _ _ _ (by omega) _ (by omega)).mono ?_
    rintro e w' ⟨rfl, rfl⟩
    rw [if_pos (by omega)]
    go_wp2
    go_ret
    exact ⟨rfl, Below.refl _ _⟩
  have lA : L.length ≤ 1048576 := by omega
  obtain ⟨ix, hix⟩ : ∃ ix, rowI L o = ix := ⟨_, rfl⟩
  obtain ⟨dt, hdt⟩ : ∃ dt, rowD L o = dt := ⟨_, rfl⟩
  have hl := rows_len L o
  have IM := hide (fun (v : Value) (B : Nat) (W : World) (h : SpRow W B v L) => implB v L o B W h lA)
  have SP := hide (fun (v : Value) (B : Nat) (W : World) (h : SpRow W B v L) => specB v L o B W h lA)
  simp only [hix, hdt] at hl IM SP
  clear hix hdt
  obtain ⟨hl1, hl2⟩ := hl
  have m1 : ix.length ≤ 1048576 := by omega
  have m2 : dt.length ≤ 1048576 := by omega
  go_enter Try.func5, Try.ntmps5
  go_wp2_with fail
  refine (szSpans_any _ _ _ _ (by omega) _ (by omega)).mono ?_
  rintro e w' ⟨rfl, rfl⟩
  rw [if_neg (by omega)]
  go_wp2_with fail
  refine (toSpans _ L _ (unhide HA) lA).mono ?_
  rintro e w1 ⟨rfl, hs, hb⟩
  have S1 := hide hs
  have W1 := hide hb
  clear hs hb
  go_wp2_with fail
  refine ((unhide SP) _ _ _ (unhide S1)).mono ?_
  rintro e w2 ⟨wi, wd, rfl, ho1, ho2, hb⟩
  obtain ⟨p1, k1, rfl⟩ := form_own ho1
  obtain ⟨p2, k2, rfl⟩ := form_own ho2
  have T2 : Hid (Told (w2.alloc (.cells #[.slice p1 ix.length k1, .slice p2 dt.length k2] 34)) (w2.heap.size + 1) w2.heap.size (.slice p1 ix.length k1) (.slice p2 dt.length k2) ix dt) := hide
    ⟨World.ownsRow.alloc (own_base ho1 (Nat.zero_le _)) _, World.ownsRow.alloc (own_base ho2 (Nat.zero_le _)) _, fun k hk => by have := (World.ownsRow.lt ho1 k hk).2; omega, fun k hk => by have := (World.ownsRow.lt ho2 k hk).2; omega, Box.new _ _ _ _, by omega⟩
  have W2 := hide ((unhide W1).trans (hb.mono (unhide W1).size))
  clear ho1 ho2 hb S1 W1 SP
  go_upto_region 6 with fail
  have W3 := hide ((unhide W2).alloc (unhide W2).size (.cells #[.slice p1 ix.length k1, .slice p2 dt.length k2] 34))
  have N3 : (w2.alloc (.cells #[.slice p1 ix.length k1, .slice p2 dt.length k2] 34)).heap.size = w2.heap.size + 1 := by simp
  rw [← N3] at T2
  clear W2 N3
  generalize w2.alloc (.cells #[.slice p1 ix.length k1, .slice p2 dt.length k2] 34) = w3 at *
  generalize w2.heap.size = bw at *
  go_wp2_with fail
  refine (toSpans _ L _ ((unhide HA).below (unhide W3)) lA).mono ?_
  rintro e w4 ⟨rfl, hs, hb⟩
  have X4 := hide hs
  have z4 := (World.ownsRow.lt hs w3.heap.size rfl).2
  have B4 := hide hb
  clear hs hb
  go_wp2_with fail
  refine ((unhide IM) _ _ _ (unhide X4)).mono ?_
  rintro e w5 ⟨gi, gd, rfl, ho1, ho2, hb, hap⟩
  obtain ⟨p3, k3, rfl⟩ := form_own ho1
  obtain ⟨p4, k4, rfl⟩ := form_own ho2
  have AP := hide hap
  have L5 : Hid (∀ k, (Value.slice p3 ix.length k3).ownBlock = some k → w4.heap.size ≤ k ∧ k < w5.heap.size) := hide (fun k hk => World.ownsRow.lt ho1 k hk)
  have M5 : Hid (∀ k, (Value.slice p4 dt.length k4).ownBlock = some k → w4.heap.size ≤ k ∧ k < w5.heap.size) := hide (fun k hk => World.ownsRow.lt ho2 k hk)
  have G5 := hide (World.ownsRow.alloc ho1 (.cells #[.slice p3 ix.length k3, .slice p4 dt.length k4] 34))
  have D5 := hide (World.ownsRow.alloc ho2 (.cells #[.slice p3 ix.length k3, .slice p4 dt.length k4] 34))
  have B5 := hide (((unhide B4).trans (hb.mono (unhide B4).size)).alloc (Nat.le_trans (unhide B4).size hb.size) (.cells #[.slice p3 ix.length k3, .slice p4 dt.length k4] 34))
  have X5 := hide (World.ownsRow.alloc ((unhide X4).below hb) (.cells #[.slice p3 ix.length k3, .slice p4 dt.length k4] 34))
  have z5 := hb.size
  have Y5 := hide (Box.new w5 (.slice p3 ix.length k3) (.slice p4 dt.length k4) 34)
  have N5 : (w5.alloc (.cells #[.slice p3 ix.length k3, .slice p4 dt.length k4] 34)).heap.size = w5.heap.size + 1 := by simp
  clear ho1 ho2 hb hap X4 B4
  go_upto_region 8 with fail
  generalize w5.alloc (.cells #[.slice p3 ix.length k3, .slice p4 dt.length k4] 34) = w6 at *
  generalize w5.heap.size = bg at *
  have T6 := hide ((unhide T2).below (unhide B5))
  obtain ⟨⟨x0, x1⟩, _, _⟩ := unhide Y5
  obtain ⟨⟨y0, y1⟩, _, _⟩ := (unhide T6).bx
  go_wp2_with fail
  refine (eqTrie_any _ _ _ _ ix dt _ (IntsAt.owned (unhide G5)) (IntsAt.owned (unhide D5)) (IntsAt.owned (unhide T6).o1) (IntsAt.owned (unhide T6).o2) m1 m2).mono ?_
  rintro e w7 ⟨rfl, hb⟩
  have G7 := hide (ownsRow_below (unhide G5) hb)
  have D7 := hide (ownsRow_below (unhide D5) hb)
  have X7 := hide (SpRow.below (unhide X5) hb)
  have Y7 := hide ((unhide Y5).below hb)
  have B7 := hide ((unhide B5).trans (hb.mono (unhide B5).size))
  have z7 := hb.size
  clear hb G5 D5 X5 Y5 B5 T6 x0 x1 y0 y1
  go_wp2_with fail
  refine (toSpans _ L _ ((unhide HA).below ((unhide W3).trans ((unhide B7).mono (unhide W3).size))) lA).mono ?_
  rintro e w8 ⟨rfl, hs, hb⟩
  have E8 := hide hs
  have G8 := hide (ownsRow_below (unhide G7) hb)
  have D8 := hide (ownsRow_below (unhide D7) hb)
  have X8 := hide (SpRow.below (unhide X7) hb)
  have Y8 := hide ((unhide Y7).below hb)
  have B8 := hide ((unhide B7).trans (hb.mono (unhide B7).size))
  have z8 := hb.size
  clear hs hb G7 D7 X7 Y7 B7
  go_wp2_with fail
  refine (eqSpans _ _ L _ _ _ (unhide X8) (unhide E8) lA).mono ?_
  rintro e w9 ⟨rfl, hb⟩
  have G9 := hide (ownsRow_below (unhide G8) hb)
  have D9 := hide (ownsRow_below (unhide D8) hb)
  have X9 := hide (SpRow.below (unhide X8) hb)
  have Y9 := hide ((unhide Y8).below hb)
  have B9 := hide ((unhide B8).trans (hb.mono (unhide B8).size))
  have z9 := hb.size
  clear hb G8 D8 X8 Y8 B8 E8
  go_wp2_with fail
  refine (markG _ _ L.length _ L 1 _ (by omega) rfl lA (unhide X9)).mono ?_
  rintro e w10 ⟨rfl, hg⟩
  have G10 := hide (World.ownsRow.kept (unhide G9) hg (.inr (fun e => by have := (unhide L5 _ e).1; omega)))
  have D10 := hide (World.ownsRow.kept (unhide D9) hg (.inr (fun e => by have := (unhide M5 _ e).1; omega)))
  have Y10 := hide ((unhide Y9).block (hg.block bg (by omega) (by simp; omega)))
  have B10 := hide ((unhide B9).trans (grown_below hg (Nat.le_refl _) (by omega)))
  have z10 := hg.size
  clear hg G9 D9 X9 Y9 B9
  have hpos : ¬ (1 + (L.length : Int) * 3) < 0 := by omega
  have T10 := hide ((unhide T2).below (unhide B10))
  obtain ⟨⟨x0, x1⟩, _, _⟩ := unhide Y10
  obtain ⟨⟨y0, y1⟩, _, _⟩ := (unhide T10).bx
  go_wp2_with fail
  refine (eqTrie_any _ _ _ _ ix dt _ (IntsAt.owned (unhide G10)) (IntsAt.owned (unhide D10)) (IntsAt.owned (unhide T10).o1) (IntsAt.owned (unhide T10).o2) m1 m2).mono ?_
  rintro e w11 ⟨rfl, hb⟩
  have G11 := hide (ownsRow_below (unhide G10) hb)
  have D11 := hide (ownsRow_below (unhide D10) hb)
  have Y11 := hide ((unhide Y10).below hb)
  have B11 := hide ((unhide B10).trans (hb.mono (by omega)))
  have z11 := hb.size
  clear hb G10 D10 Y10 B10 T10 x0 x1 y0 y1
  obtain ⟨⟨x0, x1⟩, _, _⟩ := unhide Y11
  go_wp2_with fail
  refine (markTrie_own w4.heap.size ix.length dt.length _ _ _ _ _ (by omega) m1 m2 (unhide G11) (unhide D11) (unhide AP)).mono ?_
  rintro e w12 ⟨rfl, ho1, ho2, hb, hk⟩
  have G12 := hide ho1
  have D12 := hide ho2
  have Y12 := hide ((unhide Y11).block (hk bg (by omega) (fun e => by have := (unhide L5 _ e).2; omega) (fun e => by have := (unhide M5 _ e).2; omega)))
  have B12 := hide ((unhide B11).trans (hb.mono (by omega)))
  have z12 := hb.size
  clear ho1 ho2 hb hk G11 D11 Y11 B11 x0 x1
  have hp2 : ¬ (1 + (ix.length : Int) + (dt.length : Int)) < 0 := by omega
  have hne : ((1 + (ix.length : Int) + (dt.length : Int)) != (1 + (ix.length : Int) + (dt.length : Int))) = false := by simp
  obtain ⟨⟨x0, x1⟩, _, _⟩ := unhide Y12
  go_wp2_with fail
  refine (heldTrie_own w4.heap.size ix.length dt.length _ _ _ m1 m2 (unhide G12) (unhide D12)).mono ?_
  rintro e w13 ⟨rfl, hb⟩
  have G13 := hide (ownsRow_below (unhide G12) hb)
  have D13 := hide (ownsRow_below (unhide D12) hb)
  have Y13 := hide ((unhide Y12).below hb)
  have B13 := hide ((unhide B12).trans (hb.mono (unhide B12).size))
  have z13 := hb.size
  clear hb G12 D12 Y12 B12 x0 x1
  go_wp2_with fail
  refine (toSpans _ L _ ((unhide HA).below ((unhide W3).trans ((unhide B13).mono (unhide W3).size))) lA).mono ?_
  rintro e w14 ⟨rfl, hs, hb⟩
  have E14 := hide hs
  have G14 := hide (ownsRow_below (unhide G13) hb)
  have D14 := hide (ownsRow_below (unhide D13) hb)
  have Y14 := hide ((unhide Y13).below hb)
  have B14 := hide ((unhide B13).trans (hb.mono (unhide B13).size))
  clear hs hb G13 D13 Y13 B13
  go_wp2_with fail
  refine ((unhide IM) _ _ _ (unhide E14)).mono ?_
  rintro e w15 ⟨hi, hd, rfl, ho1, ho2, hb, _⟩
  obtain ⟨p5, k5, rfl⟩ := form_own ho1
  obtain ⟨p6, k6, rfl⟩ := form_own ho2
  have H15 := hide (World.ownsRow.alloc ho1 (.cells #[.slice p5 ix.length k5, .slice p6 dt.length k6] 34))
  have I15 := hide (World.ownsRow.alloc ho2 (.cells #[.slice p5 ix.length k5, .slice p6 dt.length k6] 34))
  have Z15 := hide (Box.new w15 (.slice p5 ix.length k5) (.slice p6 dt.length k6) 34)
  have G15 := hide (World.ownsRow.alloc (ownsRow_below (unhide G14) hb) (.cells #[.slice p5 ix.length k5, .slice p6 dt.length k6] 34))
  have D15 := hide (World.ownsRow.alloc (ownsRow_below (unhide D14) hb) (.cells #[.slice p5 ix.length k5, .slice p6 dt.length k6] 34))
  have Y15 := hide (((unhide Y14).below hb).alloc (.cells #[.slice p5 ix.length k5, .slice p6 dt.length k6] 34))
  have B15 := hide (((unhide B14).trans (hb.mono (unhide B14).size)).alloc (Nat.le_trans (unhide B14).size hb.size) (.cells #[.slice p5 ix.length k5, .slice p6 dt.length k6] 34))
  clear ho1 ho2 hb G14 D14 Y14 B14 E14
  go_upto_region 25 with fail
  generalize w15.alloc (.cells #[.slice p5 ix.length k5, .slice p6 dt.length k6] 34) = w16 at *
  generalize w15.heap.size = bh at *
  have T16 := hide ((unhide T2).below (unhide B15))
  obtain ⟨⟨x0, x1⟩, _, _⟩ := unhide Z15
  obtain ⟨⟨y0, y1⟩, _, _⟩ := (unhide T16).bx
  go_wp2_with fail
  refine (eqTrie_any _ _ _ _ ix dt _ (IntsAt.owned (unhide H15)) (IntsAt.owned (unhide I15)) (IntsAt.owned (unhide T16).o1) (IntsAt.owned (unhide T16).o2) m1 m2).mono ?_
  rintro e w17 ⟨rfl, hb⟩
  have G17 := hide (ownsRow_below (unhide G15) hb)
  have D17 := hide (ownsRow_below (unhide D15) hb)
  have Y17 := hide ((unhide Y15).below hb)
  have B17 := hide ((unhide B15).trans (hb.mono (unhide B15).size))
  clear hb G15 D15 Y15 B15 T16 x0 x1 y0 y1
  obtain ⟨⟨x0, x1⟩, _, _⟩ := unhide Y17
  go_wp2_with fail
  refine (heldTrie_own w4.heap.size ix.length dt.length _ _ _ m1 m2 (unhide G17) (unhide D17)).mono ?_
  rintro e w18 ⟨rfl, hb⟩
  have B18 := hide ((unhide B17).trans (hb.mono (unhide B17).size))
  clear hb x0 x1
  go_wp2
  go_ret
  exact ⟨rfl, (unhide W3).trans ((unhide B18).mono (unhide W3).size)⟩
end Go.Proofs.Ytnfdkcphmolkiaa
