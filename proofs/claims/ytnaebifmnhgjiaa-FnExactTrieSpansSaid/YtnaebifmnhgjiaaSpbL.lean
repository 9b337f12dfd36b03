/- The law of TrieSpans. -/
import Derived.Test.YtnaebifmnhgjiaaSpbM
import Derived.Test.YtnaebifmnhgjiaaTriL
import Derived.Deep.DeepCutAuto
namespace Go.Proofs.Ytnaebifmnhgjiaa
open Go.RowKit
set_option maxHeartbeats 8000000 in
theorem lawTrieSpans (vi vd : Value) (ix dt : List Int) (w : World) (hi : IntsAt w vi ix) (hd : IntsAt w vd dt) (mi : ix.length ≤ maxLen) (md : dt.length ≤ maxLen) :
    Calls Try.prog 7 #[.agg #[vi, vd]] w fun e w' => e = .returned (.bool true) ∧ Below w.heap.size w w' := by
  have HI := hide hi
  have HD := hide hd
  obtain ⟨a1, c1, rfl, _⟩ := hi
  obtain ⟨a2, c2, rfl, _⟩ := hd
  unfold maxLen at mi md
  go_enter Try.func7, Try.ntmps7
  go_upto_region 1 with fail
  have B0 := hide (Box.new w (.slice a1 ix.length c1) (.slice a2 dt.length c2) 37)
  have W0 : Hid (Below w.heap.size w (w.alloc (.cells #[.slice a1 ix.length c1, .slice a2 dt.length c2] 37))) := hide ((Below.refl _ _).alloc (Nat.le_refl _) _)
  generalize w.alloc (.cells #[.slice a1 ix.length c1, .slice a2 dt.length c2] 37) = w0 at *
  obtain ⟨⟨x0, x1⟩, _, _⟩ := unhide B0
  go_wp2_with fail
  refine (szTrie_any _ _ _ _ _ _ _ (by omega) (by omega)).mono ?_
  rintro e w1 ⟨rfl, hb⟩
  have B1 := hide ((unhide B0).below hb)
  have W1 := hide ((unhide W0).trans (hb.mono (unhide W0).size))
  clear hb B0 W0 x0 x1
  by_cases hL : (1048576 : Int) < ix.length + dt.length
  · have hs : szL ix.length dt.length = -1 := by unfold szL; rw [if_pos hL]
    rw [hs]
    go_wp2
    go_ret
    exact ⟨rfl, unhide W1⟩
  · have hs : szL ix.length dt.length = 1048576 - ix.length - dt.length := by unfold szL; rw [if_neg hL]
    rw [hs]
    have hs' : ¬ (1048576 : Int) - ix.length - dt.length < 0 := by omega
    obtain ⟨⟨x0, x1⟩, _, _⟩ := unhide B1
    go_wp2_with fail
    refine (toTrie_any _ _ _ _ ix dt _ ((unhide HI).below (unhide W1)) ((unhide HD).below (unhide W1)) (by omega) (by omega)).mono ?_
    rintro e w2 ⟨g1, g2, rfl, hd1, hd2, hb⟩
    have P2 := hide hd1
    have Q2 := hide hd2
    have B2 := hide ((unhide B1).below hb)
    have W2 := hide ((unhide W1).trans (hb.mono (unhide W1).size))
    clear hb hd1 hd2 B1 W1 x0 x1
    go_wp2_with fail
    refine (specTS _ _ ix dt _ (unhide P2) (unhide Q2) (by omega) (by omega)).mono ?_
    rintro e w3 ⟨wv, M, rfl, hso, hlM, hs3, hb⟩
    have HSO := hide hso
    have S3 := hide hs3
    have N3 : Hid (∀ k, wv.ownBlock = some k → k < w3.heap.size) := hide (fun k hk => (World.ownsRow.lt (unhide S3) k hk).2)
    have B3 := hide ((unhide B2).below hb)
    have W3 := hide ((unhide W2).trans (hb.mono (unhide W2).size))
    have y3 := (unhide W3).size
    have b3 := (unhide B3).lt
    clear hb hso hs3 B2 W2 P2 Q2
    obtain ⟨⟨x0, x1⟩, _, _⟩ := unhide B3
    go_wp2_with fail
    refine (toTrie_own _ _ _ _ ix dt _ ((unhide HI).below (unhide W3)) ((unhide HD).below (unhide W3)) (by omega) (by omega)).mono ?_
    rintro e w4 ⟨g1, g2, rfl, ⟨hg1, hg2⟩, hd1, hd2, hb⟩
    have P4 := hide hd1
    have Q4 := hide hd2
    have B4 := hide ((unhide B3).below hb)
    have S4 := hide ((unhide S3).below hb)
    have W4 := hide ((unhide W3).trans (hb.mono (unhide W3).size))
    have l4 := (unhide Q4).lt
    clear hb hd1 hd2 B3 W3 x0 x1 S3
    go_upto_region 7 with fail
    have X5 := hide (Box.new w4 (.slice (some ⟨g1, 0, none⟩) ix.length ix.length) (.slice (some ⟨g2, 0, none⟩) dt.length dt.length) 31)
    have AB : Hid (Below w4.heap.size w4 (w4.alloc (.cells #[.slice (some ⟨g1, 0, none⟩) ix.length ix.length, .slice (some ⟨g2, 0, none⟩) dt.length dt.length] 31))) := hide ((Below.refl _ _).alloc (Nat.le_refl _) _)
    have s5 : Hid ((w4.alloc (.cells #[.slice (some ⟨g1, 0, none⟩) ix.length ix.length, .slice (some ⟨g2, 0, none⟩) dt.length dt.length] 31)).heap.size = w4.heap.size + 1) := hide (by simp)
    generalize w4.alloc (.cells #[.slice (some ⟨g1, 0, none⟩) ix.length ix.length, .slice (some ⟨g2, 0, none⟩) dt.length dt.length] 31) = w5 at *
    have P5 := hide ((unhide P4).below (unhide AB))
    have Q5 := hide ((unhide Q4).below (unhide AB))
    have B5 := hide ((unhide B4).below (unhide AB))
    have S5 := hide ((unhide S4).below (unhide AB))
    have W5 := hide ((unhide W4).trans ((unhide AB).mono (unhide W4).size))
    have z5 : w4.heap.size < w5.heap.size := by have := unhide s5; omega
    clear P4 Q4 B4 W4 S4 AB s5
    generalize w4.heap.size = gx0 at *
    obtain ⟨⟨x0, x1⟩, _, _⟩ := unhide X5
    go_wp2_with fail
    refine (implTS _ _ ix dt _ (unhide P5).dat (unhide Q5).dat (by omega) (by omega)).mono ?_
    rintro e w6 ⟨gv, M2, rfl, hso, _, hs6, hb⟩
    obtain rfl := tsOf_one (unhide HSO) hso
    have G6 := hide hs6
    have N6 : Hid (∀ k, gv.ownBlock = some k → w5.heap.size ≤ k) := hide (fun k hk => (World.ownsRow.lt (unhide G6) k hk).1)
    have P6 := hide ((unhide P5).below hb)
    have Q6 := hide ((unhide Q5).below hb)
    have X6 := hide ((unhide X5).below hb)
    have B6 := hide ((unhide B5).below hb)
    have S6 := hide ((unhide S5).below hb)
    have W6 := hide ((unhide W5).trans (hb.mono (unhide W5).size))
    have z6 := hb.size
    clear hb hso hs6 P5 Q5 X5 B5 W5 S5 x0 x1
    go_wp2_with fail
    refine (eqSpans _ _ M _ _ _ (unhide G6) (unhide S6) (by omega)).mono ?_
    rintro e w7 ⟨rfl, hb⟩
    have G7 := hide ((unhide G6).below hb)
    have P7 := hide ((unhide P6).below hb)
    have Q7 := hide ((unhide Q6).below hb)
    have X7 := hide ((unhide X6).below hb)
    have B7 := hide ((unhide B6).below hb)
    have S7 := hide ((unhide S6).below hb)
    have W7 := hide ((unhide W6).trans (hb.mono (unhide W6).size))
    have z7 := hb.size
    clear hb G6 P6 Q6 X6 B6 S6 W6
    go_upto_region 10 with fail
    go_cut [31] (fun v wx => v = .bool false ∧ Hid (Below w7.heap.size w7 wx))
    case first =>
      obtain ⟨⟨x0, x1⟩, _, _⟩ := unhide X7
      obtain ⟨⟨z0, z1⟩, _, _⟩ := unhide B7
      go_region_with (first | (go_at_call 25; refine (toTrie_any _ _ _ _ ix dt _ ((unhide HI).below (by first | exact unhide W7 | exact bdrew1 (unhide W7))) ((unhide HD).below (by first | exact unhide W7 | exact bdrew1 (unhide W7))) (by omega) (by omega)).mono ?_; rintro e w8 ⟨h1, h2, rfl, hd1, hd2, hb⟩; have P8 : Hid (DatAt w8 w8.heap.size _ ix) := hide ((((unhide P7).dat).below (drew_below w7)).below hb); have Q8 : Hid (DatAt w8 w8.heap.size _ dt) := hide ((((unhide Q7).dat).below (drew_below w7)).below hb); have E8 := hide hd1; have F8 := hide hd2; have X8 := hide (((unhide X7).below (drew_below w7)).below hb); have W8 : Hid (Below w7.heap.size w7 w8) := hide ((drew_below w7).trans hb); obtain ⟨⟨k0, k1⟩, _, _⟩ := unhide X8; clear hb hd1 hd2) | (go_at_call 19; refine (eqTrie_any _ _ _ _ ix dt _ ((unhide P8).ints (Nat.le_refl _)) ((unhide Q8).ints (Nat.le_refl _)) ((unhide E8).ints (Nat.le_refl _)) ((unhide F8).ints (Nat.le_refl _)) (by omega) (by omega)).mono ?_; rintro e w9 ⟨rfl, hb⟩; have W9 := hide ((unhide W8).trans (hb.mono (unhide W8).size)); clear hb))
      all_goals
        go_wp2_with fail
        go_meet
        exact ⟨rfl, W9⟩
    case rest =>
      obtain ⟨rfl, TC⟩ := hcut
      have G8 := hide ((unhide G7).below (unhide TC))
      have P8 := hide ((unhide P7).below (unhide TC))
      have Q8 := hide ((unhide Q7).below (unhide TC))
      have X8 := hide ((unhide X7).below (unhide TC))
      have B8 := hide ((unhide B7).below (unhide TC))
      have S8 := hide ((unhide S7).below (unhide TC))
      have W8 := hide ((unhide W7).trans ((unhide TC).mono (unhide W7).size))
      have z8 := (unhide TC).size
      clear G7 P7 Q7 X7 B7 S7 W7 TC
      obtain ⟨⟨x0, x1⟩, _, _⟩ := unhide X8
      go_wp2_with fail
      refine (markTrie_any g1 g2 ix dt _ hg2 (by omega) (by omega) (unhide P8) (unhide Q8)).mono ?_
      rintro e w9 ⟨rfl, ht⟩
      have G9 := hide (ht.row (unhide G8) (fun k hk => by have := unhide N6 k hk; omega))
      have S9 := hide (ht.row (unhide S8) (fun k hk => by have := unhide N3 k hk; omega))
      have B9 := hide (ht.box (unhide B8) (by omega) (by omega))
      have W9 := hide ((unhide W8).trans (ht.below (by omega) (by omega) (unhide W8).size))
      have z9 := ht.1
      clear ht G8 P8 Q8 X8 B8 S8 W8 x0 x1
      have hpos : ¬ (1 + (ix.length : Int) + (dt.length : Int)) < 0 := by omega
      go_wp2_with fail
      refine (eqSpans _ _ M _ _ _ (unhide G9) (unhide S9) (by omega)).mono ?_
      rintro e w14 ⟨rfl, hb⟩
      have G14 := hide ((unhide G9).below hb)
      have S14 := hide ((unhide S9).below hb)
      have B14 := hide ((unhide B9).below hb)
      have W14 := hide ((unhide W9).trans (hb.mono (unhide W9).size))
      have z14 := hb.size
      clear hb G9 S9 B9 W9
      go_wp2_with fail
      refine (markV _ _ M _ (unhide G14) (by omega)).mono ?_
      rintro e w15 ⟨rfl, hm, hb⟩
      have M15 := hide hm
      have S15 := hide (row_belowB (unhide S14) hb (fun k hk => by have := unhide N3 k hk; omega))
      have B15 := hide ((unhide B14).belowB hb (by omega))
      have W15 := hide ((unhide W14).trans (hb.mono (by omega)))
      have z15 := hb.size
      clear hm hb G14 S14 B14 W14
      have hpos2 : ¬ (1 + (M.length : Int) * 3) < 0 := by omega
      have hne : ((1 + (M.length : Int) * 3) != (1 + (M.length : Int) * 3)) = false := by simp
      go_wp2_with fail
      refine (heldV _ _ M.length _ (unhide M15) (by omega)).mono ?_
      rintro e w16 ⟨rfl, rfl⟩
      obtain ⟨⟨x0, x1⟩, _, _⟩ := unhide B15
      go_wp2_with fail
      refine (toTrie_any _ _ _ _ ix dt _ ((unhide HI).below (unhide W15)) ((unhide HD).below (unhide W15)) (by omega) (by omega)).mono ?_
      rintro e w17 ⟨h1, h2, rfl, hd1, hd2, hb⟩
      have P17 := hide hd1
      have Q17 := hide hd2
      have M17 := hide ((unhide M15).below hb)
      have S17 := hide ((unhide S15).below hb)
      have W17 := hide ((unhide W15).trans (hb.mono (unhide W15).size))
      clear hb hd1 hd2 M15 S15 W15 B15 x0 x1
      go_wp2_with fail
      refine (implTS _ _ ix dt _ (unhide P17) (unhide Q17) (by omega) (by omega)).mono ?_
      rintro e w19 ⟨hv, M3, rfl, hso, _, hs, hb⟩
      obtain rfl := tsOf_one (unhide HSO) hso
      have H19 := hide hs
      have M19 := hide ((unhide M17).below hb)
      have S19 := hide ((unhide S17).below hb)
      have W19 := hide ((unhide W17).trans (hb.mono (unhide W17).size))
      clear hso hs hb P17 Q17 M17 S17 W17
      go_wp2_with fail
      refine (eqSpans _ _ M _ _ _ (unhide H19) (unhide S19) (by omega)).mono ?_
      rintro e w20 ⟨rfl, hb⟩
      have M20 := hide ((unhide M19).below hb)
      have W20 := hide ((unhide W19).trans (hb.mono (unhide W19).size))
      clear hb M19 W19 H19 S19
      go_wp2_with fail
      refine (heldV _ _ M.length _ (unhide M20) (by omega)).mono ?_
      rintro e w21 ⟨rfl, rfl⟩
      go_wp2
      go_ret
      exact ⟨rfl, unhide W20⟩
end Go.Proofs.Ytnaebifmnhgjiaa
