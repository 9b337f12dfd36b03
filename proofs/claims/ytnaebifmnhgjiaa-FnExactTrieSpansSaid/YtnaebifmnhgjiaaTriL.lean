/- Tries held against each other; what a trie tells of a point; the laws of TrieFault and TrieAt. -/
import Derived.Test.YtnaebifmnhgjiaaTriO
namespace Go.Proofs.Ytnaebifmnhgjiaa
open Go.ChangeShapes Go.WideShapes Go.ChangeAt Go.RowKit Go.Deep
set_option maxHeartbeats 1000000 in
theorem eqI_any (v1 v2 : Value) (l1 l2 : List Int) (w : World) (h1 : IntsAt w v1 l1) (h2 : IntsAt w v2 l2) (hl1 : l1.length ≤ 1048576) (_ : l2.length ≤ 1048576) :
    Calls Try.prog 51 #[v1, v2] w fun e w' => e = .returned (.bool (sameB l1 l2)) ∧ ∃ n, w' = w.drewN n := by
  obtain ⟨a1, c1, rfl, h1⟩ := h1
  obtain ⟨a2, c2, rfl, h2⟩ := h2
  have H1 := hide h1
  have H2 := hide h2
  clear h1 h2
  by_cases hne : l1.length = l2.length
  · have hne' : ((l1.length : Int) != (l2.length : Int)) = false := by simp; omega
    have HE := hide hne
    have hle : (l1.length : Int) = (l2.length : Int) := by omega
    clear hne
    go_enter Try.func51, Try.ntmps51
    go_wp2
    go_loopw [5] (fun i wr => ∃ k n : Nat, k ≤ l1.length ∧ i = .int .i64 k ∧ wr = w.drewN n ∧ Hid (∀ j, j < k → nth l1 j = nth l2 j)) (fun i _ => l1.length - (intOf i).toNat)
    case atStart => exact ⟨0, 0, Nat.zero_le _, rfl, rfl, hide (fun j hj => by omega)⟩
    case round =>
      obtain ⟨k, n, hk, rfl, rfl, HC⟩ := hrel
      by_cases hlt : k < l1.length
      · have hlt2 : k < l2.length := by have := unhide HE; omega
        rcases unhide H1 with e | ⟨b1, o1, rfl, hb1, hc1⟩
        · rw [e] at hlt; simp at hlt
        rcases unhide H2 with e | ⟨b2, o2, rfl, hb2, hc2⟩
        · rw [e] at hlt2; simp at hlt2
        have d1 := hc1 k hlt
        have d2 := hc2 k hlt2
        have i1 : (k : Int) < (l1.length : Int) := by omega
        have i2 : (k : Int) < (l2.length : Int) := by omega
        clear hc1 hc2
        by_cases he : nth l1 k = nth l2 k
        · have HC' : Hid (∀ j, j < k + 1 → nth l1 j = nth l2 j) := hide (fun j hj => by
            by_cases e : j = k
            · rw [e]; exact he
            · exact unhide HC j (by omega))
          have he' : (nth l1 k != nth l2 k) = false := by simp [he]
          clear he
          generalize nth l1 k = x at *
          generalize nth l2 k = y at *
          go_wp2_with fail
          go_quiet (fail)
          go_wp2
          go_roundw
          case rel => exact ⟨k + 1, _, by omega, by go_num, rfl, HC'⟩
          case measure => simp [intOf]; omega
        · have HN : Hid (sameB l1 l2 = false) := hide (decide_eq_false (ne_nth he))
          have he' : (nth l1 k != nth l2 k) = true := by simp [he]
          clear he
          generalize nth l1 k = x at *
          generalize nth l2 k = y at *
          go_wp2_with fail
          go_quiet (fail)
          go_wp2
          go_ret
          exact ⟨ret_bool (unhide HN).symm, _, drewN_add _ _ _⟩
      · have HN : Hid (sameB l1 l2 = true) := hide (decide_eq_true (ext_nth (unhide HE) (fun j hj => unhide HC j (by omega))))
        go_wp2
        go_ret
        exact ⟨ret_bool (unhide HN).symm, n, rfl⟩
  · have hne' : ((l1.length : Int) != (l2.length : Int)) = true := by simp; omega
    have HN : Hid (sameB l1 l2 = false) := hide (decide_eq_false (fun e => hne (by rw [e])))
    clear hne
    go_enter Try.func51, Try.ntmps51
    go_wp2
    go_ret
    exact ⟨ret_bool (unhide HN).symm, 0, rfl⟩
theorem sameB_self (l : List Int) : sameB l l = true := by simp [sameB]
set_option maxHeartbeats 1000000 in
theorem eqTrie_any (v1 v2 u1 u2 : Value) (ix dt : List Int) (w : World) (h1 : IntsAt w v1 ix) (h2 : IntsAt w v2 dt) (k1 : IntsAt w u1 ix) (k2 : IntsAt w u2 dt) (l1 : ix.length ≤ 1048576) (l2 : dt.length ≤ 1048576) :
    Calls Try.prog 19 #[.agg #[v1, v2], .agg #[u1, u2]] w fun e w' => e = .returned (.bool true) ∧ Below w.heap.size w w' := by
  have H1 := hide h1
  have H2 := hide h2
  have K1 := hide k1
  have K2 := hide k2
  obtain ⟨a1, c1, rfl, _⟩ := h1
  obtain ⟨a2, c2, rfl, _⟩ := h2
  obtain ⟨b1, d1, rfl, _⟩ := k1
  obtain ⟨b2, d2, rfl, _⟩ := k2
  have HB1 : Hid (∀ o o', Below w.heap.size w ((w.alloc o).alloc o')) := hide (fun o o' => ((Below.refl _ _).alloc (Nat.le_refl _) o).alloc (by simp) o')
  go_enter Try.func19, Try.ntmps19
  go_wp2_with fail
  refine (eqI_any _ _ ix ix _ ((unhide H1).below (unhide HB1 _ _)) ((unhide K1).below (unhide HB1 _ _)) l1 l1).mono ?_
  rintro e w2 ⟨rfl, n, rfl⟩
  rw [sameB_self]
  go_wp2_with fail
  refine (eqI_any _ _ dt dt _ (((unhide H2).below (unhide HB1 _ _)).drewN n) (((unhide K2).below (unhide HB1 _ _)).drewN n) l2 l2).mono ?_
  rintro e w2 ⟨rfl, m, rfl⟩
  rw [sameB_self]
  go_wp2
  go_ret
  exact ⟨rfl, bdrew (unhide HB1 _ _) _⟩
theorem ints_of_trod {H : Type} {enc : TypeId × Value → H} {w : World} {held : Bool} {base fuel : Nat} {v : Value} {y : DataW H × List MemPlace} (hf : DataW.trod enc Try.prog w base (fun _ => true) held fuel 29 [v] = some y) : ∃ l, IntsAt w v l ∧ l.length ≤ maxLen := by
  rcases open_ints Try.underlying29 Try.underlying2 int_cells hf with ⟨hcs, _⟩ | ⟨x, len, cap, zs, hcs, _, hl, hm, hz, _, hcell, _⟩
  · simp at hcs
    subst hcs
    exact ⟨[], ⟨none, 0, rfl, .inl rfl⟩, by simp⟩
  · simp at hcs
    subst hcs
    have hz' : zs.length = cap := by simpa using hz
    have hlen : (zs.take len).length = len := by simp; omega
    refine ⟨zs.take len, ⟨some x, cap, by rw [hlen], ?_⟩, by rw [hlen]; omega⟩
    by_cases h0 : len = 0
    · exact .inl (List.length_eq_zero_iff.1 (by omega))
    · obtain ⟨b, off, rfl⟩ := add_spot (hcell 0 (by omega))
      have hb := block_lt_of_cell (hcell 0 (by omega))
      rw [addr_add] at hb
      refine .inr ⟨b, off, rfl, hb, fun i hi => ?_⟩
      have := hcell i (by omega)
      rw [addr_add] at this
      rw [this]
      have e : nth (zs.take len) i = zs.getD i 0 := by simp [nth, List.getD, show i < len by omega]
      rw [e]
theorem ints_cells : Try.prog.cellsOf 29 = 1 := by kernel_rfl
theorem trie_cells : Try.prog.cellsOf 37 = 2 := by kernel_rfl
set_option maxRecDepth 100000 in
theorem open_trie {H : Type} {enc : TypeId × Value → H} {w : World} {held : Bool} {b0 : Nat} {r : Reach} {base : Nat} {v : Value} {d : DataW H} {ps : List MemPlace} (hval : Value.okWide Try.prog w r b0 37 v) (h : DataW.Trod enc Try.prog w base (fun _ => true) held 37 v d ps) :
    ∃ vi vd ix dt, v = .agg #[vi, vd] ∧ IntsAt w vi ix ∧ IntsAt w vd dt ∧ ix.length ≤ maxLen ∧ dt.length ≤ maxLen := by
  obtain ⟨fuel, hf⟩ := h
  obtain ⟨cs, rfl, hcs⟩ := okWide_struct Try.underlying37 hval
  rw [trie_cells] at hcs
  obtain ⟨xs, k, hk, hxy, _, hxl, hfl⟩ := DataW.trod_struct Try.underlying37 hf
  obtain ⟨vi, vd, rfl⟩ : ∃ vi vd, cs = #[vi, vd] := by
    obtain ⟨l⟩ := cs
    match l, hcs with
    | [vi, vd], _ => exact ⟨vi, vd, rfl⟩
  have g0 := hfl 0 _ rfl
  have g1 := hfl 1 _ rfl
  simp [ints_cells, Value.cells] at g0 g1
  have j0 : ∃ y, DataW.trod enc Try.prog w base (fun _ => true) held k 29 [vi] = some y := by
    match xs, hxl with
    | [y0, y1], _ => exact ⟨_, g0⟩
  have j1 : ∃ y, DataW.trod enc Try.prog w base (fun _ => true) held k 29 [vd] = some y := by
    match xs, hxl with
    | [y0, y1], _ => exact ⟨_, g1⟩
  obtain ⟨_, j0⟩ := j0
  obtain ⟨_, j1⟩ := j1
  obtain ⟨ix, a0, m0⟩ := ints_of_trod j0
  obtain ⟨dt, a1, m1⟩ := ints_of_trod j1
  exact ⟨vi, vd, ix, dt, rfl, a0, a1, m0, m1⟩
theorem bdrew1 {B : Nat} {a w : World} (h : Below B a w) : Below B a w.drew := h.trans ⟨rfl, rfl, rfl, Nat.le_refl _, fun _ _ => rfl⟩
set_option maxHeartbeats 2000000 in
theorem lawTrieFault (vi vd : Value) (ix dt : List Int) (w : World) (hi : IntsAt w vi ix) (hd : IntsAt w vd dt) (mi : ix.length ≤ maxLen) (md : dt.length ≤ maxLen) :
    Calls Try.prog 5 #[.agg #[vi, vd]] w fun e w' => e = .returned (.bool true) ∧ Below w.heap.size w w' := by
  have HI := hide hi
  have HD := hide hd
  obtain ⟨a1, c1, rfl, _⟩ := hi
  obtain ⟨a2, c2, rfl, _⟩ := hd
  unfold maxLen at mi md
  go_enter Try.func5, Try.ntmps5
  go_upto_region 1 with fail
  have B0 := hide (Box.new w (.slice a1 ix.length c1) (.slice a2 dt.length c2) 37)
  have W0 : Hid (Below w.heap.size w (w.alloc (.cells #[.slice a1 ix.length c1, .slice a2 dt.length c2] 37))) := hide ((Below.refl _ _).alloc (Nat.le_refl _) _)
  generalize w.alloc (.cells #[.slice a1 ix.length c1, .slice a2 dt.length c2] 37) = w0 at *
  obtain ⟨⟨x0, x1⟩, _, _⟩ := unhide B0
  go_wp2_with fail
  refine (szTrie_any _ _ _ _ _ _ _ (by omega) (by omega)).mono ?_
  rintro e w1 ⟨rfl, hb⟩
  have B1 := hide ((unhide B0).below hb)
  have W1 := hide ((unhide W0).trans (hb.mono (unhide W0).size))
  clear hb B0 W0 x0 x1
  by_cases hL : (1048576 : Int) < ix.length + dt.length
  · have hs : szL ix.length dt.length = -1 := by unfold szL; rw [if_pos hL]
    rw [hs]
    go_wp2
    go_ret
    exact ⟨rfl, unhide W1⟩
  · have hs : szL ix.length dt.length = 1048576 - ix.length - dt.length := by unfold szL; rw [if_neg hL]
    rw [hs]
    have hs' : ¬ (1048576 : Int) - ix.length - dt.length < 0 := by omega
    obtain ⟨⟨x0, x1⟩, _, _⟩ := unhide B1
    go_wp2_with fail
    refine (toTrie_any _ _ _ _ ix dt _ ((unhide HI).below (unhide W1)) ((unhide HD).below (unhide W1)) (by omega) (by omega)).mono ?_
    rintro e w2 ⟨g1, g2, rfl, hd1, hd2, hb⟩
    have P2 := hide hd1
    have Q2 := hide hd2
    have B2 := hide ((unhide B1).below hb)
    have W2 := hide ((unhide W1).trans (hb.mono (unhide W1).size))
    clear hb hd1 hd2 B1 W1 x0 x1
    go_wp2_with fail
    refine (specTF _ _ ix dt _ (unhide P2) (unhide Q2) (by omega) (by omega)).mono ?_
    rintro e w3 ⟨rfl, hb⟩
    have B3 := hide ((unhide B2).below hb)
    have W3 := hide ((unhide W2).trans (hb.mono (unhide W2).size))
    clear hb B2 W2 P2 Q2
    obtain ⟨⟨x0, x1⟩, _, _⟩ := unhide B3
    go_wp2_with fail
    refine (toTrie_any _ _ _ _ ix dt _ ((unhide HI).below (unhide W3)) ((unhide HD).below (unhide W3)) (by omega) (by omega)).mono ?_
    rintro e w4 ⟨g1, g2, rfl, hd1, hd2, hb⟩
    have P4 := hide hd1
    have Q4 := hide hd2
    have B4 := hide ((unhide B3).below hb)
    have W4 := hide ((unhide W3).trans (hb.mono (unhide W3).size))
    clear hb hd1 hd2 B3 W3 x0 x1
    go_upto_region 7 with fail
    have X5 := hide (Box.new w4 (.slice (some ⟨g1, 0, none⟩) ix.length ix.length) (.slice (some ⟨g2, 0, none⟩) dt.length dt.length) 31)
    have P5 := hide ((unhide P4).alloc (.cells #[.slice (some ⟨g1, 0, none⟩) ix.length ix.length, .slice (some ⟨g2, 0, none⟩) dt.length dt.length] 31))
    have Q5 := hide ((unhide Q4).alloc (.cells #[.slice (some ⟨g1, 0, none⟩) ix.length ix.length, .slice (some ⟨g2, 0, none⟩) dt.length dt.length] 31))
    have B5 := hide ((unhide B4).alloc (.cells #[.slice (some ⟨g1, 0, none⟩) ix.length ix.length, .slice (some ⟨g2, 0, none⟩) dt.length dt.length] 31))
    have W5 := hide ((unhide W4).alloc (unhide W4).size (.cells #[.slice (some ⟨g1, 0, none⟩) ix.length ix.length, .slice (some ⟨g2, 0, none⟩) dt.length dt.length] 31))
    clear P4 Q4 B4 W4
    generalize w4.alloc (.cells #[.slice (some ⟨g1, 0, none⟩) ix.length ix.length, .slice (some ⟨g2, 0, none⟩) dt.length dt.length] 31) = w5 at *
    generalize w4.heap.size = gx0 at *
    obtain ⟨⟨x0, x1⟩, _, _⟩ := unhide X5
    go_wp2_with fail
    refine (implTF _ _ ix dt _ (unhide P5) (unhide Q5) (by omega) (by omega)).mono ?_
    rintro e w6 ⟨rfl, hb⟩
    have P6 := hide ((unhide P5).below hb)
    have Q6 := hide ((unhide Q5).below hb)
    have X6 := hide ((unhide X5).below hb)
    have B6 := hide ((unhide B5).below hb)
    have W6 := hide ((unhide W5).trans (hb.mono (unhide W5).size))
    clear hb P5 Q5 X5 B5 W5 x0 x1
    have hne : (trieFault ix dt != trieFault ix dt) = false := by simp
    generalize trieFault ix dt = tf at *
    go_upto_region 10 with fail
    obtain ⟨⟨x0, x1⟩, _, _⟩ := unhide X6
    obtain ⟨⟨z0, z1⟩, _, _⟩ := unhide B6
    go_region_with (first | (go_at_call 25; refine (toTrie_any _ _ _ _ ix dt _ ((unhide HI).below (by first | exact unhide W6 | exact bdrew1 (unhide W6))) ((unhide HD).below (by first | exact unhide W6 | exact bdrew1 (unhide W6))) (by omega) (by omega)).mono ?_; rintro e w7 ⟨h1, h2, rfl, hd1, hd2, hb⟩; have P7 := hide (((unhide P6).below (drew_below _)).below hb); have Q7 := hide (((unhide Q6).below (drew_below _)).below hb); have E7 := hide hd1; have F7 := hide hd2; have X7 := hide (((unhide X6).below (drew_below _)).below hb); have W7 := hide ((unhide W6).trans ((drew_below _).trans hb |>.mono (unhide W6).size)); obtain ⟨⟨k0, k1⟩, _, _⟩ := unhide X7; clear hb hd1 hd2) | (go_at_call 19; refine (eqTrie_any _ _ _ _ ix dt _ ((unhide P7).ints (Nat.le_refl _)) ((unhide Q7).ints (Nat.le_refl _)) ((unhide E7).ints (Nat.le_refl _)) ((unhide F7).ints (Nat.le_refl _)) (by omega) (by omega)).mono ?_; rintro e w8 ⟨rfl, hb⟩; have W8 := hide ((unhide W7).trans (hb.mono (unhide W7).size)); clear hb))
    all_goals
      go_wp2
      go_ret
      exact ⟨rfl, unhide W8⟩
end Go.Proofs.Ytnaebifmnhgjiaa
