/- FeedNormer of both, all of it, and the law. -/
import Derived.Test.YtiecjledgmhffaaDoorFedI
namespace Go.Proofs.YtiecjledgmhffaaDoor
open Go.RowKit
set_option maxHeartbeats 1000000 in
set_option maxRecDepth 100000 in
theorem specFeed (f : Int) (h t : ByteArray) (w : World) :
    Calls Tryd.prog 13 #[.agg #[.int .i64 f, .string h], .string t] w fun e w' => e = .returned (feedV f h t) ∧ Below w.heap.size w w' := by
  by_cases ht : 65536 < t.size
  · have HV : Hid (feedV f h t = badV 2) := hide (by unfold feedV; rw [if_pos ht])
    have ht' : (65536 : Int) < (t.size : Int) := by omega
    have ob := (FSt.new w f h).ob
    have B2 := hide (two_below w (.cells #[.int .i64 f, .string h] 28) (.cells #[.int .i64 2, .int .i64 0, .string ⟨#[]⟩, .string ⟨#[]⟩] 32))
    clear ob
    go_enter Tryd.func13, Tryd.ntmps13
    go_wp2
    go_returns
    exact ⟨by rw [unhide HV]; rfl, unhide B2⟩
  · cases hn : nfB f h with
    | false => exact feedS_go f h t w (by omega) hn
    | true =>
      have HV : Hid (feedV f h t = badV 1) := hide (by unfold feedV; rw [if_neg ht, if_pos hn])
      have ho : nfOut f h = 1 := by unfold nfOut; rw [if_pos hn]
      have CN := hide (fun W => specNF f h W)
      rw [ho] at CN
      have ht' : (t.size : Int) ≤ 65536 := by omega
      clear hn ho
      go_enter Tryd.func13, Tryd.ntmps13
      go_wp2_with fail
      refine ((unhide CN) _).mono ?_
      rintro e w2 ⟨rfl, hb2⟩
      have F2 := (FSt.new w f h).below hb2
      have ob := F2.ob
      have bel8 := F2.bel
      obtain ⟨d0, d1, d2, d3, z0, z1, z2, z3⟩ := four_cells ob
      obtain ⟨p0, p1, p2, p3⟩ := four_put ob (.int .i64 1) (.int .i64 0) (.string ⟨#[]⟩) (.string ⟨#[]⟩)
      have B9 := hide (four_below bel8 (show w.heap.size ≤ w.heap.size + 1 by omega) (.int .i64 1) (.int .i64 0) (.string ⟨#[]⟩) (.string ⟨#[]⟩))
      clear ob bel8 F2 hb2 CN
      go_wp2
      try simp only [Exit.inBlock, Exit.then]
      refine bodyPost_ret (by simp [results, Tryd.results13, go_sem, p0, p1, p2, p3]; try rfl) rfl ?_
      exact ⟨by rw [unhide HV]; rfl, unhide B9⟩
set_option maxHeartbeats 1000000 in
set_option maxRecDepth 100000 in
theorem implFeed (f : Int) (h t : ByteArray) (w : World) (hT : Lib.Utf8Tabs (Tryd.laysValid_ren.g 3) (Tryd.laysValid_ren.g 4) w) :
    Calls Tryd.prog 14 #[.agg #[.int .i64 f, .string h], .string t] w fun e w' => e = .returned (feedV f h t) ∧ Below w.heap.size w w' := by
  by_cases ht : 65536 < t.size
  · have HV : Hid (feedV f h t = badV 2) := hide (by unfold feedV; rw [if_pos ht])
    have ht' : (65536 : Int) < (t.size : Int) := by omega
    have ob := (FSt.new w f h).ob
    have B2 := hide (two_below w (.cells #[.int .i64 f, .string h] 28) (.cells #[.int .i64 2, .int .i64 0, .string ⟨#[]⟩, .string ⟨#[]⟩] 32))
    clear ob hT
    go_enter Tryd.func14, Tryd.ntmps14
    go_wp2
    go_returns
    exact ⟨by rw [unhide HV]; rfl, unhide B2⟩
  · cases hn : nfB f h with
    | false => exact feedI_go f h t w (by omega) hn hT
    | true =>
      have HV : Hid (feedV f h t = badV 1) := hide (by unfold feedV; rw [if_neg ht, if_pos hn])
      have ho : nfOut f h = 1 := by unfold nfOut; rw [if_pos hn]
      have CN := hide (fun W (q : Below w.heap.size w W) => implNF f h W (Utf8Tabs_below hT q))
      rw [ho] at CN
      have ht' : (t.size : Int) ≤ 65536 := by omega
      clear hn ho hT
      go_enter Tryd.func14, Tryd.ntmps14
      go_wp2_with fail
      refine ((unhide CN) _ (two_below w _ _)).mono ?_
      rintro e w2 ⟨rfl, hb2⟩
      have F2 := (FSt.new w f h).below hb2
      have ob := F2.ob
      have bel8 := F2.bel
      obtain ⟨d0, d1, d2, d3, z0, z1, z2, z3⟩ := four_cells ob
      obtain ⟨p0, p1, p2, p3⟩ := four_put ob (.int .i64 1) (.int .i64 0) (.string ⟨#[]⟩) (.string ⟨#[]⟩)
      have B9 := hide (four_below bel8 (show w.heap.size ≤ w.heap.size + 1 by omega) (.int .i64 1) (.int .i64 0) (.string ⟨#[]⟩) (.string ⟨#[]⟩))
      clear ob bel8 F2 hb2 CN
      go_wp2
      try simp only [Exit.inBlock, Exit.then]
      refine bodyPost_ret (by simp [results, Tryd.results14, go_sem, p0, p1, p2, p3]; try rfl) rfl ?_
      exact ⟨by rw [unhide HV]; rfl, unhide B9⟩
theorem feedV_form (f : Int) (s x : ByteArray) : ∃ c f' h t, feedV f s x = .agg #[.int .i64 c, .int .i64 f', .string h, .string t] := by
  unfold feedV badV
  split
  · exact ⟨_, _, _, _, rfl⟩
  split
  · exact ⟨_, _, _, _, rfl⟩
  split
  · exact ⟨_, _, _, _, rfl⟩
  split
  · exact ⟨_, _, _, _, rfl⟩
  · exact ⟨_, _, _, _, rfl⟩
set_option maxHeartbeats 1000000 in
set_option maxRecDepth 100000 in
theorem lawFeed (f : Int) (s x : ByteArray) (w : World) (hm : s.size ≤ maxLen) (hT : Lib.Utf8Tabs (Tryd.laysValid_ren.g 3) (Tryd.laysValid_ren.g 4) w) :
    Calls Tryd.prog 5 #[.agg #[.int .i64 f, .string s], .string x] w fun e w' => e = .returned (.bool true) ∧ Below w.heap.size w w' := by
  unfold maxLen at hm
  by_cases hx : 1048576 < x.size
  · have hx' : (1048576 : Int) < (x.size : Int) := by omega
    clear hT
    go_enter Tryd.func5, Tryd.ntmps5
    go_wp2
    go_ret
    exact ⟨rfl, one_below _ _⟩
  have hx' : (x.size : Int) ≤ 1048576 := by omega
  by_cases hs : 1048576 < s.size
  · have CZ := hide (fun W => szN_big f s W hs (by omega))
    clear hT
    go_enter Tryd.func5, Tryd.ntmps5
    go_wp2_with (go_at_call 9; refine ((unhide CZ) _).mono ?_; rintro e w1 ⟨rfl, hb1⟩)
    go_ret
    exact ⟨rfl, (one_below w _).trans (hb1.mono (by simp))⟩
  · have CZ := hide (fun W => szN f s W (by omega))
    have CT := hide (fun W => toN f s W)
    have CS := hide (fun W => specFeed f s x W)
    have CI := hide (fun W (h : Below w.heap.size w W) => implFeed f s x W (Utf8Tabs_below hT h))
    have hz : ¬ ((1048576 : Int) - (s.size : Int) < 0) := by omega
    obtain ⟨c, f', h, t, hV⟩ := feedV_form f s x
    rw [hV] at CS CI
    have CE := hide (fun W => eqOut c f' h t W)
    clear hT hV
    go_enter Tryd.func5, Tryd.ntmps5
    go_wp2_with fail
    refine ((unhide CZ) _).mono ?_
    rintro e w1 ⟨rfl, hb1⟩
    have f0 := hb1.cell (p := ⟨w.heap.size, 0, none⟩) (by simp)
    have f1 := hb1.cell (p := ⟨w.heap.size, 1, none⟩) (by simp)
    simp at f0 f1
    have B1 := hide ((one_below w (.cells #[.int .i64 f, .string s] 25)).trans (hb1.mono (by simp)))
    clear hb1 CZ
    go_wp2_with fail
    refine ((unhide CT) _).mono ?_
    rintro e w2 ⟨rfl, hb2⟩
    have g0 := kept2 f0 hb2
    have g1 := kept2 f1 hb2
    have B2 := hide ((unhide B1).trans (hb2.mono (unhide B1).size))
    clear hb2 f0 f1 B1
    go_wp2_with fail
    refine ((unhide CS) _).mono ?_
    rintro e w3 ⟨rfl, hb3⟩
    have B3 := hide ((unhide B2).trans (hb3.mono (unhide B2).size))
    have hb3' := hb3.trans ((one_below w3 (.cells #[.int .i64 c, .int .i64 f', .string h, .string t] 32)).mono hb3.size)
    have f0 := kept2 g0 hb3'
    have f1 := kept2 g1 hb3'
    have k0 := four_cells (heap_alloc_new w3 (.cells #[.int .i64 c, .int .i64 f', .string h, .string t] 32))
    have hs3 := (unhide B3).size
    clear hb3 hb3' g0 g1 B2 CS
    go_wp2_with fail
    refine ((unhide CT) _).mono ?_
    rintro e w4 ⟨rfl, hb4⟩
    have l0 := kept2 k0.1 hb4
    have l1 := kept2 k0.2.1 hb4
    have l2 := kept2 k0.2.2.1 hb4
    have l3 := kept2 k0.2.2.2.1 hb4
    have B4 := hide (((unhide B3).trans ((one_below w3 (.cells #[.int .i64 c, .int .i64 f', .string h, .string t] 32)).mono hs3)).trans (hb4.mono (by simp; omega)))
    clear hb4 f0 f1 B3 k0
    go_wp2_with fail
    refine ((unhide CI) _ (unhide B4)).mono ?_
    rintro e w5 ⟨rfl, hb5⟩
    have B5 := hide ((unhide B4).trans (hb5.mono (unhide B4).size))
    have hb5' := hb5.trans ((one_below w5 (.cells #[.int .i64 c, .int .i64 f', .string h, .string t] 32)).mono hb5.size)
    have m0 := kept2 l0 hb5'
    have m1 := kept2 l1 hb5'
    have m2 := kept2 l2 hb5'
    have m3 := kept2 l3 hb5'
    have hs5 := (unhide B5).size
    clear hb5 hb5' l0 l1 l2 l3 B4 CI CT
    go_wp2_with fail
    refine ((unhide CE) _).mono ?_
    rintro e w6 ⟨rfl, hb6⟩
    have B6 := hide (((unhide B5).trans ((one_below w5 (.cells #[.int .i64 c, .int .i64 f', .string h, .string t] 32)).mono hs5)).trans (hb6.mono (by simp; omega)))
    clear hb6 B5 m0 m1 m2 m3
    go_wp2
    go_ret
    exact ⟨rfl, unhide B6⟩
end Go.Proofs.YtiecjledgmhffaaDoor
