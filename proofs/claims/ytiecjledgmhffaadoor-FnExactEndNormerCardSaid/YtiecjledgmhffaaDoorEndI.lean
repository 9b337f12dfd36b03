/- EndNormer of the program, and the law. -/
import Derived.Test.YtiecjledgmhffaaDoorEndN
namespace Go.Proofs.YtiecjledgmhffaaDoor
open Go.RowKit
set_option maxHeartbeats 2000000 in
set_option maxRecDepth 100000 in
theorem implEnd (f : Int) (s : ByteArray) (w : World) (hT : Lib.Utf8Tabs (Tryd.laysValid_ren.g 3) (Tryd.laysValid_ren.g 4) w) :
    Calls Tryd.prog 17 #[.agg #[.int .i64 f, .string s]] w fun e w' => e = .returned (endV f s) ∧ Below w.heap.size w w' := by
  have mixed := mixedO
  have CN := hide (fun W (h : Below w.heap.size w W) => implNF f s W (Utf8Tabs_below hT h))
  have hW : ((w.alloc (.cells #[.int .i64 f, .string s] 28)).alloc (.cells #[.int .i64 0, .int .i64 0, .string ⟨#[]⟩, .string ⟨#[]⟩] 32)).heap.size = w.heap.size + 2 := by simp
  cases hn : nfB f s with
  | true =>
    have HV : Hid (endV f s = .agg #[.int .i64 1, .int .i64 0, .string ⟨#[]⟩, .string ⟨#[]⟩]) := hide (by unfold endV; rw [if_pos hn])
    have ho : nfOut f s = 1 := by unfold nfOut; rw [if_pos hn]
    rw [ho] at CN
    clear hn ho hT
    generalize endV f s = V at *
    go_enter Tryd.func17, Tryd.ntmps17
    go_wp2_with fail
    refine ((unhide CN) _ (two_below w _ _)).mono ?_
    rintro e w2 ⟨rfl, hb2⟩
    have hh : w2.heap[w.heap.size + 1]? = some (.cells #[.int .i64 0, .int .i64 0, .string ⟨#[]⟩, .string ⟨#[]⟩] 32 (0, 0)) := (hb2.block (w.heap.size + 1) (by omega)).trans (by have := heap_alloc_new (w.alloc (.cells #[.int .i64 f, .string s] 28)) (.cells #[.int .i64 0, .int .i64 0, .string ⟨#[]⟩, .string ⟨#[]⟩] 32); simpa using this)
    obtain ⟨c0, c1, c2, c3, z0, z1, z2, z3⟩ := four_cells hh
    obtain ⟨p0, p1, p2, p3⟩ := four_put hh (.int .i64 1) (.int .i64 0) (.string ⟨#[]⟩) (.string ⟨#[]⟩)
    have B2 := hide (four_below ((two_below w _ _).trans (hb2.mono (by omega))) (show w.heap.size ≤ w.heap.size + 1 by omega) (.int .i64 1) (.int .i64 0) (.string ⟨#[]⟩) (.string ⟨#[]⟩))
    clear hh hb2 CN hW
    go_wp2
    try simp only [Exit.inBlock, Exit.then]
    refine bodyPost_ret (by simp [results, Tryd.results17, go_sem, p0, p1, p2, p3]; try rfl) rfl ?_
    exact ⟨by rw [unhide HV], unhide B2⟩
  | false =>
    obtain ⟨hf, hs⟩ := nf_parts hn
    have HV : Hid (endV f s = .agg #[.int .i64 0, .int .i64 f, .string ⟨#[]⟩, .string (strOfNums (nrmT f s))]) := hide (by unfold endV; rw [if_neg (by rw [hn]; simp)])
    have ho : nfOut f s = 0 := by unfold nfOut; rw [if_neg (by rw [hn]; simp)]
    have CT := hide (fun W => implNormalize f s W (by omega))
    rw [nml_end hf hs] at CT
    rw [ho] at CN
    clear hn ho hf hs hT
    generalize endV f s = V at *
    generalize strOfNums (nrmT f s) = t at *
    go_enter Tryd.func17, Tryd.ntmps17
    go_wp2_with fail
    refine ((unhide CN) _ (two_below w _ _)).mono ?_
    rintro e w2 ⟨rfl, hb2⟩
    have hh : w2.heap[w.heap.size + 1]? = some (.cells #[.int .i64 0, .int .i64 0, .string ⟨#[]⟩, .string ⟨#[]⟩] 32 (0, 0)) := (hb2.block (w.heap.size + 1) (by omega)).trans (by have := heap_alloc_new (w.alloc (.cells #[.int .i64 f, .string s] 28)) (.cells #[.int .i64 0, .int .i64 0, .string ⟨#[]⟩, .string ⟨#[]⟩] 32); simpa using this)
    have f0 := hb2.cell (p := ⟨w.heap.size, 0, none⟩) (by simp; omega)
    have f1 := hb2.cell (p := ⟨w.heap.size, 1, none⟩) (by simp; omega)
    simp at f0 f1
    have hfl := block_lt_of_cell f0
    have HH := hide hh
    have hol : w.heap.size + 1 < w2.heap.size := (Array.getElem?_eq_some_iff.1 hh).1
    have B2 := hide ((two_below w (.cells #[.int .i64 f, .string s] 28) (.cells #[.int .i64 0, .int .i64 0, .string ⟨#[]⟩, .string ⟨#[]⟩] 32)).trans (hb2.mono (by omega)))
    have hbs := (unhide B2).size
    clear hh hb2 CN hW
    go_upto_region 3 with fail
    go_region_law (refine step_call rfl 40 #[.tmp 11, .tmp 13] #[2, 9] rfl #[.int .i64 f, .string s] (by simp [Act.eval, Act.put]) (by kernel_rfl) (((unhide CT) _).mono ?_); rintro e w3 ⟨rfl, hb3⟩; have q0 := (hb3.cell (p := ⟨w.heap.size, 0, none⟩) hfl).trans f0; have hh3 := (hb3.block (w.heap.size + 1) hol).trans (unhide HH); obtain ⟨c0, c1, c2, c3, z0, z1, z2, z3⟩ := four_cells hh3; obtain ⟨p0, p1, p2, p3⟩ := four_put hh3 (.int .i64 0) (.int .i64 f) (.string ⟨#[]⟩) (.string t); have B3 := hide (four_below ((bdrew (unhide B2) _).trans (hb3.mono hbs)) (show w.heap.size ≤ w.heap.size + 1 by omega) (.int .i64 0) (.int .i64 f) (.string ⟨#[]⟩) (.string t)); clear hh3 hb3; refine ⟨_, rfl, ?_⟩)
    all_goals
      go_wp2
      try simp only [Exit.inBlock, Exit.then]
      refine bodyPost_ret (by simp [results, Tryd.results17, go_sem, p0, p1, p2, p3]; try rfl) rfl ?_
      exact ⟨by rw [unhide HV], unhide B3⟩
/-- Two answers alike. -/
theorem eqN (f : Int) (h : ByteArray) (w : World) : Calls Tryd.prog 38 #[.agg #[.int .i64 f, .string h], .agg #[.int .i64 f, .string h]] w fun e w' => e = .returned (.bool true) ∧ Below w.heap.size w w' := by
  go_enter Tryd.func38, Tryd.ntmps38
  go_wp2
  go_ret
  exact ⟨rfl, two_below _ _ _⟩
set_option maxRecDepth 100000 in
theorem eqOut (c f : Int) (h t : ByteArray) (w : World) : Calls Tryd.prog 15 #[.agg #[.int .i64 c, .int .i64 f, .string h, .string t], .agg #[.int .i64 c, .int .i64 f, .string h, .string t]] w fun e w' => e = .returned (.bool true) ∧ Below w.heap.size w w' := by
  have CE := hide (fun W => eqN f h W)
  go_enter Tryd.func15, Tryd.ntmps15
  go_wp2_with fail
  refine ((unhide CE) _).mono ?_
  rintro e w2 ⟨rfl, hb2⟩
  have f0 := hb2.cell (p := ⟨w.heap.size, 3, none⟩) (by simp; omega)
  have f1 := hb2.cell (p := ⟨w.heap.size + 1, 3, none⟩) (by simp)
  simp at f0 f1
  have B2 := hide ((two_below w (.cells #[.int .i64 c, .int .i64 f, .string h, .string t] 32) (.cells #[.int .i64 c, .int .i64 f, .string h, .string t] 32)).trans (hb2.mono (by simp; omega)))
  clear hb2 CE
  go_wp2
  go_ret
  exact ⟨rfl, unhide B2⟩
theorem endV_form (f : Int) (s : ByteArray) : ∃ c f' h t, endV f s = .agg #[.int .i64 c, .int .i64 f', .string h, .string t] := by
  unfold endV
  split
  · exact ⟨_, _, _, _, rfl⟩
  · exact ⟨_, _, _, _, rfl⟩
theorem kept2 {w1 w2 : World} {g : Nat} {x : Value} {j : Nat} (h : w1.cell? ⟨g, j, none⟩ = some x) (hb : Below w1.heap.size w1 w2) : w2.cell? ⟨g, j, none⟩ = some x := (hb.cell (p := ⟨g, j, none⟩) (block_lt_of_cell h)).trans h
set_option maxHeartbeats 1000000 in
set_option maxRecDepth 100000 in
theorem lawEnd (f : Int) (s : ByteArray) (w : World) (hm : s.size ≤ maxLen) (hT : Lib.Utf8Tabs (Tryd.laysValid_ren.g 3) (Tryd.laysValid_ren.g 4) w) :
    Calls Tryd.prog 6 #[.agg #[.int .i64 f, .string s]] w fun e w' => e = .returned (.bool true) ∧ Below w.heap.size w w' := by
  unfold maxLen at hm
  by_cases hs : 1048576 < s.size
  · have CZ := hide (fun W => szN_big f s W hs (by omega))
    clear hT
    go_enter Tryd.func6, Tryd.ntmps6
    go_wp2_with (go_at_call 9; refine ((unhide CZ) _).mono ?_; rintro e w1 ⟨rfl, hb1⟩)
    go_ret
    exact ⟨rfl, (one_below w _).trans (hb1.mono (by simp))⟩
  · have CZ := hide (fun W => szN f s W (by omega))
    have CT := hide (fun W => toN f s W)
    have CS := hide (fun W => specEnd f s W)
    have CI := hide (fun W (h : Below w.heap.size w W) => implEnd f s W (Utf8Tabs_below hT h))
    have hz : ¬ ((1048576 : Int) - (s.size : Int) < 0) := by omega
    obtain ⟨c, f', h, t, hV⟩ := endV_form f s
    rw [hV] at CS CI
    have CE := hide (fun W => eqOut c f' h t W)
    clear hT hV
    go_enter Tryd.func6, Tryd.ntmps6
    go_wp2_with fail
    refine ((unhide CZ) _).mono ?_
    rintro e w1 ⟨rfl, hb1⟩
    have f0 := hb1.cell (p := ⟨w.heap.size, 0, none⟩) (by simp)
    have f1 := hb1.cell (p := ⟨w.heap.size, 1, none⟩) (by simp)
    simp at f0 f1
    have B1 := hide ((one_below w (.cells #[.int .i64 f, .string s] 25)).trans (hb1.mono (by simp)))
    clear hb1 CZ
    go_wp2_with fail
    refine ((unhide CT) _).mono ?_
    rintro e w2 ⟨rfl, hb2⟩
    have g0 := kept2 f0 hb2
    have g1 := kept2 f1 hb2
    have B2 := hide ((unhide B1).trans (hb2.mono (unhide B1).size))
    clear hb2 f0 f1 B1
    go_wp2_with fail
    refine ((unhide CS) _).mono ?_
    rintro e w3 ⟨rfl, hb3⟩
    have B3 := hide ((unhide B2).trans (hb3.mono (unhide B2).size))
    have hb3' := hb3.trans ((one_below w3 (.cells #[.int .i64 c, .int .i64 f', .string h, .string t] 32)).mono hb3.size)
    have f0 := kept2 g0 hb3'
    have f1 := kept2 g1 hb3'
    have k0 := four_cells (heap_alloc_new w3 (.cells #[.int .i64 c, .int .i64 f', .string h, .string t] 32))
    have hs3 := (unhide B3).size
    clear hb3 hb3' g0 g1 B2 CS
    go_wp2_with fail
    refine ((unhide CT) _).mono ?_
    rintro e w4 ⟨rfl, hb4⟩
    have l0 := kept2 k0.1 hb4
    have l1 := kept2 k0.2.1 hb4
    have l2 := kept2 k0.2.2.1 hb4
    have l3 := kept2 k0.2.2.2.1 hb4
    have B4 := hide (((unhide B3).trans ((one_below w3 (.cells #[.int .i64 c, .int .i64 f', .string h, .string t] 32)).mono hs3)).trans (hb4.mono (by simp; omega)))
    clear hb4 f0 f1 B3 k0
    go_wp2_with fail
    refine ((unhide CI) _ (unhide B4)).mono ?_
    rintro e w5 ⟨rfl, hb5⟩
    have B5 := hide ((unhide B4).trans (hb5.mono (unhide B4).size))
    have hb5' := hb5.trans ((one_below w5 (.cells #[.int .i64 c, .int .i64 f', .string h, .string t] 32)).mono hb5.size)
    have m0 := kept2 l0 hb5'
    have m1 := kept2 l1 hb5'
    have m2 := kept2 l2 hb5'
    have m3 := kept2 l3 hb5'
    have hs5 := (unhide B5).size
    clear hb5 hb5' l0 l1 l2 l3 B4 CI CT
    go_wp2_with fail
    refine ((unhide CE) _).mono ?_
    rintro e w6 ⟨rfl, hb6⟩
    have B6 := hide (((unhide B5).trans ((one_below w5 (.cells #[.int .i64 c, .int .i64 f', .string h, .string t] 32)).mono hs5)).trans (hb6.mono (by simp; omega)))
    clear hb6 B5 m0 m1 m2 m3
    go_wp2
    go_ret
    exact ⟨rfl, unhide B6⟩
end Go.Proofs.YtiecjledgmhffaaDoor
