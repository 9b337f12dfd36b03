/- How large a font is; fonts that are alike. -/
import Derived.Test.YtccnjjkechdknaaFntC
namespace Go.Proofs.Ytccnjjkechdknaa.Fnt
open Go.RowKit
set_option linter.unusedVariables false
theorem allB_of {n : Nat} {Q : List (List Int)} (hl : Q.length = n * 4) (h : Frl.szk Q n ≤ 1048576) : Frl.AllB Q 1048576 := by
  intro k
  by_cases hk : k < n * 4
  · have h1 := Frl.szk_up Q (k / 4) n (by omega)
    unfold Frl.sz4 at h1
    have h2 : k = k / 4 * 4 ∨ k = k / 4 * 4 + 1 ∨ k = k / 4 * 4 + 2 ∨ k = k / 4 * 4 + 3 := by omega
    rcases h2 with e | e | e | e <;> rw [e] <;> omega
  · have : Frl.qn Q k = [] := by unfold Frl.qn; rw [List.getD_eq_getElem?_getD, List.getElem?_eq_none (by omega)]; rfl
    rw [this]; simp
/-- What is within the bounds of the law. -/
def Fit (LW : List Sp) (n : Nat) (Q : List (List Int)) (LK LA : List Sp) : Prop := LW.length ≤ 1048576 ∧ n ≤ 1048576 ∧ Frl.AllB Q 1048576 ∧ LK.length ≤ 1048576 ∧ LA.length ≤ 1048576
set_option maxRecDepth 100000 in
set_option maxHeartbeats 8000000 in
theorem szFont_any (wd : Int) (a1 a2 a3 a4 : Option Addr) (c1 c2 c3 c4 : Nat) (LW : List Sp) (n : Nat) (Q : List (List Int)) (LK LA : List Sp) (w : World) (h2 : Frl.RuI w (.slice a2 n c2) n Q) (b1 : LW.length ≤ 9223372036854775807) (b2 : n ≤ 9223372036854775807) (b5 : Frl.AllB Q 9223372036854775807) (b3 : LK.length ≤ 9223372036854775807) (b4 : LA.length ≤ 9223372036854775807) :
    Calls Try.prog 5 #[.agg #[.int .i64 wd, .slice a1 LW.length c1, .slice a2 n c2, .slice a3 LK.length c3, .slice a4 LA.length c4], .int .i64 1048576] w fun e w' => ∃ S : Int, e = .returned (.int .i64 S) ∧ (0 ≤ S → Fit LW n Q LK LA) ∧ Below w.heap.size w w' := by
  have B1 := hide ((Below.refl w.heap.size w).alloc (Nat.le_refl _) (.cells #[.int .i64 wd, .slice a1 LW.length c1, .slice a2 n c2, .slice a3 LK.length c3, .slice a4 LA.length c4] 26))
  have hQ := h2.1
  have hq := Frl.heap_new w (.cells #[.int .i64 wd, .slice a1 LW.length c1, .slice a2 n c2, .slice a3 LK.length c3, .slice a4 LA.length c4] 26)
  have hqs : w.heap.size < (w.alloc (.cells #[.int .i64 wd, .slice a1 LW.length c1, .slice a2 n c2, .slice a3 LK.length c3, .slice a4 LA.length c4] 26)).heap.size := by simp
  have C1 := hide (fun W => szSpans_any a1 LW.length c1 1048576 (by omega) W b1)
  have HF : Hid (LW.length ≤ 1048576 → n ≤ 1048576 → Frl.szk Q n ≤ 1048576 → LK.length ≤ 1048576 → LA.length ≤ 1048576 → Fit LW n Q LK LA) := hide (fun x1 x2 x3 x4 x5 => ⟨x1, x2, allB_of hQ x3, x4, x5⟩)
  by_cases t1 : (1048576 : Int) - (LW.length : Int) < 0
  · rw [if_pos t1] at C1
    clear h2 hq
    go_enter Try.func5, Try.ntmps5
    go_wp2_with fail
    refine ((unhide C1) _).mono ?_
    rintro e w9 ⟨rfl, e9⟩
    have f9 := e9.symm
    subst f9
    clear e9
    go_wp2
    go_ret
    exact ⟨-1, rfl, fun h => by omega, unhide B1⟩
  rw [if_neg t1] at C1
  obtain ⟨s1, hs1⟩ : ∃ s1 : Int, 1048576 - (LW.length : Int) = s1 := ⟨_, rfl⟩
  rw [hs1] at C1 t1
  have C2 := hide (Frl.szRules_any s1 (by omega) (.slice a2 n c2) n Q _ (h2.below (unhide B1)) b2 b5)
  by_cases t2 : s1 - ((n + Frl.szk Q n : Nat) : Int) < 0
  · rw [Frl.lf_neg t2] at C2
    clear h2 hs1
    go_enter Try.func5, Try.ntmps5
    go_wp2_with fail
    refine ((unhide C1) _).mono ?_
    rintro e w9 ⟨rfl, e9⟩
    have f9 := e9.symm
    subst f9
    clear e9
    go_wp2_with fail
    generalize w.alloc (.cells #[.int .i64 wd, .slice a1 LW.length c1, .slice a2 n c2, .slice a3 LK.length c3, .slice a4 LA.length c4] 26) = wa at *
    refine (unhide C2).mono ?_
    rintro e w2 ⟨rfl, hb2⟩
    have B2 := hide ((unhide B1).trans (hb2.mono (unhide B1).size))
    have hq2 := (hb2.block w.heap.size hqs).trans hq
    obtain ⟨⟨x0, x1, x2, x3, x4⟩, _⟩ := five_cellsF hq2
    clear hb2 C2
    go_wp2
    go_ret
    exact ⟨-1, rfl, fun h => by omega, unhide B2⟩
  rw [Frl.lf_pos t2] at C2
  obtain ⟨s2, hs2⟩ : ∃ s2 : Int, s1 - ((n + Frl.szk Q n : Nat) : Int) = s2 := ⟨_, rfl⟩
  rw [hs2] at C2 t2
  have C3 := hide (fun W => Krn.szSpans_any a3 LK.length c3 s2 (by omega) W b3)
  by_cases t3 : s2 - (LK.length : Int) < 0
  · rw [if_pos t3] at C3
    clear h2 hs1 hs2
    go_enter Try.func5, Try.ntmps5
    go_wp2_with fail
    refine ((unhide C1) _).mono ?_
    rintro e w9 ⟨rfl, e9⟩
    have f9 := e9.symm
    subst f9
    clear e9
    go_wp2_with fail
    generalize w.alloc (.cells #[.int .i64 wd, .slice a1 LW.length c1, .slice a2 n c2, .slice a3 LK.length c3, .slice a4 LA.length c4] 26) = wa at *
    refine (unhide C2).mono ?_
    rintro e w2 ⟨rfl, hb2⟩
    have B2 := hide ((unhide B1).trans (hb2.mono (unhide B1).size))
    have hq2 := (hb2.block w.heap.size hqs).trans hq
    obtain ⟨⟨x0, x1, x2, x3, x4⟩, _⟩ := five_cellsF hq2
    clear hb2 C2
    go_wp2_with fail
    refine ((unhide C3) _).mono ?_
    rintro e w9 ⟨rfl, e9⟩
    have f9 := e9.symm
    subst f9
    clear e9
    go_wp2
    go_ret
    exact ⟨-1, rfl, fun h => by omega, unhide B2⟩
  rw [if_neg t3] at C3
  obtain ⟨s3, hs3⟩ : ∃ s3 : Int, s2 - (LK.length : Int) = s3 := ⟨_, rfl⟩
  rw [hs3] at C3 t3
  have C4 := hide (fun W => szSpans_any a4 LA.length c4 s3 (by omega) W b4)
  by_cases t4 : s3 - (LA.length : Int) < 0
  · rw [if_pos t4] at C4
    clear h2 hs1 hs2 hs3
    go_enter Try.func5, Try.ntmps5
    go_wp2_with fail
    refine ((unhide C1) _).mono ?_
    rintro e w9 ⟨rfl, e9⟩
    have f9 := e9.symm
    subst f9
    clear e9
    go_wp2_with fail
    generalize w.alloc (.cells #[.int .i64 wd, .slice a1 LW.length c1, .slice a2 n c2, .slice a3 LK.length c3, .slice a4 LA.length c4] 26) = wa at *
    refine (unhide C2).mono ?_
    rintro e w2 ⟨rfl, hb2⟩
    have B2 := hide ((unhide B1).trans (hb2.mono (unhide B1).size))
    have hq2 := (hb2.block w.heap.size hqs).trans hq
    obtain ⟨⟨x0, x1, x2, x3, x4⟩, _⟩ := five_cellsF hq2
    clear hb2 C2
    go_wp2_with fail
    refine ((unhide C3) _).mono ?_
    rintro e w9 ⟨rfl, e9⟩
    have f9 := e9.symm
    subst f9
    clear e9
    go_wp2_with fail
    refine ((unhide C4) _).mono ?_
    rintro e w9 ⟨rfl, e9⟩
    have f9 := e9.symm
    subst f9
    clear e9
    go_wp2
    go_ret
    exact ⟨-1, rfl, fun h => by omega, unhide B2⟩
  rw [if_neg t4] at C4
  have HH := hide ((unhide HF) (by omega) (by omega) (by omega) (by omega) (by omega))
  obtain ⟨s4, hs4⟩ : ∃ s4 : Int, s3 - (LA.length : Int) = s4 := ⟨_, rfl⟩
  rw [hs4] at C4 t4
  clear h2 hs1 hs2 hs3 hs4
  go_enter Try.func5, Try.ntmps5
  go_wp2_with fail
  refine ((unhide C1) _).mono ?_
  rintro e w9 ⟨rfl, e9⟩
  have f9 := e9.symm
  subst f9
  clear e9
  go_wp2_with fail
  generalize w.alloc (.cells #[.int .i64 wd, .slice a1 LW.length c1, .slice a2 n c2, .slice a3 LK.length c3, .slice a4 LA.length c4] 26) = wa at *
  refine (unhide C2).mono ?_
  rintro e w2 ⟨rfl, hb2⟩
  have B2 := hide ((unhide B1).trans (hb2.mono (unhide B1).size))
  have hq2 := (hb2.block w.heap.size hqs).trans hq
  obtain ⟨⟨x0, x1, x2, x3, x4⟩, _⟩ := five_cellsF hq2
  clear hb2 C2
  go_wp2_with fail
  refine ((unhide C3) _).mono ?_
  rintro e w9 ⟨rfl, e9⟩
  have f9 := e9.symm
  subst f9
  clear e9
  go_wp2_with fail
  refine ((unhide C4) _).mono ?_
  rintro e w9 ⟨rfl, e9⟩
  have f9 := e9.symm
  subst f9
  clear e9
  go_wp2
  go_ret
  exact ⟨_, rfl, fun _ => unhide HH, unhide B2⟩
set_option maxRecDepth 100000 in
set_option maxHeartbeats 8000000 in
theorem eqFont_any (v1 v2 : Value) (wd : Int) (LW : List Sp) (n : Nat) (Q : List (List Int)) (LK LA : List Sp) (w : World) (h1 : FA w v1 wd LW n Q LK LA) (h2 : FA w v2 wd LW n Q LK LA) (hf : Fit LW n Q LK LA) :
    Calls Try.prog 9 #[v1, v2] w fun e w' => e = .returned (.bool true) ∧ Below w.heap.size w w' := by
  obtain ⟨a1, a2, a3, a4, c1, c2, c3, c4, rfl, ⟨B1, f1⟩, f2, ⟨B3, f3⟩, B4, f4⟩ := h1.form
  obtain ⟨d1, d2, d3, d4, e1, e2, e3, e4, rfl, ⟨D1, g1⟩, g2, ⟨D3, g3⟩, D4, g4⟩ := h2.form
  obtain ⟨l1, l2, l5, l3, l4⟩ := hf
  have C1 := hide (fun W (hb : Below w.heap.size w W) => eqSpans _ _ LW B1 D1 W (f1.below hb) (g1.below hb) l1)
  have C2 := hide (fun W (hb : Below w.heap.size w W) => Frl.eqRules_any _ _ n Q W (f2.below hb) (g2.below hb) l2 l5)
  have C3 := hide (fun W (hb : Below w.heap.size w W) => Krn.eqSpans _ _ LK B3 D3 W (f3.below hb) (g3.below hb) l3)
  have C4 := hide (fun W (hb : Below w.heap.size w W) => eqSpans _ _ LA B4 D4 W (f4.below hb) (g4.below hb) l4)
  have hne : (wd != wd) = false := by simp
  have BB := hide (((Below.refl w.heap.size w).alloc (Nat.le_refl _) (.cells #[.int .i64 wd, .slice a1 LW.length c1, .slice a2 n c2, .slice a3 LK.length c3, .slice a4 LA.length c4] 33)).alloc (by simp) (.cells #[.int .i64 wd, .slice d1 LW.length e1, .slice d2 n e2, .slice d3 LK.length e3, .slice d4 LA.length e4] 33))
  have k0 : ((w.alloc (.cells #[.int .i64 wd, .slice a1 LW.length c1, .slice a2 n c2, .slice a3 LK.length c3, .slice a4 LA.length c4] 33)).alloc (.cells #[.int .i64 wd, .slice d1 LW.length e1, .slice d2 n e2, .slice d3 LK.length e3, .slice d4 LA.length e4] 33)).heap[w.heap.size]? = some (.cells #[.int .i64 wd, .slice a1 LW.length c1, .slice a2 n c2, .slice a3 LK.length c3, .slice a4 LA.length c4] 33 (0, 0)) := by
    rw [Below.heap_alloc _ _ _ (by simp)]
    exact Frl.heap_new w _
  have k1 : ((w.alloc (.cells #[.int .i64 wd, .slice a1 LW.length c1, .slice a2 n c2, .slice a3 LK.length c3, .slice a4 LA.length c4] 33)).alloc (.cells #[.int .i64 wd, .slice d1 LW.length e1, .slice d2 n e2, .slice d3 LK.length e3, .slice d4 LA.length e4] 33)).heap[w.heap.size + 1]? = some (.cells #[.int .i64 wd, .slice d1 LW.length e1, .slice d2 n e2, .slice d3 LK.length e3, .slice d4 LA.length e4] 33 (0, 0)) := by
    have := Frl.heap_new (w.alloc (.cells #[.int .i64 wd, .slice a1 LW.length c1, .slice a2 n c2, .slice a3 LK.length c3, .slice a4 LA.length c4] 33)) (.cells #[.int .i64 wd, .slice d1 LW.length e1, .slice d2 n e2, .slice d3 LK.length e3, .slice d4 LA.length e4] 33)
    simpa using this
  have hz : w.heap.size + 2 ≤ ((w.alloc (.cells #[.int .i64 wd, .slice a1 LW.length c1, .slice a2 n c2, .slice a3 LK.length c3, .slice a4 LA.length c4] 33)).alloc (.cells #[.int .i64 wd, .slice d1 LW.length e1, .slice d2 n e2, .slice d3 LK.length e3, .slice d4 LA.length e4] 33)).heap.size := by simp
  clear h1 h2 f1 f2 f3 f4 g1 g2 g3 g4 l1 l2 l3 l4 l5
  go_enter Try.func9, Try.ntmps9
  go_wp2_with fail
  generalize (w.alloc (.cells #[.int .i64 wd, .slice a1 LW.length c1, .slice a2 n c2, .slice a3 LK.length c3, .slice a4 LA.length c4] 33)).alloc (.cells #[.int .i64 wd, .slice d1 LW.length e1, .slice d2 n e2, .slice d3 LK.length e3, .slice d4 LA.length e4] 33) = wa at *
  refine ((unhide C1) _ (unhide BB)).mono ?_
  rintro e wb1 ⟨rfl, hb⟩
  have k0' := (hb.block w.heap.size (by omega)).trans k0
  have k1' := (hb.block (w.heap.size + 1) (by omega)).trans k1
  have hz' : w.heap.size + 2 ≤ wb1.heap.size := by have := hb.size; omega
  have BB1 := hide ((unhide BB).trans (hb.mono (unhide BB).size))
  obtain ⟨⟨x0, x1, x2, x3, x4⟩, _⟩ := five_cellsF k0'
  obtain ⟨⟨y0, y1, y2, y3, y4⟩, _⟩ := five_cellsF k1'
  clear k0 k1 hz hb BB C1
  go_wp2_with fail
  clear x0 x1 x2 x3 x4 y0 y1 y2 y3 y4
  have k0 := k0'
  have k1 := k1'
  have hz := hz'
  clear k0' k1' hz'
  refine ((unhide C2) _ (unhide BB1)).mono ?_
  rintro e wb2 ⟨rfl, hb⟩
  have k0' := (hb.block w.heap.size (by omega)).trans k0
  have k1' := (hb.block (w.heap.size + 1) (by omega)).trans k1
  have hz' : w.heap.size + 2 ≤ wb2.heap.size := by have := hb.size; omega
  have BB2 := hide ((unhide BB1).trans (hb.mono (unhide BB1).size))
  obtain ⟨⟨x0, x1, x2, x3, x4⟩, _⟩ := five_cellsF k0'
  obtain ⟨⟨y0, y1, y2, y3, y4⟩, _⟩ := five_cellsF k1'
  clear k0 k1 hz hb BB1 C2
  go_wp2_with fail
  clear x0 x1 x2 x3 x4 y0 y1 y2 y3 y4
  have k0 := k0'
  have k1 := k1'
  have hz := hz'
  clear k0' k1' hz'
  refine ((unhide C3) _ (unhide BB2)).mono ?_
  rintro e wb3 ⟨rfl, hb⟩
  have k0' := (hb.block w.heap.size (by omega)).trans k0
  have k1' := (hb.block (w.heap.size + 1) (by omega)).trans k1
  have hz' : w.heap.size + 2 ≤ wb3.heap.size := by have := hb.size; omega
  have BB3 := hide ((unhide BB2).trans (hb.mono (unhide BB2).size))
  obtain ⟨⟨x0, x1, x2, x3, x4⟩, _⟩ := five_cellsF k0'
  obtain ⟨⟨y0, y1, y2, y3, y4⟩, _⟩ := five_cellsF k1'
  clear k0 k1 hz hb BB2 C3
  go_wp2_with fail
  clear x0 x1 x2 x3 x4 y0 y1 y2 y3 y4
  have k0 := k0'
  have k1 := k1'
  have hz := hz'
  clear k0' k1' hz'
  refine ((unhide C4) _ (unhide BB3)).mono ?_
  rintro e wb4 ⟨rfl, hb⟩
  have k0' := (hb.block w.heap.size (by omega)).trans k0
  have k1' := (hb.block (w.heap.size + 1) (by omega)).trans k1
  have hz' : w.heap.size + 2 ≤ wb4.heap.size := by have := hb.size; omega
  have BB4 := hide ((unhide BB3).trans (hb.mono (unhide BB3).size))
  obtain ⟨⟨x0, x1, x2, x3, x4⟩, _⟩ := five_cellsF k0'
  obtain ⟨⟨y0, y1, y2, y3, y4⟩, _⟩ := five_cellsF k1'
  clear k0 k1 hz hb BB3 C4
  go_wp2
  go_ret
  exact ⟨rfl, unhide BB4⟩
end Go.Proofs.Ytccnjjkechdknaa.Fnt
