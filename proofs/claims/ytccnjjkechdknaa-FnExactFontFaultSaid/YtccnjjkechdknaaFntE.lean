/- FontFault, as the program and as the specification tell it. -/
import Derived.Test.YtccnjjkechdknaaFntD
namespace Go.Proofs.Ytccnjjkechdknaa.Fnt
open Go.RowKit
set_option linter.unusedVariables false
/-- A font is right. -/
def ffb (wd : Int) (LW : List Sp) (n : Nat) (Q : List (List Int)) (LK LA : List Sp) : Bool := (decide (0 ≤ wd) && decide (wd ≤ 1000)) && (msr 0 LW && (msr (-1000) LA && (Frl.okR n Q && krn LK)))
def ff (wd : Int) (LW : List Sp) (n : Nat) (Q : List (List Int)) (LK LA : List Sp) : Int := if ffb wd LW n Q LK LA = true then 0 else 1
theorem ff_no {wd : Int} {LW : List Sp} {n : Nat} {Q : List (List Int)} {LK LA : List Sp} (h : (decide (0 ≤ wd) && decide (wd ≤ 1000)) = false ∨ msr 0 LW = false ∨ msr (-1000) LA = false ∨ Frl.okR n Q = false ∨ krn LK = false) : ff wd LW n Q LK LA = 1 := by
  unfold ff
  refine if_neg (fun e => ?_)
  unfold ffb at e
  simp only [Bool.and_eq_true] at e
  obtain ⟨e0, e1, e2, e3, e4⟩ := e
  rcases h with h | h | h | h | h
  · rw [Bool.and_eq_false_iff] at h; rcases h with h | h <;> simp_all
  · rw [h] at e1; cases e1
  · rw [h] at e2; cases e2
  · rw [h] at e3; cases e3
  · rw [h] at e4; cases e4
theorem ff_yes {wd : Int} {LW : List Sp} {n : Nat} {Q : List (List Int)} {LK LA : List Sp} (h0 : (decide (0 ≤ wd) && decide (wd ≤ 1000)) = true) (h1 : msr 0 LW = true) (h2 : msr (-1000) LA = true) (h3 : Frl.okR n Q = true) (h4 : krn LK = true) : ff wd LW n Q LK LA = 0 := by
  unfold ff ffb
  rw [h0, h1, h2, h3, h4]; rfl
set_option maxRecDepth 100000 in
set_option maxHeartbeats 8000000 in
theorem implFF (v : Value) (wd : Int) (LW : List Sp) (n : Nat) (Q : List (List Int)) (LK LA : List Sp) (w : World) (h : FA w v wd LW n Q LK LA) (hf : Fit LW n Q LK LA) :
    Calls Try.prog 8 #[v] w fun e w' => e = .returned (.int .i64 (ff wd LW n Q LK LA)) ∧ Below w.heap.size w w' := by
  obtain ⟨a1, a2, a3, a4, c1, c2, c3, c4, rfl, ⟨B1, f1⟩, f2, ⟨B3, f3⟩, B4, f4⟩ := h.form
  obtain ⟨l1, l2, l5, l3, l4⟩ := hf
  have C0 := hide (fun W => Frl.within_any wd 0 1000 W)
  have C1 := hide (fun W (hb : Below w.heap.size w W) => areM_any _ LW 0 B1 W (f1.below hb) l1)
  have C2 := hide (fun W (hb : Below w.heap.size w W) => areM_any _ LA (-1000) B4 W (f4.below hb) l4)
  have C3 := hide (fun W (hb : Below w.heap.size w W) => Frl.areRules_any _ n Q W (f2.below hb) l2 l5)
  have C4 := hide (fun W (hb : Below w.heap.size w W) => areKerns_any _ LK B3 W (f3.below hb) l3)
  have HNo := hide (fun h => ff_no (wd := wd) (LW := LW) (n := n) (Q := Q) (LK := LK) (LA := LA) h)
  have HYes := hide (fun h0 h1 h2 h3 h4 => ff_yes (wd := wd) (LW := LW) (n := n) (Q := Q) (LK := LK) (LA := LA) h0 h1 h2 h3 h4)
  generalize ff wd LW n Q LK LA = Z at *
  have BB := hide ((Below.refl w.heap.size w).alloc (Nat.le_refl _) (.cells #[.int .i64 wd, .slice a1 LW.length c1, .slice a2 n c2, .slice a3 LK.length c3, .slice a4 LA.length c4] 33))
  have hq := Frl.heap_new w (.cells #[.int .i64 wd, .slice a1 LW.length c1, .slice a2 n c2, .slice a3 LK.length c3, .slice a4 LA.length c4] 33)
  have hqs : w.heap.size < (w.alloc (.cells #[.int .i64 wd, .slice a1 LW.length c1, .slice a2 n c2, .slice a3 LK.length c3, .slice a4 LA.length c4] 33)).heap.size := by simp
  clear h f1 f2 f3 f4 l1 l2 l3 l4 l5
  cases y0 : (decide (0 ≤ wd) && decide (wd ≤ 1000))
  · rw [y0] at C0
    have HZ := hide ((unhide HNo) (.inl y0))
    clear HNo HYes y0
    go_enter Try.func8, Try.ntmps8
    go_wp2_with fail
    refine ((unhide C0) _).mono ?_
    rintro e w9 ⟨rfl, e9⟩
    have f9 := e9.symm
    subst f9
    clear e9
    go_wp2
    go_ret
    exact ⟨by rw [unhide HZ]; rfl, unhide BB⟩
  · rw [y0] at C0
    cases y1 : msr 0 LW
    · rw [y1] at C1
      have HZ := hide ((unhide HNo) (.inr (.inl y1)))
      clear HNo HYes y0 y1
      go_enter Try.func8, Try.ntmps8
      go_wp2_with fail
      refine ((unhide C0) _).mono ?_
      rintro e w9 ⟨rfl, e9⟩
      have f9 := e9.symm
      subst f9
      clear e9
      go_wp2_with fail
      generalize w.alloc (.cells #[.int .i64 wd, .slice a1 LW.length c1, .slice a2 n c2, .slice a3 LK.length c3, .slice a4 LA.length c4] 33) = wa at *
      refine ((unhide C1) _ (unhide BB)).mono ?_
      rintro e wb1 ⟨rfl, hb⟩
      have BB1 := hide ((unhide BB).trans (hb.mono (unhide BB).size))
      have hq1 := (hb.block w.heap.size hqs).trans hq
      have hqs1 := Nat.lt_of_lt_of_le hqs hb.size
      obtain ⟨⟨x0, x1, x2, x3, x4⟩, _⟩ := five_cellsF hq1
      clear hb
      go_wp2
      go_ret
      exact ⟨by rw [unhide HZ]; rfl, unhide BB1⟩
    · rw [y1] at C1
      cases y2 : msr (-1000) LA
      · rw [y2] at C2
        have HZ := hide ((unhide HNo) (.inr (.inr (.inl y2))))
        clear HNo HYes y0 y1 y2
        go_enter Try.func8, Try.ntmps8
        go_wp2_with fail
        refine ((unhide C0) _).mono ?_
        rintro e w9 ⟨rfl, e9⟩
        have f9 := e9.symm
        subst f9
        clear e9
        go_wp2_with fail
        generalize w.alloc (.cells #[.int .i64 wd, .slice a1 LW.length c1, .slice a2 n c2, .slice a3 LK.length c3, .slice a4 LA.length c4] 33) = wa at *
        refine ((unhide C1) _ (unhide BB)).mono ?_
        rintro e wb1 ⟨rfl, hb⟩
        have BB1 := hide ((unhide BB).trans (hb.mono (unhide BB).size))
        have hq1 := (hb.block w.heap.size hqs).trans hq
        have hqs1 := Nat.lt_of_lt_of_le hqs hb.size
        obtain ⟨⟨x0, x1, x2, x3, x4⟩, _⟩ := five_cellsF hq1
        clear hb
        go_wp2_with fail
        refine ((unhide C2) _ (unhide BB1)).mono ?_
        rintro e wb2 ⟨rfl, hb⟩
        clear x0 x1 x2 x3 x4
        have BB2 := hide ((unhide BB1).trans (hb.mono (unhide BB1).size))
        have hq2 := (hb.block w.heap.size hqs1).trans hq1
        have hqs2 := Nat.lt_of_lt_of_le hqs1 hb.size
        obtain ⟨⟨x0, x1, x2, x3, x4⟩, _⟩ := five_cellsF hq2
        clear hb
        go_wp2
        go_ret
        exact ⟨by rw [unhide HZ]; rfl, unhide BB2⟩
      · rw [y2] at C2
        cases y3 : Frl.okR n Q
        · rw [y3] at C3
          have HZ := hide ((unhide HNo) (.inr (.inr (.inr (.inl y3)))))
          clear HNo HYes y0 y1 y2 y3
          go_enter Try.func8, Try.ntmps8
          go_wp2_with fail
          refine ((unhide C0) _).mono ?_
          rintro e w9 ⟨rfl, e9⟩
          have f9 := e9.symm
          subst f9
          clear e9
          go_wp2_with fail
          generalize w.alloc (.cells #[.int .i64 wd, .slice a1 LW.length c1, .slice a2 n c2, .slice a3 LK.length c3, .slice a4 LA.length c4] 33) = wa at *
          refine ((unhide C1) _ (unhide BB)).mono ?_
          rintro e wb1 ⟨rfl, hb⟩
          have BB1 := hide ((unhide BB).trans (hb.mono (unhide BB).size))
          have hq1 := (hb.block w.heap.size hqs).trans hq
          have hqs1 := Nat.lt_of_lt_of_le hqs hb.size
          obtain ⟨⟨x0, x1, x2, x3, x4⟩, _⟩ := five_cellsF hq1
          clear hb
          go_wp2_with fail
          refine ((unhide C2) _ (unhide BB1)).mono ?_
          rintro e wb2 ⟨rfl, hb⟩
          clear x0 x1 x2 x3 x4
          have BB2 := hide ((unhide BB1).trans (hb.mono (unhide BB1).size))
          have hq2 := (hb.block w.heap.size hqs1).trans hq1
          have hqs2 := Nat.lt_of_lt_of_le hqs1 hb.size
          obtain ⟨⟨x0, x1, x2, x3, x4⟩, _⟩ := five_cellsF hq2
          clear hb
          go_wp2_with fail
          refine ((unhide C3) _ (unhide BB2)).mono ?_
          rintro e wb3 ⟨rfl, hb⟩
          clear x0 x1 x2 x3 x4
          have BB3 := hide ((unhide BB2).trans (hb.mono (unhide BB2).size))
          have hq3 := (hb.block w.heap.size hqs2).trans hq2
          have hqs3 := Nat.lt_of_lt_of_le hqs2 hb.size
          obtain ⟨⟨x0, x1, x2, x3, x4⟩, _⟩ := five_cellsF hq3
          clear hb
          go_wp2
          go_ret
          exact ⟨by rw [unhide HZ]; rfl, unhide BB3⟩
        · rw [y3] at C3
          cases y4 : krn LK
          · rw [y4] at C4
            have HZ := hide ((unhide HNo) (.inr (.inr (.inr (.inr y4)))))
            clear HNo HYes y0 y1 y2 y3 y4
            go_enter Try.func8, Try.ntmps8
            go_wp2_with fail
            refine ((unhide C0) _).mono ?_
            rintro e w9 ⟨rfl, e9⟩
            have f9 := e9.symm
            subst f9
            clear e9
            go_wp2_with fail
            generalize w.alloc (.cells #[.int .i64 wd, .slice a1 LW.length c1, .slice a2 n c2, .slice a3 LK.length c3, .slice a4 LA.length c4] 33) = wa at *
            refine ((unhide C1) _ (unhide BB)).mono ?_
            rintro e wb1 ⟨rfl, hb⟩
            have BB1 := hide ((unhide BB).trans (hb.mono (unhide BB).size))
            have hq1 := (hb.block w.heap.size hqs).trans hq
            have hqs1 := Nat.lt_of_lt_of_le hqs hb.size
            obtain ⟨⟨x0, x1, x2, x3, x4⟩, _⟩ := five_cellsF hq1
            clear hb
            go_wp2_with fail
            refine ((unhide C2) _ (unhide BB1)).mono ?_
            rintro e wb2 ⟨rfl, hb⟩
            clear x0 x1 x2 x3 x4
            have BB2 := hide ((unhide BB1).trans (hb.mono (unhide BB1).size))
            have hq2 := (hb.block w.heap.size hqs1).trans hq1
            have hqs2 := Nat.lt_of_lt_of_le hqs1 hb.size
            obtain ⟨⟨x0, x1, x2, x3, x4⟩, _⟩ := five_cellsF hq2
            clear hb
            go_wp2_with fail
            refine ((unhide C3) _ (unhide BB2)).mono ?_
            rintro e wb3 ⟨rfl, hb⟩
            clear x0 x1 x2 x3 x4
            have BB3 := hide ((unhide BB2).trans (hb.mono (unhide BB2).size))
            have hq3 := (hb.block w.heap.size hqs2).trans hq2
            have hqs3 := Nat.lt_of_lt_of_le hqs2 hb.size
            obtain ⟨⟨x0, x1, x2, x3, x4⟩, _⟩ := five_cellsF hq3
            clear hb
            go_wp2_with fail
            refine ((unhide C4) _ (unhide BB3)).mono ?_
            rintro e wb4 ⟨rfl, hb⟩
            clear x0 x1 x2 x3 x4
            have BB4 := hide ((unhide BB3).trans (hb.mono (unhide BB3).size))
            have hq4 := (hb.block w.heap.size hqs3).trans hq3
            have hqs4 := Nat.lt_of_lt_of_le hqs3 hb.size
            obtain ⟨⟨x0, x1, x2, x3, x4⟩, _⟩ := five_cellsF hq4
            clear hb
            go_wp2
            go_ret
            exact ⟨by rw [unhide HZ]; rfl, unhide BB4⟩
          · rw [y4] at C4
            have HZ := hide ((unhide HYes) y0 y1 y2 y3 y4)
            clear HNo HYes y0 y1 y2 y3 y4
            go_enter Try.func8, Try.ntmps8
            go_wp2_with fail
            refine ((unhide C0) _).mono ?_
            rintro e w9 ⟨rfl, e9⟩
            have f9 := e9.symm
            subst f9
            clear e9
            go_wp2_with fail
            generalize w.alloc (.cells #[.int .i64 wd, .slice a1 LW.length c1, .slice a2 n c2, .slice a3 LK.length c3, .slice a4 LA.length c4] 33) = wa at *
            refine ((unhide C1) _ (unhide BB)).mono ?_
            rintro e wb1 ⟨rfl, hb⟩
            have BB1 := hide ((unhide BB).trans (hb.mono (unhide BB).size))
            have hq1 := (hb.block w.heap.size hqs).trans hq
            have hqs1 := Nat.lt_of_lt_of_le hqs hb.size
            obtain ⟨⟨x0, x1, x2, x3, x4⟩, _⟩ := five_cellsF hq1
            clear hb
            go_wp2_with fail
            refine ((unhide C2) _ (unhide BB1)).mono ?_
            rintro e wb2 ⟨rfl, hb⟩
            clear x0 x1 x2 x3 x4
            have BB2 := hide ((unhide BB1).trans (hb.mono (unhide BB1).size))
            have hq2 := (hb.block w.heap.size hqs1).trans hq1
            have hqs2 := Nat.lt_of_lt_of_le hqs1 hb.size
            obtain ⟨⟨x0, x1, x2, x3, x4⟩, _⟩ := five_cellsF hq2
            clear hb
            go_wp2_with fail
            refine ((unhide C3) _ (unhide BB2)).mono ?_
            rintro e wb3 ⟨rfl, hb⟩
            clear x0 x1 x2 x3 x4
            have BB3 := hide ((unhide BB2).trans (hb.mono (unhide BB2).size))
            have hq3 := (hb.block w.heap.size hqs2).trans hq2
            have hqs3 := Nat.lt_of_lt_of_le hqs2 hb.size
            obtain ⟨⟨x0, x1, x2, x3, x4⟩, _⟩ := five_cellsF hq3
            clear hb
            go_wp2_with fail
            refine ((unhide C4) _ (unhide BB3)).mono ?_
            rintro e wb4 ⟨rfl, hb⟩
            clear x0 x1 x2 x3 x4
            have BB4 := hide ((unhide BB3).trans (hb.mono (unhide BB3).size))
            have hq4 := (hb.block w.heap.size hqs3).trans hq3
            have hqs4 := Nat.lt_of_lt_of_le hqs3 hb.size
            obtain ⟨⟨x0, x1, x2, x3, x4⟩, _⟩ := five_cellsF hq4
            clear hb
            go_wp2
            go_ret
            exact ⟨by rw [unhide HZ]; rfl, unhide BB4⟩
end Go.Proofs.Ytccnjjkechdknaa.Fnt
