/- Several texts in one. -/
import Derived.Test.YtfldomifooihlaaGreatDoorHF2
/- A copy of a font: its rows are its own. -/
namespace Go.Proofs.YtfldomifooihlaaGreatDoor.Fnt
open Go.RowKit
set_option linter.unusedVariables false
/-- A font whose rows lie from the block B on. -/
def FO (w : World) (B : Nat) (v : Value) (wd : Int) (LW : List Sp) (n : Nat) (Q : List (List Int)) (LK LA : List Sp) : Prop :=
  ∃ q1 q2 q3 q4 blk, v = .agg #[.int .i64 wd, .slice (some ⟨q1, 0, none⟩) LW.length LW.length, .slice (some ⟨q2, 0, none⟩) n n, .slice (some ⟨q3, 0, none⟩) LK.length LK.length, .slice (some ⟨q4, 0, none⟩) LA.length LA.length] ∧ Q.length = n * 4 ∧
    SpRow w B (.slice (some ⟨q1, 0, none⟩) LW.length LW.length) LW ∧ Frl.RuC w q2 Q blk (n * 4) ∧ B ≤ q2 ∧ Krn.SpRow w B (.slice (some ⟨q3, 0, none⟩) LK.length LK.length) LK ∧ SpRow w B (.slice (some ⟨q4, 0, none⟩) LA.length LA.length) LA ∧ q1 < q2 ∧ (∀ k, k < n * 4 → q2 < blk k ∧ blk k < q3) ∧ q2 < q3 ∧ q3 < q4
theorem FO.fa {w : World} {B : Nat} {v : Value} {wd : Int} {LW : List Sp} {n : Nat} {Q : List (List Int)} {LK LA : List Sp} (h : FO w B v wd LW n Q LK LA) : FA w v wd LW n Q LK LA := by
  obtain ⟨q1, q2, q3, q4, blk, rfl, hQ, h1, h2, _, h3, h4, _⟩ := h
  exact ⟨_, _, _, _, _, _, _, _, rfl, ⟨_, h1⟩, h2.ints hQ _, ⟨_, h3⟩, _, h4⟩
theorem FO.below {w w' : World} {B : Nat} {v : Value} {wd : Int} {LW : List Sp} {n : Nat} {Q : List (List Int)} {LK LA : List Sp} (h : FO w B v wd LW n Q LK LA) (hb : Below w.heap.size w w') : FO w' B v wd LW n Q LK LA := by
  obtain ⟨q1, q2, q3, q4, blk, rfl, hQ, h1, h2, hq, h3, h4, hr⟩ := h
  exact ⟨q1, q2, q3, q4, blk, rfl, hQ, h1.below hb, h2.below hb, hq, h3.below hb, h4.below hb, hr⟩
set_option maxRecDepth 100000 in
set_option maxHeartbeats 8000000 in
theorem toFont_own (wd : Int) (u1 u2 u3 u4 : Value) (LW : List Sp) (n : Nat) (Q : List (List Int)) (LK LA : List Sp) (w : World) (h1 : SpsAt w u1 LW) (h2 : Frl.RuI w u2 n Q) (h3 : Krn.SpsAt w u3 LK) (h4 : SpsAt w u4 LA) (l1 : LW.length ≤ 1048576) (l2 : n ≤ 1048576) (l5 : Frl.AllB Q 1048576) (l3 : LK.length ≤ 1048576) (l4 : LA.length ≤ 1048576) :
    Calls Tryz.prog 6 #[.agg #[.int .i64 wd, u1, u2, u3, u4]] w fun e w' => ∃ v, e = .returned v ∧ FO w' w.heap.size v wd LW n Q LK LA ∧ Below w.heap.size w w' := by
  have C1 := hide (fun W h => toSpans u1 LW W h l1)
  have C2 := hide (fun W h => Frl.toRules_any u2 n Q W h l2 l5)
  have C3 := hide (fun W h => Krn.toSpans u3 LK W h l3)
  have C4 := hide (fun W h => toSpans u4 LA W h l4)
  have H1 := hide h1
  have H2 := hide h2
  have H3 := hide h3
  have H4 := hide h4
  have HQ := hide h2.1
  clear h1 h2 h3 h4 l1 l2 l3 l4 l5
  go_enter Tryz.func6, Tryz.ntmps6
  go_wp2_with fail
  have hb3 : Below w.heap.size w (((w.alloc (.cells #[.int .i64 wd, u1, u2, u3, u4] 26)).alloc (.cells #[.int .i64 0, .slice none 0 0, .slice none 0 0, .slice none 0 0, .slice none 0 0] 36)).alloc (.cells #[.int .i64 wd, .slice none 0 0, .slice none 0 0, .slice none 0 0, .slice none 0 0] 36)) := ((((Below.refl _ _).alloc (Nat.le_refl _) _).alloc (by simp) _).alloc (by simp; omega) _)
  have hz3 : w.heap.size + 3 ≤ (((w.alloc (.cells #[.int .i64 wd, u1, u2, u3, u4] 26)).alloc (.cells #[.int .i64 0, .slice none 0 0, .slice none 0 0, .slice none 0 0, .slice none 0 0] 36)).alloc (.cells #[.int .i64 wd, .slice none 0 0, .slice none 0 0, .slice none 0 0, .slice none 0 0] 36)).heap.size := by simp
  have k0 : (((w.alloc (.cells #[.int .i64 wd, u1, u2, u3, u4] 26)).alloc (.cells #[.int .i64 0, .slice none 0 0, .slice none 0 0, .slice none 0 0, .slice none 0 0] 36)).alloc (.cells #[.int .i64 wd, .slice none 0 0, .slice none 0 0, .slice none 0 0, .slice none 0 0] 36)).heap[w.heap.size]? = some (.cells #[.int .i64 wd, u1, u2, u3, u4] 26 (0, 0)) := by
    rw [Below.heap_alloc _ _ _ (by simp; omega), Below.heap_alloc _ _ _ (by simp)]
    exact Frl.heap_new w _
  have k1 : (((w.alloc (.cells #[.int .i64 wd, u1, u2, u3, u4] 26)).alloc (.cells #[.int .i64 0, .slice none 0 0, .slice none 0 0, .slice none 0 0, .slice none 0 0] 36)).alloc (.cells #[.int .i64 wd, .slice none 0 0, .slice none 0 0, .slice none 0 0, .slice none 0 0] 36)).heap[w.heap.size + 1]? = some (.cells #[.int .i64 0, .slice none 0 0, .slice none 0 0, .slice none 0 0, .slice none 0 0] 36 (0, 0)) := by
    rw [Below.heap_alloc _ _ _ (by simp)]
    have := Frl.heap_new (w.alloc (.cells #[.int .i64 wd, u1, u2, u3, u4] 26)) (.cells #[.int .i64 0, .slice none 0 0, .slice none 0 0, .slice none 0 0, .slice none 0 0] 36)
    simpa using this
  have k2 : (((w.alloc (.cells #[.int .i64 wd, u1, u2, u3, u4] 26)).alloc (.cells #[.int .i64 0, .slice none 0 0, .slice none 0 0, .slice none 0 0, .slice none 0 0] 36)).alloc (.cells #[.int .i64 wd, .slice none 0 0, .slice none 0 0, .slice none 0 0, .slice none 0 0] 36)).heap[w.heap.size + 1 + 1]? = some (.cells #[.int .i64 wd, .slice none 0 0, .slice none 0 0, .slice none 0 0, .slice none 0 0] 36 (0, 0)) := by
    have := Frl.heap_new ((w.alloc (.cells #[.int .i64 wd, u1, u2, u3, u4] 26)).alloc (.cells #[.int .i64 0, .slice none 0 0, .slice none 0 0, .slice none 0 0, .slice none 0 0] 36)) (.cells #[.int .i64 wd, .slice none 0 0, .slice none 0 0, .slice none 0 0, .slice none 0 0] 36)
    simpa using this
  have B3 := hide hb3
  generalize (((w.alloc (.cells #[.int .i64 wd, u1, u2, u3, u4] 26)).alloc (.cells #[.int .i64 0, .slice none 0 0, .slice none 0 0, .slice none 0 0, .slice none 0 0] 36)).alloc (.cells #[.int .i64 wd, .slice none 0 0, .slice none 0 0, .slice none 0 0, .slice none 0 0] 36)) = wa at *
  clear hb3
  refine ((unhide C1) _ ((unhide H1).below (unhide B3))).mono ?_
  rintro e wb1 ⟨rfl, ho1, hb⟩
  have k0' := (hb.block w.heap.size (by omega)).trans k0
  have k1' := (hb.block (w.heap.size + 1) (by omega)).trans k1
  have k2' := (hb.block (w.heap.size + 1 + 1) (by omega)).trans k2
  obtain ⟨q1, hq1⟩ : ∃ q, q = wa.heap.size := ⟨_, rfl⟩
  rw [← hq1] at ho1 ⊢
  have hp1 : wa.heap.size ≤ q1 := by omega
  have hlt1 : q1 < wb1.heap.size := (World.ownsRow.lt ho1 q1 rfl).2
  have R1' := hide (sp_down (B := w.heap.size + 3) ho1 (by omega))
  clear hq1
  have B3' := hide ((unhide B3).trans (hb.mono (unhide B3).size))
  have hs1 : wa.heap.size ≤ wb1.heap.size := hb.size
  obtain ⟨⟨a0, a1, a2, a3, a4⟩, _⟩ := five_cellsF k0'
  obtain ⟨⟨b0, b1, b2, b3, b4⟩, b6⟩ := five_cellsF k2'
  have b5 := b6 1
  clear b6
  have m0 := (heap_setCell_other wb1 ⟨w.heap.size + 1 + 1, 1, none⟩ w.heap.size (.slice (some ⟨q1, 0, none⟩) LW.length LW.length) (by show w.heap.size ≠ w.heap.size + 1 + 1; omega)).trans k0'
  have m1 := (heap_setCell_other wb1 ⟨w.heap.size + 1 + 1, 1, none⟩ (w.heap.size + 1) (.slice (some ⟨q1, 0, none⟩) LW.length LW.length) (by simp)).trans k1'
  have m2 := heap_setCell_same wb1 (w.heap.size + 1 + 1) 1 _ 36 (.slice (some ⟨q1, 0, none⟩) LW.length LW.length) k2'
  have R1 := hide (sp_put (g := w.heap.size + 1 + 1) (j := 1) (x := (.slice (some ⟨q1, 0, none⟩) LW.length LW.length)) (unhide R1') (by omega))
  have B4 := hide ((unhide B3').setCell (p := ⟨w.heap.size + 1 + 1, 1, none⟩) (by show w.heap.size ≤ w.heap.size + 1 + 1; omega) (.slice (some ⟨q1, 0, none⟩) LW.length LW.length))
  have hz51 : wb1.heap.size ≤ (wb1.setCell ⟨w.heap.size + 1 + 1, 1, none⟩ (.slice (some ⟨q1, 0, none⟩) LW.length LW.length)).heap.size := by simp
  obtain ⟨⟨d0, d1, d2, d3, d4⟩, _⟩ := five_cellsF m0
  clear R1'
  clear k0 k1 k2 k0' k1' k2' hb B3 B3' ho1 C1 H1
  go_wp2_with fail
  have k0 := m0
  have k1 := m1
  have k2 := m2
  have B3 := B4
  generalize wb1.setCell ⟨w.heap.size + 1 + 1, 1, none⟩ (.slice (some ⟨q1, 0, none⟩) LW.length LW.length) = wc1 at *
  clear m0 m1 m2 B4 a0 a1 a2 a3 a4 b0 b1 b2 b3 b4 b5 d0 d1 d2 d3 d4
  refine ((unhide C2) _ ((unhide H2).below (unhide B3))).mono ?_
  rintro e wb2 ⟨rfl, ⟨blk, ho2⟩, hb⟩
  have k0' := (hb.block w.heap.size (by omega)).trans k0
  have k1' := (hb.block (w.heap.size + 1) (by omega)).trans k1
  have k2' := (hb.block (w.heap.size + 1 + 1) (by omega)).trans k2
  have R1' := hide ((unhide R1).below hb)
  clear R1
  obtain ⟨q2, hq2⟩ : ∃ q, q = wc1.heap.size := ⟨_, rfl⟩
  rw [← hq2] at ho2 ⊢
  have hp2 : wc1.heap.size ≤ q2 := by omega
  have hlt2 : q2 < wb2.heap.size := ho2.here
  have hbk : ∀ k, k < n * 4 → q2 < blk k ∧ blk k < wb2.heap.size := fun k hk => by have := (ho2.row k hk).lt; omega
  have R2' := hide ho2
  clear hq2
  have B3' := hide ((unhide B3).trans (hb.mono (unhide B3).size))
  have hs2 : wc1.heap.size ≤ wb2.heap.size := hb.size
  obtain ⟨⟨a0, a1, a2, a3, a4⟩, _⟩ := five_cellsF k0'
  obtain ⟨⟨b0, b1, b2, b3, b4⟩, b6⟩ := five_cellsF k2'
  have b5 := b6 2
  clear b6
  have m0 := (heap_setCell_other wb2 ⟨w.heap.size + 1 + 1, 2, none⟩ w.heap.size (.slice (some ⟨q2, 0, none⟩) n n) (by show w.heap.size ≠ w.heap.size + 1 + 1; omega)).trans k0'
  have m1 := (heap_setCell_other wb2 ⟨w.heap.size + 1 + 1, 2, none⟩ (w.heap.size + 1) (.slice (some ⟨q2, 0, none⟩) n n) (by simp)).trans k1'
  have m2 := heap_setCell_same wb2 (w.heap.size + 1 + 1) 2 _ 36 (.slice (some ⟨q2, 0, none⟩) n n) k2'
  have R1 := hide (sp_put (g := w.heap.size + 1 + 1) (j := 2) (x := (.slice (some ⟨q2, 0, none⟩) n n)) (unhide R1') (by omega))
  have R2 := hide (ru_put (g := w.heap.size + 1 + 1) (j := 2) (x := (.slice (some ⟨q2, 0, none⟩) n n)) (unhide R2') (by omega))
  have B4 := hide ((unhide B3').setCell (p := ⟨w.heap.size + 1 + 1, 2, none⟩) (by show w.heap.size ≤ w.heap.size + 1 + 1; omega) (.slice (some ⟨q2, 0, none⟩) n n))
  have hz52 : wb2.heap.size ≤ (wb2.setCell ⟨w.heap.size + 1 + 1, 2, none⟩ (.slice (some ⟨q2, 0, none⟩) n n)).heap.size := by simp
  obtain ⟨⟨d0, d1, d2, d3, d4⟩, _⟩ := five_cellsF m0
  clear R1'
  clear R2'
  clear k0 k1 k2 k0' k1' k2' hb B3 B3' ho2 C2 H2
  go_wp2_with fail
  have k0 := m0
  have k1 := m1
  have k2 := m2
  have B3 := B4
  generalize wb2.setCell ⟨w.heap.size + 1 + 1, 2, none⟩ (.slice (some ⟨q2, 0, none⟩) n n) = wc2 at *
  clear m0 m1 m2 B4 a0 a1 a2 a3 a4 b0 b1 b2 b3 b4 b5 d0 d1 d2 d3 d4
  refine ((unhide C3) _ ((unhide H3).below (unhide B3))).mono ?_
  rintro e wb3 ⟨rfl, ho3, hb⟩
  have k0' := (hb.block w.heap.size (by omega)).trans k0
  have k1' := (hb.block (w.heap.size + 1) (by omega)).trans k1
  have k2' := (hb.block (w.heap.size + 1 + 1) (by omega)).trans k2
  have R1' := hide ((unhide R1).below hb)
  clear R1
  have R2' := hide ((unhide R2).below hb)
  clear R2
  obtain ⟨q3, hq3⟩ : ∃ q, q = wc2.heap.size := ⟨_, rfl⟩
  rw [← hq3] at ho3 ⊢
  have hp3 : wc2.heap.size ≤ q3 := by omega
  have hlt3 : q3 < wb3.heap.size := (World.ownsRow.lt ho3 q3 rfl).2
  have R3' := hide (kr_down (B := w.heap.size + 3) ho3 (by omega))
  clear hq3
  have B3' := hide ((unhide B3).trans (hb.mono (unhide B3).size))
  have hs3 : wc2.heap.size ≤ wb3.heap.size := hb.size
  obtain ⟨⟨a0, a1, a2, a3, a4⟩, _⟩ := five_cellsF k0'
  obtain ⟨⟨b0, b1, b2, b3, b4⟩, b6⟩ := five_cellsF k2'
  have b5 := b6 3
  clear b6
  have m0 := (heap_setCell_other wb3 ⟨w.heap.size + 1 + 1, 3, none⟩ w.heap.size (.slice (some ⟨q3, 0, none⟩) LK.length LK.length) (by show w.heap.size ≠ w.heap.size + 1 + 1; omega)).trans k0'
  have m1 := (heap_setCell_other wb3 ⟨w.heap.size + 1 + 1, 3, none⟩ (w.heap.size + 1) (.slice (some ⟨q3, 0, none⟩) LK.length LK.length) (by simp)).trans k1'
  have m2 := heap_setCell_same wb3 (w.heap.size + 1 + 1) 3 _ 36 (.slice (some ⟨q3, 0, none⟩) LK.length LK.length) k2'
  have R1 := hide (sp_put (g := w.heap.size + 1 + 1) (j := 3) (x := (.slice (some ⟨q3, 0, none⟩) LK.length LK.length)) (unhide R1') (by omega))
  have R2 := hide (ru_put (g := w.heap.size + 1 + 1) (j := 3) (x := (.slice (some ⟨q3, 0, none⟩) LK.length LK.length)) (unhide R2') (by omega))
  have R3 := hide (kr_put (g := w.heap.size + 1 + 1) (j := 3) (x := (.slice (some ⟨q3, 0, none⟩) LK.length LK.length)) (unhide R3') (by omega))
  have B4 := hide ((unhide B3').setCell (p := ⟨w.heap.size + 1 + 1, 3, none⟩) (by show w.heap.size ≤ w.heap.size + 1 + 1; omega) (.slice (some ⟨q3, 0, none⟩) LK.length LK.length))
  have hz53 : wb3.heap.size ≤ (wb3.setCell ⟨w.heap.size + 1 + 1, 3, none⟩ (.slice (some ⟨q3, 0, none⟩) LK.length LK.length)).heap.size := by simp
  obtain ⟨⟨d0, d1, d2, d3, d4⟩, _⟩ := five_cellsF m0
  clear R1'
  clear R2'
  clear R3'
  clear k0 k1 k2 k0' k1' k2' hb B3 B3' ho3 C3 H3
  go_wp2_with fail
  have k0 := m0
  have k1 := m1
  have k2 := m2
  have B3 := B4
  generalize wb3.setCell ⟨w.heap.size + 1 + 1, 3, none⟩ (.slice (some ⟨q3, 0, none⟩) LK.length LK.length) = wc3 at *
  clear m0 m1 m2 B4 a0 a1 a2 a3 a4 b0 b1 b2 b3 b4 b5 d0 d1 d2 d3 d4
  refine ((unhide C4) _ ((unhide H4).below (unhide B3))).mono ?_
  rintro e wb4 ⟨rfl, ho4, hb⟩
  have k0' := (hb.block w.heap.size (by omega)).trans k0
  have k1' := (hb.block (w.heap.size + 1) (by omega)).trans k1
  have k2' := (hb.block (w.heap.size + 1 + 1) (by omega)).trans k2
  have R1' := hide ((unhide R1).below hb)
  clear R1
  have R2' := hide ((unhide R2).below hb)
  clear R2
  have R3' := hide ((unhide R3).below hb)
  clear R3
  obtain ⟨q4, hq4⟩ : ∃ q, q = wc3.heap.size := ⟨_, rfl⟩
  rw [← hq4] at ho4 ⊢
  have hp4 : wc3.heap.size ≤ q4 := by omega
  have R4' := hide (sp_down (B := w.heap.size + 3) ho4 (by omega))
  clear hq4
  have B3' := hide ((unhide B3).trans (hb.mono (unhide B3).size))
  have hs4 : wc3.heap.size ≤ wb4.heap.size := hb.size
  obtain ⟨⟨a0, a1, a2, a3, a4⟩, _⟩ := five_cellsF k0'
  obtain ⟨⟨b0, b1, b2, b3, b4⟩, b6⟩ := five_cellsF k2'
  have b5 := b6 4
  clear b6
  have m0 := (heap_setCell_other wb4 ⟨w.heap.size + 1 + 1, 4, none⟩ w.heap.size (.slice (some ⟨q4, 0, none⟩) LA.length LA.length) (by show w.heap.size ≠ w.heap.size + 1 + 1; omega)).trans k0'
  have m1 := (heap_setCell_other wb4 ⟨w.heap.size + 1 + 1, 4, none⟩ (w.heap.size + 1) (.slice (some ⟨q4, 0, none⟩) LA.length LA.length) (by simp)).trans k1'
  have m2 := heap_setCell_same wb4 (w.heap.size + 1 + 1) 4 _ 36 (.slice (some ⟨q4, 0, none⟩) LA.length LA.length) k2'
  have R1 := hide (sp_put (g := w.heap.size + 1 + 1) (j := 4) (x := (.slice (some ⟨q4, 0, none⟩) LA.length LA.length)) (unhide R1') (by omega))
  have R2 := hide (ru_put (g := w.heap.size + 1 + 1) (j := 4) (x := (.slice (some ⟨q4, 0, none⟩) LA.length LA.length)) (unhide R2') (by omega))
  have R3 := hide (kr_put (g := w.heap.size + 1 + 1) (j := 4) (x := (.slice (some ⟨q4, 0, none⟩) LA.length LA.length)) (unhide R3') (by omega))
  have R4 := hide (sp_put (g := w.heap.size + 1 + 1) (j := 4) (x := (.slice (some ⟨q4, 0, none⟩) LA.length LA.length)) (unhide R4') (by omega))
  have B4 := hide ((unhide B3').setCell (p := ⟨w.heap.size + 1 + 1, 4, none⟩) (by show w.heap.size ≤ w.heap.size + 1 + 1; omega) (.slice (some ⟨q4, 0, none⟩) LA.length LA.length))
  have hz54 : wb4.heap.size ≤ (wb4.setCell ⟨w.heap.size + 1 + 1, 4, none⟩ (.slice (some ⟨q4, 0, none⟩) LA.length LA.length)).heap.size := by simp
  obtain ⟨⟨d0, d1, d2, d3, d4⟩, _⟩ := five_cellsF m2
  obtain ⟨_, f4⟩ := five_cellsF m1
  clear R1'
  clear R2'
  clear R3'
  clear R4'
  clear k0 k1 k2 k0' k1' k2' hb B3 B3' ho4 C4 H4
  have n0 := heap_setCell_same (wb4.setCell ⟨w.heap.size + 1 + 1, 4, none⟩ (.slice (some ⟨q4, 0, none⟩) LA.length LA.length)) (w.heap.size + 1) 0 _ 36 (.int .i64 wd) m1
  obtain ⟨⟨g00, g01, g02, g03, g04⟩, g05⟩ := five_cellsF n0
  have S01 := hide (sp_put (g := w.heap.size + 1) (j := 0) (x := (.int .i64 wd)) (unhide R1) (by omega))
  have S02 := hide (ru_put (g := w.heap.size + 1) (j := 0) (x := (.int .i64 wd)) (unhide R2) (by omega))
  have S03 := hide (kr_put (g := w.heap.size + 1) (j := 0) (x := (.int .i64 wd)) (unhide R3) (by omega))
  have S04 := hide (sp_put (g := w.heap.size + 1) (j := 0) (x := (.int .i64 wd)) (unhide R4) (by omega))
  have D0 := hide ((unhide B4).setCell (p := ⟨w.heap.size + 1, 0, none⟩) (by simp) (.int .i64 wd))
  have n1 := heap_setCell_same ((wb4.setCell ⟨w.heap.size + 1 + 1, 4, none⟩ (.slice (some ⟨q4, 0, none⟩) LA.length LA.length)).setCell ⟨w.heap.size + 1, 0, none⟩ (.int .i64 wd)) (w.heap.size + 1) 1 _ 36 (.slice (some ⟨q1, 0, none⟩) LW.length LW.length) n0
  obtain ⟨⟨g10, g11, g12, g13, g14⟩, g15⟩ := five_cellsF n1
  have S11 := hide (sp_put (g := w.heap.size + 1) (j := 1) (x := (.slice (some ⟨q1, 0, none⟩) LW.length LW.length)) (unhide S01) (by omega))
  have S12 := hide (ru_put (g := w.heap.size + 1) (j := 1) (x := (.slice (some ⟨q1, 0, none⟩) LW.length LW.length)) (unhide S02) (by omega))
  have S13 := hide (kr_put (g := w.heap.size + 1) (j := 1) (x := (.slice (some ⟨q1, 0, none⟩) LW.length LW.length)) (unhide S03) (by omega))
  have S14 := hide (sp_put (g := w.heap.size + 1) (j := 1) (x := (.slice (some ⟨q1, 0, none⟩) LW.length LW.length)) (unhide S04) (by omega))
  have D1 := hide ((unhide D0).setCell (p := ⟨w.heap.size + 1, 1, none⟩) (by simp) (.slice (some ⟨q1, 0, none⟩) LW.length LW.length))
  have n2 := heap_setCell_same (((wb4.setCell ⟨w.heap.size + 1 + 1, 4, none⟩ (.slice (some ⟨q4, 0, none⟩) LA.length LA.length)).setCell ⟨w.heap.size + 1, 0, none⟩ (.int .i64 wd)).setCell ⟨w.heap.size + 1, 1, none⟩ (.slice (some ⟨q1, 0, none⟩) LW.length LW.length)) (w.heap.size + 1) 2 _ 36 (.slice (some ⟨q2, 0, none⟩) n n) n1
  obtain ⟨⟨g20, g21, g22, g23, g24⟩, g25⟩ := five_cellsF n2
  have S21 := hide (sp_put (g := w.heap.size + 1) (j := 2) (x := (.slice (some ⟨q2, 0, none⟩) n n)) (unhide S11) (by omega))
  have S22 := hide (ru_put (g := w.heap.size + 1) (j := 2) (x := (.slice (some ⟨q2, 0, none⟩) n n)) (unhide S12) (by omega))
  have S23 := hide (kr_put (g := w.heap.size + 1) (j := 2) (x := (.slice (some ⟨q2, 0, none⟩) n n)) (unhide S13) (by omega))
  have S24 := hide (sp_put (g := w.heap.size + 1) (j := 2) (x := (.slice (some ⟨q2, 0, none⟩) n n)) (unhide S14) (by omega))
  have D2 := hide ((unhide D1).setCell (p := ⟨w.heap.size + 1, 2, none⟩) (by simp) (.slice (some ⟨q2, 0, none⟩) n n))
  have n3 := heap_setCell_same ((((wb4.setCell ⟨w.heap.size + 1 + 1, 4, none⟩ (.slice (some ⟨q4, 0, none⟩) LA.length LA.length)).setCell ⟨w.heap.size + 1, 0, none⟩ (.int .i64 wd)).setCell ⟨w.heap.size + 1, 1, none⟩ (.slice (some ⟨q1, 0, none⟩) LW.length LW.length)).setCell ⟨w.heap.size + 1, 2, none⟩ (.slice (some ⟨q2, 0, none⟩) n n)) (w.heap.size + 1) 3 _ 36 (.slice (some ⟨q3, 0, none⟩) LK.length LK.length) n2
  obtain ⟨⟨g30, g31, g32, g33, g34⟩, g35⟩ := five_cellsF n3
  have S31 := hide (sp_put (g := w.heap.size + 1) (j := 3) (x := (.slice (some ⟨q3, 0, none⟩) LK.length LK.length)) (unhide S21) (by omega))
  have S32 := hide (ru_put (g := w.heap.size + 1) (j := 3) (x := (.slice (some ⟨q3, 0, none⟩) LK.length LK.length)) (unhide S22) (by omega))
  have S33 := hide (kr_put (g := w.heap.size + 1) (j := 3) (x := (.slice (some ⟨q3, 0, none⟩) LK.length LK.length)) (unhide S23) (by omega))
  have S34 := hide (sp_put (g := w.heap.size + 1) (j := 3) (x := (.slice (some ⟨q3, 0, none⟩) LK.length LK.length)) (unhide S24) (by omega))
  have D3 := hide ((unhide D2).setCell (p := ⟨w.heap.size + 1, 3, none⟩) (by simp) (.slice (some ⟨q3, 0, none⟩) LK.length LK.length))
  have n4 := heap_setCell_same (((((wb4.setCell ⟨w.heap.size + 1 + 1, 4, none⟩ (.slice (some ⟨q4, 0, none⟩) LA.length LA.length)).setCell ⟨w.heap.size + 1, 0, none⟩ (.int .i64 wd)).setCell ⟨w.heap.size + 1, 1, none⟩ (.slice (some ⟨q1, 0, none⟩) LW.length LW.length)).setCell ⟨w.heap.size + 1, 2, none⟩ (.slice (some ⟨q2, 0, none⟩) n n)).setCell ⟨w.heap.size + 1, 3, none⟩ (.slice (some ⟨q3, 0, none⟩) LK.length LK.length)) (w.heap.size + 1) 4 _ 36 (.slice (some ⟨q4, 0, none⟩) LA.length LA.length) n3
  obtain ⟨⟨g40, g41, g42, g43, g44⟩, g45⟩ := five_cellsF n4
  have S41 := hide (sp_put (g := w.heap.size + 1) (j := 4) (x := (.slice (some ⟨q4, 0, none⟩) LA.length LA.length)) (unhide S31) (by omega))
  have S42 := hide (ru_put (g := w.heap.size + 1) (j := 4) (x := (.slice (some ⟨q4, 0, none⟩) LA.length LA.length)) (unhide S32) (by omega))
  have S43 := hide (kr_put (g := w.heap.size + 1) (j := 4) (x := (.slice (some ⟨q4, 0, none⟩) LA.length LA.length)) (unhide S33) (by omega))
  have S44 := hide (sp_put (g := w.heap.size + 1) (j := 4) (x := (.slice (some ⟨q4, 0, none⟩) LA.length LA.length)) (unhide S34) (by omega))
  have D4 := hide ((unhide D3).setCell (p := ⟨w.heap.size + 1, 4, none⟩) (by simp) (.slice (some ⟨q4, 0, none⟩) LA.length LA.length))
  have f40 := f4 0
  have y0 := g05 1
  have y1 := g15 2
  have y2 := g25 3
  have y3 := g35 4
  clear n0 n1 n2 n3 n4 m0 m1 m2 f4 g05 g15 g25 g35 g45
  clear R1 R2 R3 R4 S01 S02 S03 S04 S11 S12 S13 S14 S21 S22 S23 S24 S31 S32 S33 S34 D0 D1 D2 D3 B4
  go_wp2
  refine bodyPost_ret (v := .agg #[(.int .i64 wd), (.slice (some ⟨q1, 0, none⟩) LW.length LW.length), (.slice (some ⟨q2, 0, none⟩) n n), (.slice (some ⟨q3, 0, none⟩) LK.length LK.length), (.slice (some ⟨q4, 0, none⟩) LA.length LA.length)]) (by simp [results, Tryz.results6, go_sem, g40, g41, g42, g43, g44]; try rfl) rfl ?_
  exact ⟨_, rfl, ⟨q1, q2, q3, q4, blk, rfl, unhide HQ, sp_down (unhide S41) (by omega), unhide S42, by omega, kr_down (unhide S43) (by omega), sp_down (unhide S44) (by omega), by omega, fun k hk => by have := hbk k hk; omega, by omega, by omega⟩, unhide D4⟩
end Go.Proofs.YtfldomifooihlaaGreatDoor.Fnt
/- How large a font is, with its rules. -/
namespace Go.Proofs.YtfldomifooihlaaGreatDoor.Fnt
open Go.RowKit
set_option linter.unusedVariables false
set_option maxRecDepth 100000 in
set_option maxHeartbeats 8000000 in
theorem szFont_z (wd : Int) (a1 a2 a3 a4 : Option Addr) (c1 c2 c3 c4 : Nat) (LW : List Sp) (n : Nat) (Q : List (List Int)) (LK LA : List Sp) (w : World) (h2 : Frl.RuI w (.slice a2 n c2) n Q) (b1 : LW.length ≤ 9223372036854775807) (b2 : n ≤ 9223372036854775807) (b5 : Frl.AllB Q 9223372036854775807) (b3 : LK.length ≤ 9223372036854775807) (b4 : LA.length ≤ 9223372036854775807) :
    Calls Tryz.prog 4 #[.agg #[.int .i64 wd, .slice a1 LW.length c1, .slice a2 n c2, .slice a3 LK.length c3, .slice a4 LA.length c4], .int .i64 1048576] w fun e w' => ∃ S : Int, e = .returned (.int .i64 S) ∧ (0 ≤ S → Fit LW n Q LK LA ∧ Frl.szk Q n ≤ 1048576) ∧ Below w.heap.size w w' := by
  have B1 := hide ((Below.refl w.heap.size w).alloc (Nat.le_refl _) (.cells #[.int .i64 wd, .slice a1 LW.length c1, .slice a2 n c2, .slice a3 LK.length c3, .slice a4 LA.length c4] 26))
  have hQ := h2.1
  have hq := Frl.heap_new w (.cells #[.int .i64 wd, .slice a1 LW.length c1, .slice a2 n c2, .slice a3 LK.length c3, .slice a4 LA.length c4] 26)
  have hqs : w.heap.size < (w.alloc (.cells #[.int .i64 wd, .slice a1 LW.length c1, .slice a2 n c2, .slice a3 LK.length c3, .slice a4 LA.length c4] 26)).heap.size := by simp
  have C1 := hide (fun W => szSpans_any a1 LW.length c1 1048576 (by omega) W b1)
  have HF : Hid (LW.length ≤ 1048576 → n ≤ 1048576 → Frl.szk Q n ≤ 1048576 → LK.length ≤ 1048576 → LA.length ≤ 1048576 → Fit LW n Q LK LA ∧ Frl.szk Q n ≤ 1048576) := hide (fun x1 x2 x3 x4 x5 => ⟨⟨x1, x2, allB_of hQ x3, x4, x5⟩, x3⟩)
  by_cases t1 : (1048576 : Int) - (LW.length : Int) < 0
  · rw [if_pos t1] at C1
    clear h2 hq
    go_enter Tryz.func4, Tryz.ntmps4
    go_wp2_with fail
    refine ((unhide C1) _).mono ?_
    rintro e w9 ⟨rfl, e9⟩
    have f9 := e9.symm
    subst f9
    clear e9
    go_wp2
    go_ret
    exact ⟨-1, rfl, fun h => by omega, unhide B1⟩
  rw [if_neg t1] at C1
  obtain ⟨s1, hs1⟩ : ∃ s1 : Int, 1048576 - (LW.length : Int) = s1 := ⟨_, rfl⟩
  rw [hs1] at C1 t1
  have C2 := hide (Frl.szRules_any s1 (by omega) (.slice a2 n c2) n Q _ (h2.below (unhide B1)) b2 b5)
  by_cases t2 : s1 - ((n + Frl.szk Q n : Nat) : Int) < 0
  · rw [Frl.lf_neg t2] at C2
    clear h2 hs1
    go_enter Tryz.func4, Tryz.ntmps4
    go_wp2_with fail
    refine ((unhide C1) _).mono ?_
    rintro e w9 ⟨rfl, e9⟩
    have f9 := e9.symm
    subst f9
    clear e9
    go_wp2_with fail
    generalize w.alloc (.cells #[.int .i64 wd, .slice a1 LW.length c1, .slice a2 n c2, .slice a3 LK.length c3, .slice a4 LA.length c4] 26) = wa at *
    refine (unhide C2).mono ?_
    rintro e w2 ⟨rfl, hb2⟩
    have B2 := hide ((unhide B1).trans (hb2.mono (unhide B1).size))
    have hq2 := (hb2.block w.heap.size hqs).trans hq
    obtain ⟨⟨x0, x1, x2, x3, x4⟩, _⟩ := five_cellsF hq2
    clear hb2 C2
    go_wp2
    go_ret
    exact ⟨-1, rfl, fun h => by omega, unhide B2⟩
  rw [Frl.lf_pos t2] at C2
  obtain ⟨s2, hs2⟩ : ∃ s2 : Int, s1 - ((n + Frl.szk Q n : Nat) : Int) = s2 := ⟨_, rfl⟩
  rw [hs2] at C2 t2
  have C3 := hide (fun W => Krn.szSpans_any a3 LK.length c3 s2 (by omega) W b3)
  by_cases t3 : s2 - (LK.length : Int) < 0
  · rw [if_pos t3] at C3
    clear h2 hs1 hs2
    go_enter Tryz.func4, Tryz.ntmps4
    go_wp2_with fail
    refine ((unhide C1) _).mono ?_
    rintro e w9 ⟨rfl, e9⟩
    have f9 := e9.symm
    subst f9
    clear e9
    go_wp2_with fail
    generalize w.alloc (.cells #[.int .i64 wd, .slice a1 LW.length c1, .slice a2 n c2, .slice a3 LK.length c3, .slice a4 LA.length c4] 26) = wa at *
    refine (unhide C2).mono ?_
    rintro e w2 ⟨rfl, hb2⟩
    have B2 := hide ((unhide B1).trans (hb2.mono (unhide B1).size))
    have hq2 := (hb2.block w.heap.size hqs).trans hq
    obtain ⟨⟨x0, x1, x2, x3, x4⟩, _⟩ := five_cellsF hq2
    clear hb2 C2
    go_wp2_with fail
    refine ((unhide C3) _).mono ?_
    rintro e w9 ⟨rfl, e9⟩
    have f9 := e9.symm
    subst f9
    clear e9
    go_wp2
    go_ret
    exact ⟨-1, rfl, fun h => by omega, unhide B2⟩
  rw [if_neg t3] at C3
  obtain ⟨s3, hs3⟩ : ∃ s3 : Int, s2 - (LK.length : Int) = s3 := ⟨_, rfl⟩
  rw [hs3] at C3 t3
  have C4 := hide (fun W => szSpans_any a4 LA.length c4 s3 (by omega) W b4)
  by_cases t4 : s3 - (LA.length : Int) < 0
  · rw [if_pos t4] at C4
    clear h2 hs1 hs2 hs3
    go_enter Tryz.func4, Tryz.ntmps4
    go_wp2_with fail
    refine ((unhide C1) _).mono ?_
    rintro e w9 ⟨rfl, e9⟩
    have f9 := e9.symm
    subst f9
    clear e9
    go_wp2_with fail
    generalize w.alloc (.cells #[.int .i64 wd, .slice a1 LW.length c1, .slice a2 n c2, .slice a3 LK.length c3, .slice a4 LA.length c4] 26) = wa at *
    refine (unhide C2).mono ?_
    rintro e w2 ⟨rfl, hb2⟩
    have B2 := hide ((unhide B1).trans (hb2.mono (unhide B1).size))
    have hq2 := (hb2.block w.heap.size hqs).trans hq
    obtain ⟨⟨x0, x1, x2, x3, x4⟩, _⟩ := five_cellsF hq2
    clear hb2 C2
    go_wp2_with fail
    refine ((unhide C3) _).mono ?_
    rintro e w9 ⟨rfl, e9⟩
    have f9 := e9.symm
    subst f9
    clear e9
    go_wp2_with fail
    refine ((unhide C4) _).mono ?_
    rintro e w9 ⟨rfl, e9⟩
    have f9 := e9.symm
    subst f9
    clear e9
    go_wp2
    go_ret
    exact ⟨-1, rfl, fun h => by omega, unhide B2⟩
  rw [if_neg t4] at C4
  have HH := hide ((unhide HF) (by omega) (by omega) (by omega) (by omega) (by omega))
  obtain ⟨s4, hs4⟩ : ∃ s4 : Int, s3 - (LA.length : Int) = s4 := ⟨_, rfl⟩
  rw [hs4] at C4 t4
  clear h2 hs1 hs2 hs3 hs4
  go_enter Tryz.func4, Tryz.ntmps4
  go_wp2_with fail
  refine ((unhide C1) _).mono ?_
  rintro e w9 ⟨rfl, e9⟩
  have f9 := e9.symm
  subst f9
  clear e9
  go_wp2_with fail
  generalize w.alloc (.cells #[.int .i64 wd, .slice a1 LW.length c1, .slice a2 n c2, .slice a3 LK.length c3, .slice a4 LA.length c4] 26) = wa at *
  refine (unhide C2).mono ?_
  rintro e w2 ⟨rfl, hb2⟩
  have B2 := hide ((unhide B1).trans (hb2.mono (unhide B1).size))
  have hq2 := (hb2.block w.heap.size hqs).trans hq
  obtain ⟨⟨x0, x1, x2, x3, x4⟩, _⟩ := five_cellsF hq2
  clear hb2 C2
  go_wp2_with fail
  refine ((unhide C3) _).mono ?_
  rintro e w9 ⟨rfl, e9⟩
  have f9 := e9.symm
  subst f9
  clear e9
  go_wp2_with fail
  refine ((unhide C4) _).mono ?_
  rintro e w9 ⟨rfl, e9⟩
  have f9 := e9.symm
  subst f9
  clear e9
  go_wp2
  go_ret
  exact ⟨_, rfl, fun _ => unhide HH, unhide B2⟩
end Go.Proofs.YtfldomifooihlaaGreatDoor.Fnt
/- FontFault, as the program and as the specification tell it. -/
namespace Go.Proofs.YtfldomifooihlaaGreatDoor.Fnt
open Go.RowKit
set_option linter.unusedVariables false
/-- A font is right. -/
def ffb (wd : Int) (LW : List Sp) (n : Nat) (Q : List (List Int)) (LK LA : List Sp) : Bool := (decide (0 ≤ wd) && decide (wd ≤ 1000)) && (msr 0 LW && (msr (-1000) LA && (Frl.okR n Q && krn LK)))
def ff (wd : Int) (LW : List Sp) (n : Nat) (Q : List (List Int)) (LK LA : List Sp) : Int := if ffb wd LW n Q LK LA = true then 0 else 1
theorem ff_no {wd : Int} {LW : List Sp} {n : Nat} {Q : List (List Int)} {LK LA : List Sp} (h : (decide (0 ≤ wd) && decide (wd ≤ 1000)) = false ∨ msr 0 LW = false ∨ msr (-1000) LA = false ∨ Frl.okR n Q = false ∨ krn LK = false) : ff wd LW n Q LK LA = 1 := by
  unfold ff
  refine if_neg (fun e => ?_)
  unfold ffb at e
  simp only [Bool.and_eq_true] at e
  obtain ⟨e0, e1, e2, e3, e4⟩ := e
  rcases h with h | h | h | h | h
  · rw [Bool.and_eq_false_iff] at h; rcases h with h | h <;> simp_all
  · rw [h] at e1; cases e1
  · rw [h] at e2; cases e2
  · rw [h] at e3; cases e3
  · rw [h] at e4; cases e4
theorem ff_yes {wd : Int} {LW : List Sp} {n : Nat} {Q : List (List Int)} {LK LA : List Sp} (h0 : (decide (0 ≤ wd) && decide (wd ≤ 1000)) = true) (h1 : msr 0 LW = true) (h2 : msr (-1000) LA = true) (h3 : Frl.okR n Q = true) (h4 : krn LK = true) : ff wd LW n Q LK LA = 0 := by
  unfold ff ffb
  rw [h0, h1, h2, h3, h4]; rfl
set_option maxRecDepth 100000 in
set_option maxHeartbeats 8000000 in
theorem implFF (v : Value) (wd : Int) (LW : List Sp) (n : Nat) (Q : List (List Int)) (LK LA : List Sp) (w : World) (h : FA w v wd LW n Q LK LA) (hf : Fit LW n Q LK LA) :
    Calls Tryz.prog 25 #[v] w fun e w' => e = .returned (.int .i64 (ff wd LW n Q LK LA)) ∧ Below w.heap.size w w' := by
  obtain ⟨a1, a2, a3, a4, c1, c2, c3, c4, rfl, ⟨B1, f1⟩, f2, ⟨B3, f3⟩, B4, f4⟩ := h.form
  obtain ⟨l1, l2, l5, l3, l4⟩ := hf
  have C0 := hide (fun W => Frl.within_any wd 0 1000 W)
  have C1 := hide (fun W (hb : Below w.heap.size w W) => areM_any _ LW 0 B1 W (f1.below hb) l1)
  have C2 := hide (fun W (hb : Below w.heap.size w W) => areM_any _ LA (-1000) B4 W (f4.below hb) l4)
  have C3 := hide (fun W (hb : Below w.heap.size w W) => Frl.areRules_any _ n Q W (f2.below hb) l2 l5)
  have C4 := hide (fun W (hb : Below w.heap.size w W) => areKerns_any _ LK B3 W (f3.below hb) l3)
  have HNo := hide (fun h => ff_no (wd := wd) (LW := LW) (n := n) (Q := Q) (LK := LK) (LA := LA) h)
  have HYes := hide (fun h0 h1 h2 h3 h4 => ff_yes (wd := wd) (LW := LW) (n := n) (Q := Q) (LK := LK) (LA := LA) h0 h1 h2 h3 h4)
  generalize ff wd LW n Q LK LA = Z at *
  have BB := hide ((Below.refl w.heap.size w).alloc (Nat.le_refl _) (.cells #[.int .i64 wd, .slice a1 LW.length c1, .slice a2 n c2, .slice a3 LK.length c3, .slice a4 LA.length c4] 36))
  have hq := Frl.heap_new w (.cells #[.int .i64 wd, .slice a1 LW.length c1, .slice a2 n c2, .slice a3 LK.length c3, .slice a4 LA.length c4] 36)
  have hqs : w.heap.size < (w.alloc (.cells #[.int .i64 wd, .slice a1 LW.length c1, .slice a2 n c2, .slice a3 LK.length c3, .slice a4 LA.length c4] 36)).heap.size := by simp
  clear h f1 f2 f3 f4 l1 l2 l3 l4 l5
  cases y0 : (decide (0 ≤ wd) && decide (wd ≤ 1000))
  · rw [y0] at C0
    have HZ := hide ((unhide HNo) (.inl y0))
    clear HNo HYes y0
    go_enter Tryz.func25, Tryz.ntmps25
    go_wp2_with fail
    refine ((unhide C0) _).mono ?_
    rintro e w9 ⟨rfl, e9⟩
    have f9 := e9.symm
    subst f9
    clear e9
    go_wp2
    go_ret
    exact ⟨by rw [unhide HZ]; rfl, unhide BB⟩
  · rw [y0] at C0
    cases y1 : msr 0 LW
    · rw [y1] at C1
      have HZ := hide ((unhide HNo) (.inr (.inl y1)))
      clear HNo HYes y0 y1
      go_enter Tryz.func25, Tryz.ntmps25
      go_wp2_with fail
      refine ((unhide C0) _).mono ?_
      rintro e w9 ⟨rfl, e9⟩
      have f9 := e9.symm
      subst f9
      clear e9
      go_wp2_with fail
      generalize w.alloc (.cells #[.int .i64 wd, .slice a1 LW.length c1, .slice a2 n c2, .slice a3 LK.length c3, .slice a4 LA.length c4] 36) = wa at *
      refine ((unhide C1) _ (unhide BB)).mono ?_
      rintro e wb1 ⟨rfl, hb⟩
      have BB1 := hide ((unhide BB).trans (hb.mono (unhide BB).size))
      have hq1 := (hb.block w.heap.size hqs).trans hq
      have hqs1 := Nat.lt_of_lt_of_le hqs hb.size
      obtain ⟨⟨x0, x1, x2, x3, x4⟩, _⟩ := five_cellsF hq1
      clear hb
      go_wp2
      go_ret
      exact ⟨by rw [unhide HZ]; rfl, unhide BB1⟩
    · rw [y1] at C1
      cases y2 : msr (-1000) LA
      · rw [y2] at C2
        have HZ := hide ((unhide HNo) (.inr (.inr (.inl y2))))
        clear HNo HYes y0 y1 y2
        go_enter Tryz.func25, Tryz.ntmps25
        go_wp2_with fail
        refine ((unhide C0) _).mono ?_
        rintro e w9 ⟨rfl, e9⟩
        have f9 := e9.symm
        subst f9
        clear e9
        go_wp2_with fail
        generalize w.alloc (.cells #[.int .i64 wd, .slice a1 LW.length c1, .slice a2 n c2, .slice a3 LK.length c3, .slice a4 LA.length c4] 36) = wa at *
        refine ((unhide C1) _ (unhide BB)).mono ?_
        rintro e wb1 ⟨rfl, hb⟩
        have BB1 := hide ((unhide BB).trans (hb.mono (unhide BB).size))
        have hq1 := (hb.block w.heap.size hqs).trans hq
        have hqs1 := Nat.lt_of_lt_of_le hqs hb.size
        obtain ⟨⟨x0, x1, x2, x3, x4⟩, _⟩ := five_cellsF hq1
        clear hb
        go_wp2_with fail
        refine ((unhide C2) _ (unhide BB1)).mono ?_
        rintro e wb2 ⟨rfl, hb⟩
        clear x0 x1 x2 x3 x4
        have BB2 := hide ((unhide BB1).trans (hb.mono (unhide BB1).size))
        have hq2 := (hb.block w.heap.size hqs1).trans hq1
        have hqs2 := Nat.lt_of_lt_of_le hqs1 hb.size
        obtain ⟨⟨x0, x1, x2, x3, x4⟩, _⟩ := five_cellsF hq2
        clear hb
        go_wp2
        go_ret
        exact ⟨by rw [unhide HZ]; rfl, unhide BB2⟩
      · rw [y2] at C2
        cases y3 : Frl.okR n Q
        · rw [y3] at C3
          have HZ := hide ((unhide HNo) (.inr (.inr (.inr (.inl y3)))))
          clear HNo HYes y0 y1 y2 y3
          go_enter Tryz.func25, Tryz.ntmps25
          go_wp2_with fail
          refine ((unhide C0) _).mono ?_
          rintro e w9 ⟨rfl, e9⟩
          have f9 := e9.symm
          subst f9
          clear e9
          go_wp2_with fail
          generalize w.alloc (.cells #[.int .i64 wd, .slice a1 LW.length c1, .slice a2 n c2, .slice a3 LK.length c3, .slice a4 LA.length c4] 36) = wa at *
          refine ((unhide C1) _ (unhide BB)).mono ?_
          rintro e wb1 ⟨rfl, hb⟩
          have BB1 := hide ((unhide BB).trans (hb.mono (unhide BB).size))
          have hq1 := (hb.block w.heap.size hqs).trans hq
          have hqs1 := Nat.lt_of_lt_of_le hqs hb.size
          obtain ⟨⟨x0, x1, x2, x3, x4⟩, _⟩ := five_cellsF hq1
          clear hb
          go_wp2_with fail
          refine ((unhide C2) _ (unhide BB1)).mono ?_
          rintro e wb2 ⟨rfl, hb⟩
          clear x0 x1 x2 x3 x4
          have BB2 := hide ((unhide BB1).trans (hb.mono (unhide BB1).size))
          have hq2 := (hb.block w.heap.size hqs1).trans hq1
          have hqs2 := Nat.lt_of_lt_of_le hqs1 hb.size
          obtain ⟨⟨x0, x1, x2, x3, x4⟩, _⟩ := five_cellsF hq2
          clear hb
          go_wp2_with fail
          refine ((unhide C3) _ (unhide BB2)).mono ?_
          rintro e wb3 ⟨rfl, hb⟩
          clear x0 x1 x2 x3 x4
          have BB3 := hide ((unhide BB2).trans (hb.mono (unhide BB2).size))
          have hq3 := (hb.block w.heap.size hqs2).trans hq2
          have hqs3 := Nat.lt_of_lt_of_le hqs2 hb.size
          obtain ⟨⟨x0, x1, x2, x3, x4⟩, _⟩ := five_cellsF hq3
          clear hb
          go_wp2
          go_ret
          exact ⟨by rw [unhide HZ]; rfl, unhide BB3⟩
        · rw [y3] at C3
          cases y4 : krn LK
          · rw [y4] at C4
            have HZ := hide ((unhide HNo) (.inr (.inr (.inr (.inr y4)))))
            clear HNo HYes y0 y1 y2 y3 y4
            go_enter Tryz.func25, Tryz.ntmps25
            go_wp2_with fail
            refine ((unhide C0) _).mono ?_
            rintro e w9 ⟨rfl, e9⟩
            have f9 := e9.symm
            subst f9
            clear e9
            go_wp2_with fail
            generalize w.alloc (.cells #[.int .i64 wd, .slice a1 LW.length c1, .slice a2 n c2, .slice a3 LK.length c3, .slice a4 LA.length c4] 36) = wa at *
            refine ((unhide C1) _ (unhide BB)).mono ?_
            rintro e wb1 ⟨rfl, hb⟩
            have BB1 := hide ((unhide BB).trans (hb.mono (unhide BB).size))
            have hq1 := (hb.block w.heap.size hqs).trans hq
            have hqs1 := Nat.lt_of_lt_of_le hqs hb.size
            obtain ⟨⟨x0, x1, x2, x3, x4⟩, _⟩ := five_cellsF hq1
            clear hb
            go_wp2_with fail
            refine ((unhide C2) _ (unhide BB1)).mono ?_
            rintro e wb2 ⟨rfl, hb⟩
            clear x0 x1 x2 x3 x4
            have BB2 := hide ((unhide BB1).trans (hb.mono (unhide BB1).size))
            have hq2 := (hb.block w.heap.size hqs1).trans hq1
            have hqs2 := Nat.lt_of_lt_of_le hqs1 hb.size
            obtain ⟨⟨x0, x1, x2, x3, x4⟩, _⟩ := five_cellsF hq2
            clear hb
            go_wp2_with fail
            refine ((unhide C3) _ (unhide BB2)).mono ?_
            rintro e wb3 ⟨rfl, hb⟩
            clear x0 x1 x2 x3 x4
            have BB3 := hide ((unhide BB2).trans (hb.mono (unhide BB2).size))
            have hq3 := (hb.block w.heap.size hqs2).trans hq2
            have hqs3 := Nat.lt_of_lt_of_le hqs2 hb.size
            obtain ⟨⟨x0, x1, x2, x3, x4⟩, _⟩ := five_cellsF hq3
            clear hb
            go_wp2_with fail
            refine ((unhide C4) _ (unhide BB3)).mono ?_
            rintro e wb4 ⟨rfl, hb⟩
            clear x0 x1 x2 x3 x4
            have BB4 := hide ((unhide BB3).trans (hb.mono (unhide BB3).size))
            have hq4 := (hb.block w.heap.size hqs3).trans hq3
            have hqs4 := Nat.lt_of_lt_of_le hqs3 hb.size
            obtain ⟨⟨x0, x1, x2, x3, x4⟩, _⟩ := five_cellsF hq4
            clear hb
            go_wp2
            go_ret
            exact ⟨by rw [unhide HZ]; rfl, unhide BB4⟩
          · rw [y4] at C4
            have HZ := hide ((unhide HYes) y0 y1 y2 y3 y4)
            clear HNo HYes y0 y1 y2 y3 y4
            go_enter Tryz.func25, Tryz.ntmps25
            go_wp2_with fail
            refine ((unhide C0) _).mono ?_
            rintro e w9 ⟨rfl, e9⟩
            have f9 := e9.symm
            subst f9
            clear e9
            go_wp2_with fail
            generalize w.alloc (.cells #[.int .i64 wd, .slice a1 LW.length c1, .slice a2 n c2, .slice a3 LK.length c3, .slice a4 LA.length c4] 36) = wa at *
            refine ((unhide C1) _ (unhide BB)).mono ?_
            rintro e wb1 ⟨rfl, hb⟩
            have BB1 := hide ((unhide BB).trans (hb.mono (unhide BB).size))
            have hq1 := (hb.block w.heap.size hqs).trans hq
            have hqs1 := Nat.lt_of_lt_of_le hqs hb.size
            obtain ⟨⟨x0, x1, x2, x3, x4⟩, _⟩ := five_cellsF hq1
            clear hb
            go_wp2_with fail
            refine ((unhide C2) _ (unhide BB1)).mono ?_
            rintro e wb2 ⟨rfl, hb⟩
            clear x0 x1 x2 x3 x4
            have BB2 := hide ((unhide BB1).trans (hb.mono (unhide BB1).size))
            have hq2 := (hb.block w.heap.size hqs1).trans hq1
            have hqs2 := Nat.lt_of_lt_of_le hqs1 hb.size
            obtain ⟨⟨x0, x1, x2, x3, x4⟩, _⟩ := five_cellsF hq2
            clear hb
            go_wp2_with fail
            refine ((unhide C3) _ (unhide BB2)).mono ?_
            rintro e wb3 ⟨rfl, hb⟩
            clear x0 x1 x2 x3 x4
            have BB3 := hide ((unhide BB2).trans (hb.mono (unhide BB2).size))
            have hq3 := (hb.block w.heap.size hqs2).trans hq2
            have hqs3 := Nat.lt_of_lt_of_le hqs2 hb.size
            obtain ⟨⟨x0, x1, x2, x3, x4⟩, _⟩ := five_cellsF hq3
            clear hb
            go_wp2_with fail
            refine ((unhide C4) _ (unhide BB3)).mono ?_
            rintro e wb4 ⟨rfl, hb⟩
            clear x0 x1 x2 x3 x4
            have BB4 := hide ((unhide BB3).trans (hb.mono (unhide BB3).size))
            have hq4 := (hb.block w.heap.size hqs3).trans hq3
            have hqs4 := Nat.lt_of_lt_of_le hqs3 hb.size
            obtain ⟨⟨x0, x1, x2, x3, x4⟩, _⟩ := five_cellsF hq4
            clear hb
            go_wp2
            go_ret
            exact ⟨by rw [unhide HZ]; rfl, unhide BB4⟩
end Go.Proofs.YtfldomifooihlaaGreatDoor.Fnt
/- FontFault, as the specification tells it. -/
namespace Go.Proofs.YtfldomifooihlaaGreatDoor.Fnt
open Go.RowKit
set_option linter.unusedVariables false
theorem klt_no {a b : Sp} (h : b.1 < a.1 ∨ (a.1 = b.1 ∧ b.2.1 ≤ a.2.1)) : klt a b = false := by
  unfold klt
  rcases h with h | ⟨h1, h2⟩
  · rw [decide_eq_false (by omega), decide_eq_false (by omega : ¬ a.1 = b.1)]; rfl
  · rw [decide_eq_false (by omega), decide_eq_false (by omega : ¬ a.2.1 < b.2.1), Bool.and_false]; rfl
theorem klt_yes {a b : Sp} (h : ¬ b.1 < a.1) (h2 : ¬ (a.1 = b.1 ∧ b.2.1 ≤ a.2.1)) : klt a b = true := by
  unfold klt
  by_cases e : a.1 = b.1
  · rw [decide_eq_true e, decide_eq_true (by omega : a.2.1 < b.2.1)]; simp
  · rw [decide_eq_true (by omega : a.1 < b.1)]; rfl
set_option maxRecDepth 100000 in
set_option maxHeartbeats 8000000 in
theorem specFF (v : Value) (wd : Int) (LW : List Sp) (n : Nat) (Q : List (List Int)) (LK LA : List Sp) (w : World) (h : FA w v wd LW n Q LK LA) (hf : Fit LW n Q LK LA) :
    Calls Tryz.prog 16 #[v] w fun e w' => e = .returned (.int .i64 (ff wd LW n Q LK LA)) ∧ Below w.heap.size w w' := by
  obtain ⟨a1, a2, a3, a4, c1, c2, c3, c4, rfl, ⟨B1, f1⟩, f2, ⟨B3, f3⟩, B4, f4⟩ := h.form
  obtain ⟨l1, l2, l5, l3, l4⟩ := hf
  have C1 := hide (fun W (hb : Below w.heap.size w W) => l10Sp_any _ LW 0 B1 W (f1.below hb) l1)
  have C2 := hide (fun W (hb : Below w.heap.size w W) => l10Sp_any _ LA (-1000) B4 W (f4.below hb) l4)
  have C3 := hide (fun W (hb : Below w.heap.size w W) => Frl.rulesRight_any _ n Q W (f2.below hb) l2 l5)
  have HNo := hide (fun h => ff_no (wd := wd) (LW := LW) (n := n) (Q := Q) (LK := LK) (LA := LA) h)
  have HYes := hide (fun h0 h1 h2 h3 h4 => ff_yes (wd := wd) (LW := LW) (n := n) (Q := Q) (LK := LK) (LA := LA) h0 h1 h2 h3 h4)
  obtain ⟨ka, kc, ek, hkg⟩ := f3.form
  injection ek with ek1 ek2 ek3
  subst ek1 ek3
  have HK := hide f3
  have HKG := hide hkg
  generalize ff wd LW n Q LK LA = Z at *
  have BB := hide ((Below.refl w.heap.size w).alloc (Nat.le_refl _) (.cells #[.int .i64 wd, .slice a1 LW.length c1, .slice a2 n c2, .slice a3 LK.length c3, .slice a4 LA.length c4] 36))
  have hq := Frl.heap_new w (.cells #[.int .i64 wd, .slice a1 LW.length c1, .slice a2 n c2, .slice a3 LK.length c3, .slice a4 LA.length c4] 36)
  have hqs : w.heap.size < (w.alloc (.cells #[.int .i64 wd, .slice a1 LW.length c1, .slice a2 n c2, .slice a3 LK.length c3, .slice a4 LA.length c4] 36)).heap.size := by simp
  clear h f1 f2 f3 f4 l1 l2 l4 l5 ek2 hkg
  by_cases t0 : wd < 0
  · have HZ := hide ((unhide HNo) (.inl (by rw [decide_eq_false (by omega), Bool.false_and])))
    clear HNo HYes
    go_enter Tryz.func16, Tryz.ntmps16
    go_wp2
    go_ret
    exact ⟨by rw [unhide HZ]; rfl, unhide BB⟩
  by_cases t1 : 1000 < wd
  · have HZ := hide ((unhide HNo) (.inl (by rw [decide_eq_false (by omega : ¬ wd ≤ 1000), Bool.and_false])))
    clear HNo HYes
    go_enter Tryz.func16, Tryz.ntmps16
    go_wp2
    go_ret
    exact ⟨by rw [unhide HZ]; rfl, unhide BB⟩
  have y0 : (decide (0 ≤ wd) && decide (wd ≤ 1000)) = true := by rw [decide_eq_true (by omega), decide_eq_true (by omega)]; rfl
  cases y1 : msr 0 LW
  · rw [y1] at C1
    have HZ := hide ((unhide HNo) (.inr (.inl y1)))
    clear HNo HYes y0 y1
    go_enter Tryz.func16, Tryz.ntmps16
    go_wp2_with fail
    generalize w.alloc (.cells #[.int .i64 wd, .slice a1 LW.length c1, .slice a2 n c2, .slice a3 LK.length c3, .slice a4 LA.length c4] 36) = wa at *
    refine ((unhide C1) _ (unhide BB)).mono ?_
    rintro e wb1 ⟨rfl, hb⟩
    have BB1 := hide ((unhide BB).trans (hb.mono (unhide BB).size))
    have hq1 := (hb.block w.heap.size hqs).trans hq
    have hqs1 := Nat.lt_of_lt_of_le hqs hb.size
    obtain ⟨⟨x0, x1, x2, x3, x4⟩, _⟩ := five_cellsF hq1
    clear hb
    go_wp2
    go_ret
    exact ⟨by rw [unhide HZ]; rfl, unhide BB1⟩
  · rw [y1] at C1
    cases y2 : msr (-1000) LA
    · rw [y2] at C2
      have HZ := hide ((unhide HNo) (.inr (.inr (.inl y2))))
      clear HNo HYes y0 y1 y2
      go_enter Tryz.func16, Tryz.ntmps16
      go_wp2_with fail
      generalize w.alloc (.cells #[.int .i64 wd, .slice a1 LW.length c1, .slice a2 n c2, .slice a3 LK.length c3, .slice a4 LA.length c4] 36) = wa at *
      refine ((unhide C1) _ (unhide BB)).mono ?_
      rintro e wb1 ⟨rfl, hb⟩
      have BB1 := hide ((unhide BB).trans (hb.mono (unhide BB).size))
      have hq1 := (hb.block w.heap.size hqs).trans hq
      have hqs1 := Nat.lt_of_lt_of_le hqs hb.size
      obtain ⟨⟨x0, x1, x2, x3, x4⟩, _⟩ := five_cellsF hq1
      clear hb
      go_wp2_with fail
      refine ((unhide C2) _ (unhide BB1)).mono ?_
      rintro e wb2 ⟨rfl, hb⟩
      clear x0 x1 x2 x3 x4
      have BB2 := hide ((unhide BB1).trans (hb.mono (unhide BB1).size))
      have hq2 := (hb.block w.heap.size hqs1).trans hq1
      have hqs2 := Nat.lt_of_lt_of_le hqs1 hb.size
      obtain ⟨⟨x0, x1, x2, x3, x4⟩, _⟩ := five_cellsF hq2
      clear hb
      go_wp2
      go_ret
      exact ⟨by rw [unhide HZ]; rfl, unhide BB2⟩
    · rw [y2] at C2
      cases y3 : Frl.okR n Q
      · rw [y3] at C3
        have HZ := hide ((unhide HNo) (.inr (.inr (.inr (.inl y3)))))
        clear HNo HYes y0 y1 y2 y3
        go_enter Tryz.func16, Tryz.ntmps16
        go_wp2_with fail
        generalize w.alloc (.cells #[.int .i64 wd, .slice a1 LW.length c1, .slice a2 n c2, .slice a3 LK.length c3, .slice a4 LA.length c4] 36) = wa at *
        refine ((unhide C1) _ (unhide BB)).mono ?_
        rintro e wb1 ⟨rfl, hb⟩
        have BB1 := hide ((unhide BB).trans (hb.mono (unhide BB).size))
        have hq1 := (hb.block w.heap.size hqs).trans hq
        have hqs1 := Nat.lt_of_lt_of_le hqs hb.size
        obtain ⟨⟨x0, x1, x2, x3, x4⟩, _⟩ := five_cellsF hq1
        clear hb
        go_wp2_with fail
        refine ((unhide C2) _ (unhide BB1)).mono ?_
        rintro e wb2 ⟨rfl, hb⟩
        clear x0 x1 x2 x3 x4
        have BB2 := hide ((unhide BB1).trans (hb.mono (unhide BB1).size))
        have hq2 := (hb.block w.heap.size hqs1).trans hq1
        have hqs2 := Nat.lt_of_lt_of_le hqs1 hb.size
        obtain ⟨⟨x0, x1, x2, x3, x4⟩, _⟩ := five_cellsF hq2
        clear hb
        go_wp2_with fail
        refine ((unhide C3) _ (unhide BB2)).mono ?_
        rintro e wb3 ⟨rfl, hb⟩
        clear x0 x1 x2 x3 x4
        have BB3 := hide ((unhide BB2).trans (hb.mono (unhide BB2).size))
        have hq3 := (hb.block w.heap.size hqs2).trans hq2
        have hqs3 := Nat.lt_of_lt_of_le hqs2 hb.size
        obtain ⟨⟨x0, x1, x2, x3, x4⟩, _⟩ := five_cellsF hq3
        clear hb
        go_wp2
        go_ret
        exact ⟨by rw [unhide HZ]; rfl, unhide BB3⟩
      · rw [y3] at C3
        by_cases t5 : 200 < LK.length
        · have t5' : (200 : Int) < (LK.length : Int) := by omega
          have HZ := hide ((unhide HNo) (.inr (.inr (.inr (.inr (krn_long t5))))))
          clear HNo HYes y0 y1 y2 y3
          go_enter Tryz.func16, Tryz.ntmps16
          go_wp2_with fail
          generalize w.alloc (.cells #[.int .i64 wd, .slice a1 LW.length c1, .slice a2 n c2, .slice a3 LK.length c3, .slice a4 LA.length c4] 36) = wa at *
          refine ((unhide C1) _ (unhide BB)).mono ?_
          rintro e wb1 ⟨rfl, hb⟩
          have BB1 := hide ((unhide BB).trans (hb.mono (unhide BB).size))
          have hq1 := (hb.block w.heap.size hqs).trans hq
          have hqs1 := Nat.lt_of_lt_of_le hqs hb.size
          obtain ⟨⟨x0, x1, x2, x3, x4⟩, _⟩ := five_cellsF hq1
          clear hb
          go_wp2_with fail
          refine ((unhide C2) _ (unhide BB1)).mono ?_
          rintro e wb2 ⟨rfl, hb⟩
          clear x0 x1 x2 x3 x4
          have BB2 := hide ((unhide BB1).trans (hb.mono (unhide BB1).size))
          have hq2 := (hb.block w.heap.size hqs1).trans hq1
          have hqs2 := Nat.lt_of_lt_of_le hqs1 hb.size
          obtain ⟨⟨x0, x1, x2, x3, x4⟩, _⟩ := five_cellsF hq2
          clear hb
          go_wp2_with fail
          refine ((unhide C3) _ (unhide BB2)).mono ?_
          rintro e wb3 ⟨rfl, hb⟩
          clear x0 x1 x2 x3 x4
          have BB3 := hide ((unhide BB2).trans (hb.mono (unhide BB2).size))
          have hq3 := (hb.block w.heap.size hqs2).trans hq2
          have hqs3 := Nat.lt_of_lt_of_le hqs2 hb.size
          obtain ⟨⟨x0, x1, x2, x3, x4⟩, _⟩ := five_cellsF hq3
          clear hb
          go_wp2
          go_ret
          exact ⟨by rw [unhide HZ]; rfl, unhide BB3⟩
        · have t5' : ¬ (200 : Int) < (LK.length : Int) := by omega
          have HBad := hide (fun k hk hb => krn_bad (L := LK) (k := k) hk hb)
          have HOk := hide (fun hb => krn_ok (L := LK) (by omega) hb)
          have HYes2 := hide (fun h => (unhide HYes) y0 y1 y2 y3 h)
          clear HYes y0 y1 y2 y3
          go_enter Tryz.func16, Tryz.ntmps16
          go_wp2_with fail
          generalize w.alloc (.cells #[.int .i64 wd, .slice a1 LW.length c1, .slice a2 n c2, .slice a3 LK.length c3, .slice a4 LA.length c4] 36) = wa at *
          refine ((unhide C1) _ (unhide BB)).mono ?_
          rintro e wb1 ⟨rfl, hb⟩
          have BB1 := hide ((unhide BB).trans (hb.mono (unhide BB).size))
          have hq1 := (hb.block w.heap.size hqs).trans hq
          have hqs1 := Nat.lt_of_lt_of_le hqs hb.size
          obtain ⟨⟨x0, x1, x2, x3, x4⟩, _⟩ := five_cellsF hq1
          clear hb
          go_wp2_with fail
          refine ((unhide C2) _ (unhide BB1)).mono ?_
          rintro e wb2 ⟨rfl, hb⟩
          clear x0 x1 x2 x3 x4
          have BB2 := hide ((unhide BB1).trans (hb.mono (unhide BB1).size))
          have hq2 := (hb.block w.heap.size hqs1).trans hq1
          have hqs2 := Nat.lt_of_lt_of_le hqs1 hb.size
          obtain ⟨⟨x0, x1, x2, x3, x4⟩, _⟩ := five_cellsF hq2
          clear hb
          go_wp2_with fail
          refine ((unhide C3) _ (unhide BB2)).mono ?_
          rintro e wb3 ⟨rfl, hb⟩
          clear x0 x1 x2 x3 x4
          have BB3 := hide ((unhide BB2).trans (hb.mono (unhide BB2).size))
          have hq3 := (hb.block w.heap.size hqs2).trans hq2
          have hqs3 := Nat.lt_of_lt_of_le hqs2 hb.size
          obtain ⟨⟨x0, x1, x2, x3, x4⟩, _⟩ := five_cellsF hq3
          clear hb

          go_wp2
          go_loopw [3] (fun i wr => ∃ k : Nat, k ≤ LK.length ∧ i = .int .i64 k ∧ Hid (krk LK k = true) ∧ Hid (Below wb3.heap.size wb3 wr)) (fun i _ => LK.length - (intOf i).toNat)
          case atStart => exact ⟨0, Nat.zero_le _, rfl, hide rfl, hide (Below.refl _ _)⟩
          case round =>
            obtain ⟨k, hk, rfl, HKK, HB⟩ := hrel
            clear x0 x1 x2 x3 x4
            have hqr := ((unhide HB).block w.heap.size hqs3).trans hq3
            obtain ⟨⟨x0, x1, x2, x3, x4⟩, _⟩ := five_cellsF hqr
            by_cases hlt : k < LK.length
            · have hlt' : (k : Int) < (LK.length : Int) := by omega
              obtain ⟨g, rfl, _, hgs⟩ := (unhide HKG) (by omega)
              obtain ⟨z0, z1, z2⟩ := ((unhide HK).below ((unhide BB3).trans ((unhide HB).mono (unhide BB3).size))).read k hlt
              have HB2 := hide (fun hb => (unhide HBad) k hlt hb)
              have hKK : Hid ((decide (-1000 ≤ (gx LK k).2.2) && decide ((gx LK k).2.2 ≤ 1000) && (decide (k = 0) || klt (gx LK (k - 1)) (gx LK k))) = true → krk LK (k + 1) = true) := hide (fun e => by
                unfold krk
                rw [unhide HKK, e]; rfl)
              have B5 := hide ((unhide HB).alloc (unhide HB).size (.cells #[.int .i64 (gx LK k).1, .int .i64 (gx LK k).2.1, .int .i64 (gx LK k).2.2] 75))
              have HP : Hid (∀ m, k = m + 1 → (wr.cell? ⟨g, m * 3, none⟩ = some (.int .i64 (gx LK m).1) ∧ wr.cell? ⟨g, m * 3 + 1, none⟩ = some (.int .i64 (gx LK m).2.1) ∧ wr.cell? ⟨g, m * 3 + 2, none⟩ = some (.int .i64 (gx LK m).2.2))) := hide (fun m hm => ((unhide HK).below ((unhide BB3).trans ((unhide HB).mono (unhide BB3).size))).read m (by omega))
              have hwx : wb3.heap.size ≤ wr.heap.size := (unhide HB).size
              by_cases s1 : (gx LK k).2.2 < -1000
              · have HZ := hide ((unhide HNo) (.inr (.inr (.inr (.inr ((unhide HB2) (by rw [decide_eq_false (by omega), Bool.false_and, Bool.false_and])))))))
                clear HB2 hKK HP
                generalize gx LK k = r at *
                go_wp2
                go_ret
                exact ⟨by rw [unhide HZ]; rfl, (unhide BB3).trans ((unhide B5).mono (unhide BB3).size)⟩
              by_cases s2 : 1000 < (gx LK k).2.2
              · have HZ := hide ((unhide HNo) (.inr (.inr (.inr (.inr ((unhide HB2) (by rw [decide_eq_false (by omega : ¬ (gx LK k).2.2 ≤ 1000), Bool.and_false, Bool.false_and])))))))
                clear HB2 hKK HP
                generalize gx LK k = r at *
                go_wp2
                go_ret
                exact ⟨by rw [unhide HZ]; rfl, (unhide BB3).trans ((unhide B5).mono (unhide BB3).size)⟩
              have so : (decide (-1000 ≤ (gx LK k).2.2) && decide ((gx LK k).2.2 ≤ 1000)) = true := by rw [decide_eq_true (by omega), decide_eq_true (by omega)]; rfl
              cases k with
              | zero =>
                have HK2 := hide ((unhide hKK) (by rw [so]; rfl))
                clear HB2 hKK HP so
                rw [show ((0 : Nat) : Int) = 0 from rfl] at *
                generalize gx LK 0 = r at *
                go_wp2
                go_roundw
                case rel => exact ⟨0 + 1, by omega, by go_num, HK2, B5⟩
                case measure => simp [intOf]; omega
              | succ m =>
                obtain ⟨p0, p1, p2⟩ := (unhide HP) m rfl
                have hcast : ((m + 1 : Nat) : Int) = (m : Int) + 1 := by omega
                have hm2 : (m : Int) + 1 - 1 = (m : Int) := by omega
                have pa : (0 : Int) < (m : Int) + 1 := by omega
                have pn : (0 : Int) ≤ (m : Int) := by omega
                have pb : (m : Int) < (LK.length : Int) := by omega
                have ra : IntKind.i64.wrap (m : Int) = (m : Int) := wrap_in _ (by omega) (by omega)
                have hem : m + 1 - 1 = m := by omega
                rw [hem] at HB2 hKK
                have hd0 : decide (m + 1 = 0) = false := decide_eq_false (by omega)
                rw [so, hd0] at HB2 hKK
                rw [hcast] at hlt' ⊢
                have B6 := hide ((unhide B5).alloc (by simp; omega) (.cells #[.int .i64 (gx LK m).1, .int .i64 (gx LK m).2.1, .int .i64 (gx LK m).2.2] 75))
                have HN2 := hide (fun hb => (unhide HNo) (.inr (.inr (.inr (.inr ((unhide HB2) (by rw [klt_no hb]; rfl)))))))
                have HY2 := hide (fun hb1 hb2 => (unhide hKK) (by rw [klt_yes hb1 hb2]; rfl))
                clear HB2 hKK HP so hem hd0 hcast
                generalize gx LK (m + 1) = r at *
                generalize gx LK m = a at *
                have xa3 := cell_alloc x3 (.cells #[.int .i64 r.1, .int .i64 r.2.1, .int .i64 r.2.2] 75)
                have pa0 := cell_alloc p0 (.cells #[.int .i64 r.1, .int .i64 r.2.1, .int .i64 r.2.2] 75)
                have pa1 := cell_alloc p1 (.cells #[.int .i64 r.1, .int .i64 r.2.1, .int .i64 r.2.2] 75)
                have pa2 := cell_alloc p2 (.cells #[.int .i64 r.1, .int .i64 r.2.1, .int .i64 r.2.2] 75)
                by_cases u1 : r.1 < a.1
                · have HZ := hide ((unhide HN2) (.inl u1))
                  go_wp2
                  go_ret
                  exact ⟨by rw [unhide HZ]; rfl, (unhide BB3).trans ((unhide B6).mono (unhide BB3).size)⟩
                by_cases u2 : a.1 = r.1
                · have u2' : (a.1 == r.1) = true := by simp [u2]
                  by_cases u3 : r.2.1 ≤ a.2.1
                  · have HZ := hide ((unhide HN2) (.inr ⟨u2, u3⟩))
                    clear u2
                    go_wp2
                    go_ret
                    exact ⟨by rw [unhide HZ]; rfl, (unhide BB3).trans ((unhide B6).mono (unhide BB3).size)⟩
                  · have HK2 := hide ((unhide HY2) u1 (fun e => u3 e.2))
                    clear u2
                    go_wp2
                    go_roundw
                    case rel => exact ⟨m + 1 + 1, by omega, by go_num, HK2, B6⟩
                    case measure => simp [intOf]; omega
                · have u2' : (a.1 == r.1) = false := by simp [u2]
                  have HK2 := hide ((unhide HY2) u1 (fun e => u2 e.1))
                  clear u2
                  go_wp2
                  go_roundw
                  case rel => exact ⟨m + 1 + 1, by omega, by go_num, HK2, B6⟩
                  case measure => simp [intOf]; omega
            · obtain rfl : k = LK.length := by omega
              have HZ := hide ((unhide HYes2) ((unhide HOk) (unhide HKK)))
              go_wp2
              go_ret
              exact ⟨by rw [unhide HZ]; rfl, (unhide BB3).trans ((unhide HB).mono (unhide BB3).size)⟩
end Go.Proofs.YtfldomifooihlaaGreatDoor.Fnt
