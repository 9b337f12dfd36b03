/- A copy of a font. -/
import Derived.Test.YtccnjjkechdknaaFntB
import Derived.Test.YtccnjjkechdknaaFrlD
import Derived.Test.YtccnjjkechdknaaFrlC
namespace Go.Proofs.Ytccnjjkechdknaa.Fnt
open Go.RowKit
set_option linter.unusedVariables false
theorem five_cellsF {w : World} {g : Nat} {a b c d e : Value} {T : TypeId} (h : w.heap[g]? = some (.cells #[a, b, c, d, e] T (0, 0))) : (w.cell? ⟨g, 0, none⟩ = some a ∧ w.cell? ⟨g, 1, none⟩ = some b ∧ w.cell? ⟨g, 2, none⟩ = some c ∧ w.cell? ⟨g, 3, none⟩ = some d ∧ w.cell? ⟨g, 4, none⟩ = some e) ∧ ∀ i, w.frozen? ⟨g, i, none⟩ = false := by
  simp [World.cell?, World.frozen?, h]
/-- Rows that lie above the block b stay where b alone changes. -/
theorem sp_put {w : World} {B g j : Nat} {v x : Value} {L : List Sp} (h : SpRow w B v L) (hg : g < B) : SpRow (w.setCell ⟨g, j, none⟩ x) B v L := Frl.own_at h (fun k hk => heap_setCell_other w ⟨g, j, none⟩ k x (by have := (World.ownsRow.lt h k hk).1; show k ≠ g; omega))
theorem kr_put {w : World} {B g j : Nat} {v x : Value} {L : List Sp} (h : Krn.SpRow w B v L) (hg : g < B) : Krn.SpRow (w.setCell ⟨g, j, none⟩ x) B v L := Frl.own_at h (fun k hk => heap_setCell_other w ⟨g, j, none⟩ k x (by have := (World.ownsRow.lt h k hk).1; show k ≠ g; omega))
theorem ru_put {w : World} {g j b m : Nat} {x : Value} {Q : List (List Int)} {blk : Nat → Nat} (h : Frl.RuC w b Q blk m) (hg : g < b) : Frl.RuC (w.setCell ⟨g, j, none⟩ x) b Q blk m :=
  ⟨fun k hk => (World.cell?_of_block (a := ⟨b, k, none⟩) (heap_setCell_other w ⟨g, j, none⟩ b x (by show b ≠ g; omega))).trans (h.cell k hk), fun k hk => (h.row k hk).put (by have := (h.row k hk).lt; omega), h.mono, by simp; exact h.here⟩
theorem sp_down {w : World} {B B2 : Nat} {v : Value} {L : List Sp} (h : SpRow w B2 v L) (hb : B ≤ B2) : SpRow w B v L := by
  refine ⟨h.1, ?_⟩
  rcases h.2 with h' | ⟨g, cap, cur, hv, hg, r⟩
  · exact .inl h'
  · exact .inr ⟨g, cap, cur, hv, by omega, r⟩
theorem kr_down {w : World} {B B2 : Nat} {v : Value} {L : List Sp} (h : Krn.SpRow w B2 v L) (hb : B ≤ B2) : Krn.SpRow w B v L := by
  refine ⟨h.1, ?_⟩
  rcases h.2 with h' | ⟨g, cap, cur, hv, hg, r⟩
  · exact .inl h'
  · exact .inr ⟨g, cap, cur, hv, by omega, r⟩
/-- A font that can be read: its width, spans, rules, kerns and anchors. -/
structure FA (w : World) (v : Value) (wd : Int) (LW : List Sp) (n : Nat) (Q : List (List Int)) (LK LA : List Sp) : Prop where
  form : ∃ a1 a2 a3 a4 c1 c2 c3 c4, v = .agg #[.int .i64 wd, .slice a1 LW.length c1, .slice a2 n c2, .slice a3 LK.length c3, .slice a4 LA.length c4] ∧ (∃ B, SpRow w B (.slice a1 LW.length c1) LW) ∧ Frl.RuI w (.slice a2 n c2) n Q ∧ (∃ B, Krn.SpRow w B (.slice a3 LK.length c3) LK) ∧ ∃ B, SpRow w B (.slice a4 LA.length c4) LA
theorem FA.below {w w' : World} {v : Value} {wd : Int} {LW : List Sp} {n : Nat} {Q : List (List Int)} {LK LA : List Sp} (h : FA w v wd LW n Q LK LA) (hb : Below w.heap.size w w') : FA w' v wd LW n Q LK LA := by
  obtain ⟨a1, a2, a3, a4, c1, c2, c3, c4, e, ⟨B1, h1⟩, h2, ⟨B3, h3⟩, B4, h4⟩ := h.form
  exact ⟨a1, a2, a3, a4, c1, c2, c3, c4, e, ⟨B1, h1.below hb⟩, h2.below hb, ⟨B3, h3.below hb⟩, B4, h4.below hb⟩
set_option maxRecDepth 100000 in
set_option maxHeartbeats 8000000 in
theorem toFont_any (wd : Int) (u1 u2 u3 u4 : Value) (LW : List Sp) (n : Nat) (Q : List (List Int)) (LK LA : List Sp) (w : World) (h1 : SpsAt w u1 LW) (h2 : Frl.RuI w u2 n Q) (h3 : Krn.SpsAt w u3 LK) (h4 : SpsAt w u4 LA) (l1 : LW.length ≤ 1048576) (l2 : n ≤ 1048576) (l5 : Frl.AllB Q 1048576) (l3 : LK.length ≤ 1048576) (l4 : LA.length ≤ 1048576) :
    Calls Try.prog 7 #[.agg #[.int .i64 wd, u1, u2, u3, u4]] w fun e w' => ∃ v, e = .returned v ∧ FA w' v wd LW n Q LK LA ∧ Below w.heap.size w w' := by
  have C1 := hide (fun W h => toSpans u1 LW W h l1)
  have C2 := hide (fun W h => Frl.toRules_any u2 n Q W h l2 l5)
  have C3 := hide (fun W h => Krn.toSpans u3 LK W h l3)
  have C4 := hide (fun W h => toSpans u4 LA W h l4)
  have H1 := hide h1
  have H2 := hide h2
  have H3 := hide h3
  have H4 := hide h4
  have HQ := hide h2.1
  clear h1 h2 h3 h4 l1 l2 l3 l4 l5
  go_enter Try.func7, Try.ntmps7
  go_wp2_with fail
  have hb3 : Below w.heap.size w (((w.alloc (.cells #[.int .i64 wd, u1, u2, u3, u4] 26)).alloc (.cells #[.int .i64 0, .slice none 0 0, .slice none 0 0, .slice none 0 0, .slice none 0 0] 33)).alloc (.cells #[.int .i64 wd, .slice none 0 0, .slice none 0 0, .slice none 0 0, .slice none 0 0] 33)) := ((((Below.refl _ _).alloc (Nat.le_refl _) _).alloc (by simp) _).alloc (by simp; omega) _)
  have hz3 : w.heap.size + 3 ≤ (((w.alloc (.cells #[.int .i64 wd, u1, u2, u3, u4] 26)).alloc (.cells #[.int .i64 0, .slice none 0 0, .slice none 0 0, .slice none 0 0, .slice none 0 0] 33)).alloc (.cells #[.int .i64 wd, .slice none 0 0, .slice none 0 0, .slice none 0 0, .slice none 0 0] 33)).heap.size := by simp
  have k0 : (((w.alloc (.cells #[.int .i64 wd, u1, u2, u3, u4] 26)).alloc (.cells #[.int .i64 0, .slice none 0 0, .slice none 0 0, .slice none 0 0, .slice none 0 0] 33)).alloc (.cells #[.int .i64 wd, .slice none 0 0, .slice none 0 0, .slice none 0 0, .slice none 0 0] 33)).heap[w.heap.size]? = some (.cells #[.int .i64 wd, u1, u2, u3, u4] 26 (0, 0)) := by
    rw [Below.heap_alloc _ _ _ (by simp; omega), Below.heap_alloc _ _ _ (by simp)]
    exact Frl.heap_new w _
  have k1 : (((w.alloc (.cells #[.int .i64 wd, u1, u2, u3, u4] 26)).alloc (.cells #[.int .i64 0, .slice none 0 0, .slice none 0 0, .slice none 0 0, .slice none 0 0] 33)).alloc (.cells #[.int .i64 wd, .slice none 0 0, .slice none 0 0, .slice none 0 0, .slice none 0 0] 33)).heap[w.heap.size + 1]? = some (.cells #[.int .i64 0, .slice none 0 0, .slice none 0 0, .slice none 0 0, .slice none 0 0] 33 (0, 0)) := by
    rw [Below.heap_alloc _ _ _ (by simp)]
    have := Frl.heap_new (w.alloc (.cells #[.int .i64 wd, u1, u2, u3, u4] 26)) (.cells #[.int .i64 0, .slice none 0 0, .slice none 0 0, .slice none 0 0, .slice none 0 0] 33)
    simpa using this
  have k2 : (((w.alloc (.cells #[.int .i64 wd, u1, u2, u3, u4] 26)).alloc (.cells #[.int .i64 0, .slice none 0 0, .slice none 0 0, .slice none 0 0, .slice none 0 0] 33)).alloc (.cells #[.int .i64 wd, .slice none 0 0, .slice none 0 0, .slice none 0 0, .slice none 0 0] 33)).heap[w.heap.size + 1 + 1]? = some (.cells #[.int .i64 wd, .slice none 0 0, .slice none 0 0, .slice none 0 0, .slice none 0 0] 33 (0, 0)) := by
    have := Frl.heap_new ((w.alloc (.cells #[.int .i64 wd, u1, u2, u3, u4] 26)).alloc (.cells #[.int .i64 0, .slice none 0 0, .slice none 0 0, .slice none 0 0, .slice none 0 0] 33)) (.cells #[.int .i64 wd, .slice none 0 0, .slice none 0 0, .slice none 0 0, .slice none 0 0] 33)
    simpa using this
  have B3 := hide hb3
  generalize (((w.alloc (.cells #[.int .i64 wd, u1, u2, u3, u4] 26)).alloc (.cells #[.int .i64 0, .slice none 0 0, .slice none 0 0, .slice none 0 0, .slice none 0 0] 33)).alloc (.cells #[.int .i64 wd, .slice none 0 0, .slice none 0 0, .slice none 0 0, .slice none 0 0] 33)) = wa at *
  clear hb3
  refine ((unhide C1) _ ((unhide H1).below (unhide B3))).mono ?_
  rintro e wb1 ⟨rfl, ho1, hb⟩
  have k0' := (hb.block w.heap.size (by omega)).trans k0
  have k1' := (hb.block (w.heap.size + 1) (by omega)).trans k1
  have k2' := (hb.block (w.heap.size + 1 + 1) (by omega)).trans k2
  obtain ⟨q1, hq1⟩ : ∃ q, q = wa.heap.size := ⟨_, rfl⟩
  rw [← hq1] at ho1 ⊢
  have hp1 : wa.heap.size ≤ q1 := by omega
  have R1' := hide (sp_down (B := w.heap.size + 3) ho1 (by omega))
  clear hq1
  have B3' := hide ((unhide B3).trans (hb.mono (unhide B3).size))
  have hs1 : wa.heap.size ≤ wb1.heap.size := hb.size
  obtain ⟨⟨a0, a1, a2, a3, a4⟩, _⟩ := five_cellsF k0'
  obtain ⟨⟨b0, b1, b2, b3, b4⟩, b6⟩ := five_cellsF k2'
  have b5 := b6 1
  clear b6
  have m0 := (heap_setCell_other wb1 ⟨w.heap.size + 1 + 1, 1, none⟩ w.heap.size (.slice (some ⟨q1, 0, none⟩) LW.length LW.length) (by show w.heap.size ≠ w.heap.size + 1 + 1; omega)).trans k0'
  have m1 := (heap_setCell_other wb1 ⟨w.heap.size + 1 + 1, 1, none⟩ (w.heap.size + 1) (.slice (some ⟨q1, 0, none⟩) LW.length LW.length) (by simp)).trans k1'
  have m2 := heap_setCell_same wb1 (w.heap.size + 1 + 1) 1 _ 33 (.slice (some ⟨q1, 0, none⟩) LW.length LW.length) k2'
  have R1 := hide (sp_put (g := w.heap.size + 1 + 1) (j := 1) (x := (.slice (some ⟨q1, 0, none⟩) LW.length LW.length)) (unhide R1') (by omega))
  have B4 := hide ((unhide B3').setCell (p := ⟨w.heap.size + 1 + 1, 1, none⟩) (by show w.heap.size ≤ w.heap.size + 1 + 1; omega) (.slice (some ⟨q1, 0, none⟩) LW.length LW.length))
  have hz51 : wb1.heap.size ≤ (wb1.setCell ⟨w.heap.size + 1 + 1, 1, none⟩ (.slice (some ⟨q1, 0, none⟩) LW.length LW.length)).heap.size := by simp
  obtain ⟨⟨d0, d1, d2, d3, d4⟩, _⟩ := five_cellsF m0
  clear R1'
  clear k0 k1 k2 k0' k1' k2' hb B3 B3' ho1 C1 H1
  go_wp2_with fail
  have k0 := m0
  have k1 := m1
  have k2 := m2
  have B3 := B4
  generalize wb1.setCell ⟨w.heap.size + 1 + 1, 1, none⟩ (.slice (some ⟨q1, 0, none⟩) LW.length LW.length) = wc1 at *
  clear m0 m1 m2 B4 a0 a1 a2 a3 a4 b0 b1 b2 b3 b4 b5 d0 d1 d2 d3 d4
  refine ((unhide C2) _ ((unhide H2).below (unhide B3))).mono ?_
  rintro e wb2 ⟨rfl, ⟨blk, ho2⟩, hb⟩
  have k0' := (hb.block w.heap.size (by omega)).trans k0
  have k1' := (hb.block (w.heap.size + 1) (by omega)).trans k1
  have k2' := (hb.block (w.heap.size + 1 + 1) (by omega)).trans k2
  have R1' := hide ((unhide R1).below hb)
  clear R1
  obtain ⟨q2, hq2⟩ : ∃ q, q = wc1.heap.size := ⟨_, rfl⟩
  rw [← hq2] at ho2 ⊢
  have hp2 : wc1.heap.size ≤ q2 := by omega
  have R2' := hide ho2
  clear hq2
  have B3' := hide ((unhide B3).trans (hb.mono (unhide B3).size))
  have hs2 : wc1.heap.size ≤ wb2.heap.size := hb.size
  obtain ⟨⟨a0, a1, a2, a3, a4⟩, _⟩ := five_cellsF k0'
  obtain ⟨⟨b0, b1, b2, b3, b4⟩, b6⟩ := five_cellsF k2'
  have b5 := b6 2
  clear b6
  have m0 := (heap_setCell_other wb2 ⟨w.heap.size + 1 + 1, 2, none⟩ w.heap.size (.slice (some ⟨q2, 0, none⟩) n n) (by show w.heap.size ≠ w.heap.size + 1 + 1; omega)).trans k0'
  have m1 := (heap_setCell_other wb2 ⟨w.heap.size + 1 + 1, 2, none⟩ (w.heap.size + 1) (.slice (some ⟨q2, 0, none⟩) n n) (by simp)).trans k1'
  have m2 := heap_setCell_same wb2 (w.heap.size + 1 + 1) 2 _ 33 (.slice (some ⟨q2, 0, none⟩) n n) k2'
  have R1 := hide (sp_put (g := w.heap.size + 1 + 1) (j := 2) (x := (.slice (some ⟨q2, 0, none⟩) n n)) (unhide R1') (by omega))
  have R2 := hide (ru_put (g := w.heap.size + 1 + 1) (j := 2) (x := (.slice (some ⟨q2, 0, none⟩) n n)) (unhide R2') (by omega))
  have B4 := hide ((unhide B3').setCell (p := ⟨w.heap.size + 1 + 1, 2, none⟩) (by show w.heap.size ≤ w.heap.size + 1 + 1; omega) (.slice (some ⟨q2, 0, none⟩) n n))
  have hz52 : wb2.heap.size ≤ (wb2.setCell ⟨w.heap.size + 1 + 1, 2, none⟩ (.slice (some ⟨q2, 0, none⟩) n n)).heap.size := by simp
  obtain ⟨⟨d0, d1, d2, d3, d4⟩, _⟩ := five_cellsF m0
  clear R1'
  clear R2'
  clear k0 k1 k2 k0' k1' k2' hb B3 B3' ho2 C2 H2
  go_wp2_with fail
  have k0 := m0
  have k1 := m1
  have k2 := m2
  have B3 := B4
  generalize wb2.setCell ⟨w.heap.size + 1 + 1, 2, none⟩ (.slice (some ⟨q2, 0, none⟩) n n) = wc2 at *
  clear m0 m1 m2 B4 a0 a1 a2 a3 a4 b0 b1 b2 b3 b4 b5 d0 d1 d2 d3 d4
  refine ((unhide C3) _ ((unhide H3).below (unhide B3))).mono ?_
  rintro e wb3 ⟨rfl, ho3, hb⟩
  have k0' := (hb.block w.heap.size (by omega)).trans k0
  have k1' := (hb.block (w.heap.size + 1) (by omega)).trans k1
  have k2' := (hb.block (w.heap.size + 1 + 1) (by omega)).trans k2
  have R1' := hide ((unhide R1).below hb)
  clear R1
  have R2' := hide ((unhide R2).below hb)
  clear R2
  obtain ⟨q3, hq3⟩ : ∃ q, q = wc2.heap.size := ⟨_, rfl⟩
  rw [← hq3] at ho3 ⊢
  have hp3 : wc2.heap.size ≤ q3 := by omega
  have R3' := hide (kr_down (B := w.heap.size + 3) ho3 (by omega))
  clear hq3
  have B3' := hide ((unhide B3).trans (hb.mono (unhide B3).size))
  have hs3 : wc2.heap.size ≤ wb3.heap.size := hb.size
  obtain ⟨⟨a0, a1, a2, a3, a4⟩, _⟩ := five_cellsF k0'
  obtain ⟨⟨b0, b1, b2, b3, b4⟩, b6⟩ := five_cellsF k2'
  have b5 := b6 3
  clear b6
  have m0 := (heap_setCell_other wb3 ⟨w.heap.size + 1 + 1, 3, none⟩ w.heap.size (.slice (some ⟨q3, 0, none⟩) LK.length LK.length) (by show w.heap.size ≠ w.heap.size + 1 + 1; omega)).trans k0'
  have m1 := (heap_setCell_other wb3 ⟨w.heap.size + 1 + 1, 3, none⟩ (w.heap.size + 1) (.slice (some ⟨q3, 0, none⟩) LK.length LK.length) (by simp)).trans k1'
  have m2 := heap_setCell_same wb3 (w.heap.size + 1 + 1) 3 _ 33 (.slice (some ⟨q3, 0, none⟩) LK.length LK.length) k2'
  have R1 := hide (sp_put (g := w.heap.size + 1 + 1) (j := 3) (x := (.slice (some ⟨q3, 0, none⟩) LK.length LK.length)) (unhide R1') (by omega))
  have R2 := hide (ru_put (g := w.heap.size + 1 + 1) (j := 3) (x := (.slice (some ⟨q3, 0, none⟩) LK.length LK.length)) (unhide R2') (by omega))
  have R3 := hide (kr_put (g := w.heap.size + 1 + 1) (j := 3) (x := (.slice (some ⟨q3, 0, none⟩) LK.length LK.length)) (unhide R3') (by omega))
  have B4 := hide ((unhide B3').setCell (p := ⟨w.heap.size + 1 + 1, 3, none⟩) (by show w.heap.size ≤ w.heap.size + 1 + 1; omega) (.slice (some ⟨q3, 0, none⟩) LK.length LK.length))
  have hz53 : wb3.heap.size ≤ (wb3.setCell ⟨w.heap.size + 1 + 1, 3, none⟩ (.slice (some ⟨q3, 0, none⟩) LK.length LK.length)).heap.size := by simp
  obtain ⟨⟨d0, d1, d2, d3, d4⟩, _⟩ := five_cellsF m0
  clear R1'
  clear R2'
  clear R3'
  clear k0 k1 k2 k0' k1' k2' hb B3 B3' ho3 C3 H3
  go_wp2_with fail
  have k0 := m0
  have k1 := m1
  have k2 := m2
  have B3 := B4
  generalize wb3.setCell ⟨w.heap.size + 1 + 1, 3, none⟩ (.slice (some ⟨q3, 0, none⟩) LK.length LK.length) = wc3 at *
  clear m0 m1 m2 B4 a0 a1 a2 a3 a4 b0 b1 b2 b3 b4 b5 d0 d1 d2 d3 d4
  refine ((unhide C4) _ ((unhide H4).below (unhide B3))).mono ?_
  rintro e wb4 ⟨rfl, ho4, hb⟩
  have k0' := (hb.block w.heap.size (by omega)).trans k0
  have k1' := (hb.block (w.heap.size + 1) (by omega)).trans k1
  have k2' := (hb.block (w.heap.size + 1 + 1) (by omega)).trans k2
  have R1' := hide ((unhide R1).below hb)
  clear R1
  have R2' := hide ((unhide R2).below hb)
  clear R2
  have R3' := hide ((unhide R3).below hb)
  clear R3
  obtain ⟨q4, hq4⟩ : ∃ q, q = wc3.heap.size := ⟨_, rfl⟩
  rw [← hq4] at ho4 ⊢
  have hp4 : wc3.heap.size ≤ q4 := by omega
  have R4' := hide (sp_down (B := w.heap.size + 3) ho4 (by omega))
  clear hq4
  have B3' := hide ((unhide B3).trans (hb.mono (unhide B3).size))
  have hs4 : wc3.heap.size ≤ wb4.heap.size := hb.size
  obtain ⟨⟨a0, a1, a2, a3, a4⟩, _⟩ := five_cellsF k0'
  obtain ⟨⟨b0, b1, b2, b3, b4⟩, b6⟩ := five_cellsF k2'
  have b5 := b6 4
  clear b6
  have m0 := (heap_setCell_other wb4 ⟨w.heap.size + 1 + 1, 4, none⟩ w.heap.size (.slice (some ⟨q4, 0, none⟩) LA.length LA.length) (by show w.heap.size ≠ w.heap.size + 1 + 1; omega)).trans k0'
  have m1 := (heap_setCell_other wb4 ⟨w.heap.size + 1 + 1, 4, none⟩ (w.heap.size + 1) (.slice (some ⟨q4, 0, none⟩) LA.length LA.length) (by simp)).trans k1'
  have m2 := heap_setCell_same wb4 (w.heap.size + 1 + 1) 4 _ 33 (.slice (some ⟨q4, 0, none⟩) LA.length LA.length) k2'
  have R1 := hide (sp_put (g := w.heap.size + 1 + 1) (j := 4) (x := (.slice (some ⟨q4, 0, none⟩) LA.length LA.length)) (unhide R1') (by omega))
  have R2 := hide (ru_put (g := w.heap.size + 1 + 1) (j := 4) (x := (.slice (some ⟨q4, 0, none⟩) LA.length LA.length)) (unhide R2') (by omega))
  have R3 := hide (kr_put (g := w.heap.size + 1 + 1) (j := 4) (x := (.slice (some ⟨q4, 0, none⟩) LA.length LA.length)) (unhide R3') (by omega))
  have R4 := hide (sp_put (g := w.heap.size + 1 + 1) (j := 4) (x := (.slice (some ⟨q4, 0, none⟩) LA.length LA.length)) (unhide R4') (by omega))
  have B4 := hide ((unhide B3').setCell (p := ⟨w.heap.size + 1 + 1, 4, none⟩) (by show w.heap.size ≤ w.heap.size + 1 + 1; omega) (.slice (some ⟨q4, 0, none⟩) LA.length LA.length))
  have hz54 : wb4.heap.size ≤ (wb4.setCell ⟨w.heap.size + 1 + 1, 4, none⟩ (.slice (some ⟨q4, 0, none⟩) LA.length LA.length)).heap.size := by simp
  obtain ⟨⟨d0, d1, d2, d3, d4⟩, _⟩ := five_cellsF m2
  obtain ⟨_, f4⟩ := five_cellsF m1
  clear R1'
  clear R2'
  clear R3'
  clear R4'
  clear k0 k1 k2 k0' k1' k2' hb B3 B3' ho4 C4 H4
  have n0 := heap_setCell_same (wb4.setCell ⟨w.heap.size + 1 + 1, 4, none⟩ (.slice (some ⟨q4, 0, none⟩) LA.length LA.length)) (w.heap.size + 1) 0 _ 33 (.int .i64 wd) m1
  obtain ⟨⟨g00, g01, g02, g03, g04⟩, g05⟩ := five_cellsF n0
  have S01 := hide (sp_put (g := w.heap.size + 1) (j := 0) (x := (.int .i64 wd)) (unhide R1) (by omega))
  have S02 := hide (ru_put (g := w.heap.size + 1) (j := 0) (x := (.int .i64 wd)) (unhide R2) (by omega))
  have S03 := hide (kr_put (g := w.heap.size + 1) (j := 0) (x := (.int .i64 wd)) (unhide R3) (by omega))
  have S04 := hide (sp_put (g := w.heap.size + 1) (j := 0) (x := (.int .i64 wd)) (unhide R4) (by omega))
  have D0 := hide ((unhide B4).setCell (p := ⟨w.heap.size + 1, 0, none⟩) (by simp) (.int .i64 wd))
  have n1 := heap_setCell_same ((wb4.setCell ⟨w.heap.size + 1 + 1, 4, none⟩ (.slice (some ⟨q4, 0, none⟩) LA.length LA.length)).setCell ⟨w.heap.size + 1, 0, none⟩ (.int .i64 wd)) (w.heap.size + 1) 1 _ 33 (.slice (some ⟨q1, 0, none⟩) LW.length LW.length) n0
  obtain ⟨⟨g10, g11, g12, g13, g14⟩, g15⟩ := five_cellsF n1
  have S11 := hide (sp_put (g := w.heap.size + 1) (j := 1) (x := (.slice (some ⟨q1, 0, none⟩) LW.length LW.length)) (unhide S01) (by omega))
  have S12 := hide (ru_put (g := w.heap.size + 1) (j := 1) (x := (.slice (some ⟨q1, 0, none⟩) LW.length LW.length)) (unhide S02) (by omega))
  have S13 := hide (kr_put (g := w.heap.size + 1) (j := 1) (x := (.slice (some ⟨q1, 0, none⟩) LW.length LW.length)) (unhide S03) (by omega))
  have S14 := hide (sp_put (g := w.heap.size + 1) (j := 1) (x := (.slice (some ⟨q1, 0, none⟩) LW.length LW.length)) (unhide S04) (by omega))
  have D1 := hide ((unhide D0).setCell (p := ⟨w.heap.size + 1, 1, none⟩) (by simp) (.slice (some ⟨q1, 0, none⟩) LW.length LW.length))
  have n2 := heap_setCell_same (((wb4.setCell ⟨w.heap.size + 1 + 1, 4, none⟩ (.slice (some ⟨q4, 0, none⟩) LA.length LA.length)).setCell ⟨w.heap.size + 1, 0, none⟩ (.int .i64 wd)).setCell ⟨w.heap.size + 1, 1, none⟩ (.slice (some ⟨q1, 0, none⟩) LW.length LW.length)) (w.heap.size + 1) 2 _ 33 (.slice (some ⟨q2, 0, none⟩) n n) n1
  obtain ⟨⟨g20, g21, g22, g23, g24⟩, g25⟩ := five_cellsF n2
  have S21 := hide (sp_put (g := w.heap.size + 1) (j := 2) (x := (.slice (some ⟨q2, 0, none⟩) n n)) (unhide S11) (by omega))
  have S22 := hide (ru_put (g := w.heap.size + 1) (j := 2) (x := (.slice (some ⟨q2, 0, none⟩) n n)) (unhide S12) (by omega))
  have S23 := hide (kr_put (g := w.heap.size + 1) (j := 2) (x := (.slice (some ⟨q2, 0, none⟩) n n)) (unhide S13) (by omega))
  have S24 := hide (sp_put (g := w.heap.size + 1) (j := 2) (x := (.slice (some ⟨q2, 0, none⟩) n n)) (unhide S14) (by omega))
  have D2 := hide ((unhide D1).setCell (p := ⟨w.heap.size + 1, 2, none⟩) (by simp) (.slice (some ⟨q2, 0, none⟩) n n))
  have n3 := heap_setCell_same ((((wb4.setCell ⟨w.heap.size + 1 + 1, 4, none⟩ (.slice (some ⟨q4, 0, none⟩) LA.length LA.length)).setCell ⟨w.heap.size + 1, 0, none⟩ (.int .i64 wd)).setCell ⟨w.heap.size + 1, 1, none⟩ (.slice (some ⟨q1, 0, none⟩) LW.length LW.length)).setCell ⟨w.heap.size + 1, 2, none⟩ (.slice (some ⟨q2, 0, none⟩) n n)) (w.heap.size + 1) 3 _ 33 (.slice (some ⟨q3, 0, none⟩) LK.length LK.length) n2
  obtain ⟨⟨g30, g31, g32, g33, g34⟩, g35⟩ := five_cellsF n3
  have S31 := hide (sp_put (g := w.heap.size + 1) (j := 3) (x := (.slice (some ⟨q3, 0, none⟩) LK.length LK.length)) (unhide S21) (by omega))
  have S32 := hide (ru_put (g := w.heap.size + 1) (j := 3) (x := (.slice (some ⟨q3, 0, none⟩) LK.length LK.length)) (unhide S22) (by omega))
  have S33 := hide (kr_put (g := w.heap.size + 1) (j := 3) (x := (.slice (some ⟨q3, 0, none⟩) LK.length LK.length)) (unhide S23) (by omega))
  have S34 := hide (sp_put (g := w.heap.size + 1) (j := 3) (x := (.slice (some ⟨q3, 0, none⟩) LK.length LK.length)) (unhide S24) (by omega))
  have D3 := hide ((unhide D2).setCell (p := ⟨w.heap.size + 1, 3, none⟩) (by simp) (.slice (some ⟨q3, 0, none⟩) LK.length LK.length))
  have n4 := heap_setCell_same (((((wb4.setCell ⟨w.heap.size + 1 + 1, 4, none⟩ (.slice (some ⟨q4, 0, none⟩) LA.length LA.length)).setCell ⟨w.heap.size + 1, 0, none⟩ (.int .i64 wd)).setCell ⟨w.heap.size + 1, 1, none⟩ (.slice (some ⟨q1, 0, none⟩) LW.length LW.length)).setCell ⟨w.heap.size + 1, 2, none⟩ (.slice (some ⟨q2, 0, none⟩) n n)).setCell ⟨w.heap.size + 1, 3, none⟩ (.slice (some ⟨q3, 0, none⟩) LK.length LK.length)) (w.heap.size + 1) 4 _ 33 (.slice (some ⟨q4, 0, none⟩) LA.length LA.length) n3
  obtain ⟨⟨g40, g41, g42, g43, g44⟩, g45⟩ := five_cellsF n4
  have S41 := hide (sp_put (g := w.heap.size + 1) (j := 4) (x := (.slice (some ⟨q4, 0, none⟩) LA.length LA.length)) (unhide S31) (by omega))
  have S42 := hide (ru_put (g := w.heap.size + 1) (j := 4) (x := (.slice (some ⟨q4, 0, none⟩) LA.length LA.length)) (unhide S32) (by omega))
  have S43 := hide (kr_put (g := w.heap.size + 1) (j := 4) (x := (.slice (some ⟨q4, 0, none⟩) LA.length LA.length)) (unhide S33) (by omega))
  have S44 := hide (sp_put (g := w.heap.size + 1) (j := 4) (x := (.slice (some ⟨q4, 0, none⟩) LA.length LA.length)) (unhide S34) (by omega))
  have D4 := hide ((unhide D3).setCell (p := ⟨w.heap.size + 1, 4, none⟩) (by simp) (.slice (some ⟨q4, 0, none⟩) LA.length LA.length))
  have f40 := f4 0
  have y0 := g05 1
  have y1 := g15 2
  have y2 := g25 3
  have y3 := g35 4
  clear n0 n1 n2 n3 n4 m0 m1 m2 f4 g05 g15 g25 g35 g45
  clear R1 R2 R3 R4 S01 S02 S03 S04 S11 S12 S13 S14 S21 S22 S23 S24 S31 S32 S33 S34 D0 D1 D2 D3 B4
  go_wp2
  refine bodyPost_ret (v := .agg #[(.int .i64 wd), (.slice (some ⟨q1, 0, none⟩) LW.length LW.length), (.slice (some ⟨q2, 0, none⟩) n n), (.slice (some ⟨q3, 0, none⟩) LK.length LK.length), (.slice (some ⟨q4, 0, none⟩) LA.length LA.length)]) (by simp [results, Try.results7, go_sem, g40, g41, g42, g43, g44]; try rfl) rfl ?_
  exact ⟨_, rfl, ⟨_, _, _, _, _, _, _, _, rfl, ⟨_, unhide S41⟩, (unhide S42).ints (unhide HQ) _, ⟨_, unhide S43⟩, _, unhide S44⟩, unhide D4⟩
end Go.Proofs.Ytccnjjkechdknaa.Fnt
