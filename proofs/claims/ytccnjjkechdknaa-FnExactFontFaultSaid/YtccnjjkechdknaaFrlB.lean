/- A copy of a rule, and of a row of rules. -/
import Derived.Test.YtccnjjkechdknaaFrlA
namespace Go.Proofs.Ytccnjjkechdknaa.Frl
open Go.RowKit
set_option linter.unusedVariables false
/-- A row of numbers of one's own, in the block q. -/
def Ow (w : World) (B q : Nat) (L : List Int) : Prop := w.ownsRow B 2 1 (.slice (some ⟨q, 0, none⟩) L.length L.length) L.length (L.map (Value.int .i64))
theorem own_at {w w' : World} {B : Nat} {e : TypeId} {s : Nat} {v : Value} {n : Nat} {xs : List Value} (h : w.ownsRow B e s v n xs) (hs : ∀ k, v.ownBlock = some k → w'.heap[k]? = w.heap[k]?) : w'.ownsRow B e s v n xs := by
  refine ⟨h.1, ?_⟩
  rcases h.2 with h' | ⟨g, cap, cur, hv, hg, hh, r⟩
  · exact .inl h'
  · exact .inr ⟨g, cap, cur, hv, hg, (hs g (by rw [hv]; rfl)).trans hh, r⟩
theorem Ow.at {w w' : World} {B q : Nat} {L : List Int} (h : Ow w B q L) (hs : w'.heap[q]? = w.heap[q]?) : Ow w' B q L := own_at h (fun k hk => by cases hk; exact hs)
theorem Ow.below {w w' : World} {B q : Nat} {L : List Int} (h : Ow w B q L) (hb : Below w.heap.size w w') : Ow w' B q L := ownsRow_below h hb
theorem Ow.put {w : World} {B q g j : Nat} {L : List Int} {x : Value} (h : Ow w B q L) (hg : q ≠ g) : Ow (w.setCell ⟨g, j, none⟩ x) B q L := h.at (heap_setCell_other w ⟨g, j, none⟩ q x hg)
theorem Ow.lt {w : World} {B q : Nat} {L : List Int} (h : Ow w B q L) : B ≤ q ∧ q < w.heap.size := World.ownsRow.lt h q rfl
theorem Ow.down {w : World} {B B2 q : Nat} {L : List Int} (h : Ow w B2 q L) (hb : B ≤ B2) : Ow w B q L := by
  refine ⟨h.1, ?_⟩
  rcases h.2 with h' | ⟨g, cap, cur, hv, hg, r⟩
  · exact .inl h'
  · exact .inr ⟨g, cap, cur, hv, by omega, r⟩
theorem Ow.ints {w : World} {B q : Nat} {L : List Int} (h : Ow w B q L) : IntsAt w (.slice (some ⟨q, 0, none⟩) L.length L.length) L := IntsAt.owned h
theorem heap_new (w : World) (o : Obj) : (w.alloc o).heap[w.heap.size]? = some o := by unfold World.alloc; exact Array.getElem?_push_size
theorem four_cells {w : World} {g : Nat} {a b c d : Value} {T : TypeId} (h : w.heap[g]? = some (.cells #[a, b, c, d] T (0, 0))) : (w.cell? ⟨g, 0, none⟩ = some a ∧ w.cell? ⟨g, 1, none⟩ = some b ∧ w.cell? ⟨g, 2, none⟩ = some c ∧ w.cell? ⟨g, 3, none⟩ = some d) ∧ ∀ i, w.frozen? ⟨g, i, none⟩ = false := by
  simp [World.cell?, World.frozen?, h]
set_option maxRecDepth 100000 in
set_option maxHeartbeats 8000000 in
theorem toRule_any (u0 u1 u2 u3 : Value) (L0 L1 L2 L3 : List Int) (w : World) (h0 : IntsAt w u0 L0) (h1 : IntsAt w u1 L1) (h2 : IntsAt w u2 L2) (h3 : IntsAt w u3 L3) (l0 : L0.length ≤ 1048576) (l1 : L1.length ≤ 1048576) (l2 : L2.length ≤ 1048576) (l3 : L3.length ≤ 1048576) :
    Calls Try.prog 35 #[.agg #[u0, u1, u2, u3]] w fun e w' => ∃ q0 q1 q2 q3 : Nat, e = .returned (.agg #[.slice (some ⟨q0, 0, none⟩) L0.length L0.length, .slice (some ⟨q1, 0, none⟩) L1.length L1.length, .slice (some ⟨q2, 0, none⟩) L2.length L2.length, .slice (some ⟨q3, 0, none⟩) L3.length L3.length]) ∧ (w.heap.size < q0 ∧ q0 < q1 ∧ q1 < q2 ∧ q2 < q3) ∧ Ow w' w.heap.size q0 L0 ∧ Ow w' w.heap.size q1 L1 ∧ Ow w' w.heap.size q2 L2 ∧ Ow w' w.heap.size q3 L3 ∧ Below w.heap.size w w' := by
  have C0 := hide (fun W h => toInts u0 L0 W h l0)
  have H0 := hide h0
  have C1 := hide (fun W h => toInts u1 L1 W h l1)
  have H1 := hide h1
  have C2 := hide (fun W h => toInts u2 L2 W h l2)
  have H2 := hide h2
  have C3 := hide (fun W h => toInts u3 L3 W h l3)
  have H3 := hide h3
  clear h0 h1 h2 h3 l0 l1 l2 l3
  go_enter Try.func35, Try.ntmps35
  go_wp2_with fail
  have hb3 : Below w.heap.size w (((w.alloc (.cells #[u0, u1, u2, u3] 65)).alloc (.cells #[.slice none 0 0, .slice none 0 0, .slice none 0 0, .slice none 0 0] 68)).alloc (.cells #[.slice none 0 0, .slice none 0 0, .slice none 0 0, .slice none 0 0] 68)) := ((((Below.refl _ _).alloc (Nat.le_refl _) _).alloc (by simp) _).alloc (by simp; omega) _)
  have hz3 : w.heap.size + 3 ≤ (((w.alloc (.cells #[u0, u1, u2, u3] 65)).alloc (.cells #[.slice none 0 0, .slice none 0 0, .slice none 0 0, .slice none 0 0] 68)).alloc (.cells #[.slice none 0 0, .slice none 0 0, .slice none 0 0, .slice none 0 0] 68)).heap.size := by simp
  have k0 : (((w.alloc (.cells #[u0, u1, u2, u3] 65)).alloc (.cells #[.slice none 0 0, .slice none 0 0, .slice none 0 0, .slice none 0 0] 68)).alloc (.cells #[.slice none 0 0, .slice none 0 0, .slice none 0 0, .slice none 0 0] 68)).heap[w.heap.size]? = some (.cells #[u0, u1, u2, u3] 65 (0, 0)) := by
    rw [Below.heap_alloc _ _ _ (by simp; omega), Below.heap_alloc _ _ _ (by simp)]
    exact heap_new w _
  have k1 : (((w.alloc (.cells #[u0, u1, u2, u3] 65)).alloc (.cells #[.slice none 0 0, .slice none 0 0, .slice none 0 0, .slice none 0 0] 68)).alloc (.cells #[.slice none 0 0, .slice none 0 0, .slice none 0 0, .slice none 0 0] 68)).heap[w.heap.size + 1]? = some (.cells #[.slice none 0 0, .slice none 0 0, .slice none 0 0, .slice none 0 0] 68 (0, 0)) := by
    rw [Below.heap_alloc _ _ _ (by simp)]
    have := heap_new (w.alloc (.cells #[u0, u1, u2, u3] 65)) (.cells #[.slice none 0 0, .slice none 0 0, .slice none 0 0, .slice none 0 0] 68)
    simpa using this
  have k2 : (((w.alloc (.cells #[u0, u1, u2, u3] 65)).alloc (.cells #[.slice none 0 0, .slice none 0 0, .slice none 0 0, .slice none 0 0] 68)).alloc (.cells #[.slice none 0 0, .slice none 0 0, .slice none 0 0, .slice none 0 0] 68)).heap[w.heap.size + 1 + 1]? = some (.cells #[.slice none 0 0, .slice none 0 0, .slice none 0 0, .slice none 0 0] 68 (0, 0)) := by
    have := heap_new ((w.alloc (.cells #[u0, u1, u2, u3] 65)).alloc (.cells #[.slice none 0 0, .slice none 0 0, .slice none 0 0, .slice none 0 0] 68)) (.cells #[.slice none 0 0, .slice none 0 0, .slice none 0 0, .slice none 0 0] 68)
    simpa using this
  have B3 := hide hb3
  generalize (((w.alloc (.cells #[u0, u1, u2, u3] 65)).alloc (.cells #[.slice none 0 0, .slice none 0 0, .slice none 0 0, .slice none 0 0] 68)).alloc (.cells #[.slice none 0 0, .slice none 0 0, .slice none 0 0, .slice none 0 0] 68)) = wa at *
  clear hb3
  refine ((unhide C0) _ ((unhide H0).below (unhide B3))).mono ?_
  rintro e wb0 ⟨rfl, ho0, hb, hlt⟩
  have k0' := (hb.block w.heap.size (by omega)).trans k0
  have k1' := (hb.block (w.heap.size + 1) (by omega)).trans k1
  have k2' := (hb.block (w.heap.size + 1 + 1) (by omega)).trans k2
  obtain ⟨q0, hq0⟩ : ∃ q, q = wa.heap.size := ⟨_, rfl⟩
  rw [← hq0] at ho0 hlt ⊢
  have hp0 : wa.heap.size ≤ q0 := by omega
  have R0' := hide (Ow.down (B := w.heap.size) ho0 (by omega))
  clear hq0
  have B3' := hide ((unhide B3).trans (hb.mono (unhide B3).size))
  have hz40 : q0 < wb0.heap.size := by omega
  obtain ⟨⟨a0, a1, a2, a3⟩, a4⟩ := four_cells k0'
  obtain ⟨⟨b0, b1, b2, b3⟩, b4⟩ := four_cells k2'
  have b5 := b4 0
  clear a4 b4
  have m0 := (heap_setCell_other wb0 ⟨w.heap.size + 1 + 1, 0, none⟩ w.heap.size (.slice (some ⟨q0, 0, none⟩) L0.length L0.length) (by show w.heap.size ≠ w.heap.size + 1 + 1; omega)).trans k0'
  have m1 := (heap_setCell_other wb0 ⟨w.heap.size + 1 + 1, 0, none⟩ (w.heap.size + 1) (.slice (some ⟨q0, 0, none⟩) L0.length L0.length) (by simp)).trans k1'
  have m2 := heap_setCell_same wb0 (w.heap.size + 1 + 1) 0 _ 68 (.slice (some ⟨q0, 0, none⟩) L0.length L0.length) k2'
  have R0 := hide (Ow.put (g := w.heap.size + 1 + 1) (j := 0) (x := (.slice (some ⟨q0, 0, none⟩) L0.length L0.length)) (unhide R0') (by omega))
  have B4 := hide ((unhide B3').setCell (p := ⟨w.heap.size + 1 + 1, 0, none⟩) (by show w.heap.size ≤ w.heap.size + 1 + 1; omega) (.slice (some ⟨q0, 0, none⟩) L0.length L0.length))
  have hz50 : wb0.heap.size ≤ (wb0.setCell ⟨w.heap.size + 1 + 1, 0, none⟩ (.slice (some ⟨q0, 0, none⟩) L0.length L0.length)).heap.size := by simp
  obtain ⟨⟨d0, d1, d2, d3⟩, _⟩ := four_cells m0
  clear R0'
  clear k0 k1 k2 k0' k1' k2' hb B3 B3' hlt ho0 C0 H0
  go_wp2_with fail
  have k0 := m0
  have k1 := m1
  have k2 := m2
  have B3 := B4
  generalize wb0.setCell ⟨w.heap.size + 1 + 1, 0, none⟩ (.slice (some ⟨q0, 0, none⟩) L0.length L0.length) = wc0 at *
  clear m0 m1 m2 B4 a0 a1 a2 a3 b0 b1 b2 b3 b5 d0 d1 d2 d3
  refine ((unhide C1) _ ((unhide H1).below (unhide B3))).mono ?_
  rintro e wb1 ⟨rfl, ho1, hb, hlt⟩
  have k0' := (hb.block w.heap.size (by omega)).trans k0
  have k1' := (hb.block (w.heap.size + 1) (by omega)).trans k1
  have k2' := (hb.block (w.heap.size + 1 + 1) (by omega)).trans k2
  have R0' := hide ((unhide R0).below hb)
  clear R0
  obtain ⟨q1, hq1⟩ : ∃ q, q = wc0.heap.size := ⟨_, rfl⟩
  rw [← hq1] at ho1 hlt ⊢
  have hp1 : wc0.heap.size ≤ q1 := by omega
  have R1' := hide (Ow.down (B := w.heap.size) ho1 (by omega))
  clear hq1
  have B3' := hide ((unhide B3).trans (hb.mono (unhide B3).size))
  have hz41 : q1 < wb1.heap.size := by omega
  obtain ⟨⟨a0, a1, a2, a3⟩, a4⟩ := four_cells k0'
  obtain ⟨⟨b0, b1, b2, b3⟩, b4⟩ := four_cells k2'
  have b5 := b4 1
  clear a4 b4
  have m0 := (heap_setCell_other wb1 ⟨w.heap.size + 1 + 1, 1, none⟩ w.heap.size (.slice (some ⟨q1, 0, none⟩) L1.length L1.length) (by show w.heap.size ≠ w.heap.size + 1 + 1; omega)).trans k0'
  have m1 := (heap_setCell_other wb1 ⟨w.heap.size + 1 + 1, 1, none⟩ (w.heap.size + 1) (.slice (some ⟨q1, 0, none⟩) L1.length L1.length) (by simp)).trans k1'
  have m2 := heap_setCell_same wb1 (w.heap.size + 1 + 1) 1 _ 68 (.slice (some ⟨q1, 0, none⟩) L1.length L1.length) k2'
  have R0 := hide (Ow.put (g := w.heap.size + 1 + 1) (j := 1) (x := (.slice (some ⟨q1, 0, none⟩) L1.length L1.length)) (unhide R0') (by omega))
  have R1 := hide (Ow.put (g := w.heap.size + 1 + 1) (j := 1) (x := (.slice (some ⟨q1, 0, none⟩) L1.length L1.length)) (unhide R1') (by omega))
  have B4 := hide ((unhide B3').setCell (p := ⟨w.heap.size + 1 + 1, 1, none⟩) (by show w.heap.size ≤ w.heap.size + 1 + 1; omega) (.slice (some ⟨q1, 0, none⟩) L1.length L1.length))
  have hz51 : wb1.heap.size ≤ (wb1.setCell ⟨w.heap.size + 1 + 1, 1, none⟩ (.slice (some ⟨q1, 0, none⟩) L1.length L1.length)).heap.size := by simp
  obtain ⟨⟨d0, d1, d2, d3⟩, _⟩ := four_cells m0
  clear R0'
  clear R1'
  clear k0 k1 k2 k0' k1' k2' hb B3 B3' hlt ho1 C1 H1
  go_wp2_with fail
  have k0 := m0
  have k1 := m1
  have k2 := m2
  have B3 := B4
  generalize wb1.setCell ⟨w.heap.size + 1 + 1, 1, none⟩ (.slice (some ⟨q1, 0, none⟩) L1.length L1.length) = wc1 at *
  clear m0 m1 m2 B4 a0 a1 a2 a3 b0 b1 b2 b3 b5 d0 d1 d2 d3
  refine ((unhide C2) _ ((unhide H2).below (unhide B3))).mono ?_
  rintro e wb2 ⟨rfl, ho2, hb, hlt⟩
  have k0' := (hb.block w.heap.size (by omega)).trans k0
  have k1' := (hb.block (w.heap.size + 1) (by omega)).trans k1
  have k2' := (hb.block (w.heap.size + 1 + 1) (by omega)).trans k2
  have R0' := hide ((unhide R0).below hb)
  clear R0
  have R1' := hide ((unhide R1).below hb)
  clear R1
  obtain ⟨q2, hq2⟩ : ∃ q, q = wc1.heap.size := ⟨_, rfl⟩
  rw [← hq2] at ho2 hlt ⊢
  have hp2 : wc1.heap.size ≤ q2 := by omega
  have R2' := hide (Ow.down (B := w.heap.size) ho2 (by omega))
  clear hq2
  have B3' := hide ((unhide B3).trans (hb.mono (unhide B3).size))
  have hz42 : q2 < wb2.heap.size := by omega
  obtain ⟨⟨a0, a1, a2, a3⟩, a4⟩ := four_cells k0'
  obtain ⟨⟨b0, b1, b2, b3⟩, b4⟩ := four_cells k2'
  have b5 := b4 2
  clear a4 b4
  have m0 := (heap_setCell_other wb2 ⟨w.heap.size + 1 + 1, 2, none⟩ w.heap.size (.slice (some ⟨q2, 0, none⟩) L2.length L2.length) (by show w.heap.size ≠ w.heap.size + 1 + 1; omega)).trans k0'
  have m1 := (heap_setCell_other wb2 ⟨w.heap.size + 1 + 1, 2, none⟩ (w.heap.size + 1) (.slice (some ⟨q2, 0, none⟩) L2.length L2.length) (by simp)).trans k1'
  have m2 := heap_setCell_same wb2 (w.heap.size + 1 + 1) 2 _ 68 (.slice (some ⟨q2, 0, none⟩) L2.length L2.length) k2'
  have R0 := hide (Ow.put (g := w.heap.size + 1 + 1) (j := 2) (x := (.slice (some ⟨q2, 0, none⟩) L2.length L2.length)) (unhide R0') (by omega))
  have R1 := hide (Ow.put (g := w.heap.size + 1 + 1) (j := 2) (x := (.slice (some ⟨q2, 0, none⟩) L2.length L2.length)) (unhide R1') (by omega))
  have R2 := hide (Ow.put (g := w.heap.size + 1 + 1) (j := 2) (x := (.slice (some ⟨q2, 0, none⟩) L2.length L2.length)) (unhide R2') (by omega))
  have B4 := hide ((unhide B3').setCell (p := ⟨w.heap.size + 1 + 1, 2, none⟩) (by show w.heap.size ≤ w.heap.size + 1 + 1; omega) (.slice (some ⟨q2, 0, none⟩) L2.length L2.length))
  have hz52 : wb2.heap.size ≤ (wb2.setCell ⟨w.heap.size + 1 + 1, 2, none⟩ (.slice (some ⟨q2, 0, none⟩) L2.length L2.length)).heap.size := by simp
  obtain ⟨⟨d0, d1, d2, d3⟩, _⟩ := four_cells m0
  clear R0'
  clear R1'
  clear R2'
  clear k0 k1 k2 k0' k1' k2' hb B3 B3' hlt ho2 C2 H2
  go_wp2_with fail
  have k0 := m0
  have k1 := m1
  have k2 := m2
  have B3 := B4
  generalize wb2.setCell ⟨w.heap.size + 1 + 1, 2, none⟩ (.slice (some ⟨q2, 0, none⟩) L2.length L2.length) = wc2 at *
  clear m0 m1 m2 B4 a0 a1 a2 a3 b0 b1 b2 b3 b5 d0 d1 d2 d3
  refine ((unhide C3) _ ((unhide H3).below (unhide B3))).mono ?_
  rintro e wb3 ⟨rfl, ho3, hb, hlt⟩
  have k0' := (hb.block w.heap.size (by omega)).trans k0
  have k1' := (hb.block (w.heap.size + 1) (by omega)).trans k1
  have k2' := (hb.block (w.heap.size + 1 + 1) (by omega)).trans k2
  have R0' := hide ((unhide R0).below hb)
  clear R0
  have R1' := hide ((unhide R1).below hb)
  clear R1
  have R2' := hide ((unhide R2).below hb)
  clear R2
  obtain ⟨q3, hq3⟩ : ∃ q, q = wc2.heap.size := ⟨_, rfl⟩
  rw [← hq3] at ho3 hlt ⊢
  have hp3 : wc2.heap.size ≤ q3 := by omega
  have R3' := hide (Ow.down (B := w.heap.size) ho3 (by omega))
  clear hq3
  have B3' := hide ((unhide B3).trans (hb.mono (unhide B3).size))
  have hz43 : q3 < wb3.heap.size := by omega
  obtain ⟨⟨a0, a1, a2, a3⟩, a4⟩ := four_cells k0'
  obtain ⟨⟨b0, b1, b2, b3⟩, b4⟩ := four_cells k2'
  have b5 := b4 3
  clear a4 b4
  have m0 := (heap_setCell_other wb3 ⟨w.heap.size + 1 + 1, 3, none⟩ w.heap.size (.slice (some ⟨q3, 0, none⟩) L3.length L3.length) (by show w.heap.size ≠ w.heap.size + 1 + 1; omega)).trans k0'
  have m1 := (heap_setCell_other wb3 ⟨w.heap.size + 1 + 1, 3, none⟩ (w.heap.size + 1) (.slice (some ⟨q3, 0, none⟩) L3.length L3.length) (by simp)).trans k1'
  have m2 := heap_setCell_same wb3 (w.heap.size + 1 + 1) 3 _ 68 (.slice (some ⟨q3, 0, none⟩) L3.length L3.length) k2'
  have R0 := hide (Ow.put (g := w.heap.size + 1 + 1) (j := 3) (x := (.slice (some ⟨q3, 0, none⟩) L3.length L3.length)) (unhide R0') (by omega))
  have R1 := hide (Ow.put (g := w.heap.size + 1 + 1) (j := 3) (x := (.slice (some ⟨q3, 0, none⟩) L3.length L3.length)) (unhide R1') (by omega))
  have R2 := hide (Ow.put (g := w.heap.size + 1 + 1) (j := 3) (x := (.slice (some ⟨q3, 0, none⟩) L3.length L3.length)) (unhide R2') (by omega))
  have R3 := hide (Ow.put (g := w.heap.size + 1 + 1) (j := 3) (x := (.slice (some ⟨q3, 0, none⟩) L3.length L3.length)) (unhide R3') (by omega))
  have B4 := hide ((unhide B3').setCell (p := ⟨w.heap.size + 1 + 1, 3, none⟩) (by show w.heap.size ≤ w.heap.size + 1 + 1; omega) (.slice (some ⟨q3, 0, none⟩) L3.length L3.length))
  have hz53 : wb3.heap.size ≤ (wb3.setCell ⟨w.heap.size + 1 + 1, 3, none⟩ (.slice (some ⟨q3, 0, none⟩) L3.length L3.length)).heap.size := by simp
  obtain ⟨⟨d0, d1, d2, d3⟩, _⟩ := four_cells m2
  obtain ⟨_, f4⟩ := four_cells m1
  clear R0'
  clear R1'
  clear R2'
  clear R3'
  clear k0 k1 k2 k0' k1' k2' hb B3 B3' hlt ho3 C3 H3
  have n0 := heap_setCell_same (wb3.setCell ⟨w.heap.size + 1 + 1, 3, none⟩ (.slice (some ⟨q3, 0, none⟩) L3.length L3.length)) (w.heap.size + 1) 0 _ 68 (.slice (some ⟨q0, 0, none⟩) L0.length L0.length) m1
  obtain ⟨⟨g00, g01, g02, g03⟩, g04⟩ := four_cells n0
  have S00 := hide (Ow.put (g := w.heap.size + 1) (j := 0) (x := (.slice (some ⟨q0, 0, none⟩) L0.length L0.length)) (unhide R0) (by omega))
  have S01 := hide (Ow.put (g := w.heap.size + 1) (j := 0) (x := (.slice (some ⟨q0, 0, none⟩) L0.length L0.length)) (unhide R1) (by omega))
  have S02 := hide (Ow.put (g := w.heap.size + 1) (j := 0) (x := (.slice (some ⟨q0, 0, none⟩) L0.length L0.length)) (unhide R2) (by omega))
  have S03 := hide (Ow.put (g := w.heap.size + 1) (j := 0) (x := (.slice (some ⟨q0, 0, none⟩) L0.length L0.length)) (unhide R3) (by omega))
  have D0 := hide ((unhide B4).setCell (p := ⟨w.heap.size + 1, 0, none⟩) (by simp) (.slice (some ⟨q0, 0, none⟩) L0.length L0.length))
  have n1 := heap_setCell_same ((wb3.setCell ⟨w.heap.size + 1 + 1, 3, none⟩ (.slice (some ⟨q3, 0, none⟩) L3.length L3.length)).setCell ⟨w.heap.size + 1, 0, none⟩ (.slice (some ⟨q0, 0, none⟩) L0.length L0.length)) (w.heap.size + 1) 1 _ 68 (.slice (some ⟨q1, 0, none⟩) L1.length L1.length) n0
  obtain ⟨⟨g10, g11, g12, g13⟩, g14⟩ := four_cells n1
  have S10 := hide (Ow.put (g := w.heap.size + 1) (j := 1) (x := (.slice (some ⟨q1, 0, none⟩) L1.length L1.length)) (unhide S00) (by omega))
  have S11 := hide (Ow.put (g := w.heap.size + 1) (j := 1) (x := (.slice (some ⟨q1, 0, none⟩) L1.length L1.length)) (unhide S01) (by omega))
  have S12 := hide (Ow.put (g := w.heap.size + 1) (j := 1) (x := (.slice (some ⟨q1, 0, none⟩) L1.length L1.length)) (unhide S02) (by omega))
  have S13 := hide (Ow.put (g := w.heap.size + 1) (j := 1) (x := (.slice (some ⟨q1, 0, none⟩) L1.length L1.length)) (unhide S03) (by omega))
  have D1 := hide ((unhide D0).setCell (p := ⟨w.heap.size + 1, 1, none⟩) (by simp) (.slice (some ⟨q1, 0, none⟩) L1.length L1.length))
  have n2 := heap_setCell_same (((wb3.setCell ⟨w.heap.size + 1 + 1, 3, none⟩ (.slice (some ⟨q3, 0, none⟩) L3.length L3.length)).setCell ⟨w.heap.size + 1, 0, none⟩ (.slice (some ⟨q0, 0, none⟩) L0.length L0.length)).setCell ⟨w.heap.size + 1, 1, none⟩ (.slice (some ⟨q1, 0, none⟩) L1.length L1.length)) (w.heap.size + 1) 2 _ 68 (.slice (some ⟨q2, 0, none⟩) L2.length L2.length) n1
  obtain ⟨⟨g20, g21, g22, g23⟩, g24⟩ := four_cells n2
  have S20 := hide (Ow.put (g := w.heap.size + 1) (j := 2) (x := (.slice (some ⟨q2, 0, none⟩) L2.length L2.length)) (unhide S10) (by omega))
  have S21 := hide (Ow.put (g := w.heap.size + 1) (j := 2) (x := (.slice (some ⟨q2, 0, none⟩) L2.length L2.length)) (unhide S11) (by omega))
  have S22 := hide (Ow.put (g := w.heap.size + 1) (j := 2) (x := (.slice (some ⟨q2, 0, none⟩) L2.length L2.length)) (unhide S12) (by omega))
  have S23 := hide (Ow.put (g := w.heap.size + 1) (j := 2) (x := (.slice (some ⟨q2, 0, none⟩) L2.length L2.length)) (unhide S13) (by omega))
  have D2 := hide ((unhide D1).setCell (p := ⟨w.heap.size + 1, 2, none⟩) (by simp) (.slice (some ⟨q2, 0, none⟩) L2.length L2.length))
  have n3 := heap_setCell_same ((((wb3.setCell ⟨w.heap.size + 1 + 1, 3, none⟩ (.slice (some ⟨q3, 0, none⟩) L3.length L3.length)).setCell ⟨w.heap.size + 1, 0, none⟩ (.slice (some ⟨q0, 0, none⟩) L0.length L0.length)).setCell ⟨w.heap.size + 1, 1, none⟩ (.slice (some ⟨q1, 0, none⟩) L1.length L1.length)).setCell ⟨w.heap.size + 1, 2, none⟩ (.slice (some ⟨q2, 0, none⟩) L2.length L2.length)) (w.heap.size + 1) 3 _ 68 (.slice (some ⟨q3, 0, none⟩) L3.length L3.length) n2
  obtain ⟨⟨g30, g31, g32, g33⟩, g34⟩ := four_cells n3
  have S30 := hide (Ow.put (g := w.heap.size + 1) (j := 3) (x := (.slice (some ⟨q3, 0, none⟩) L3.length L3.length)) (unhide S20) (by omega))
  have S31 := hide (Ow.put (g := w.heap.size + 1) (j := 3) (x := (.slice (some ⟨q3, 0, none⟩) L3.length L3.length)) (unhide S21) (by omega))
  have S32 := hide (Ow.put (g := w.heap.size + 1) (j := 3) (x := (.slice (some ⟨q3, 0, none⟩) L3.length L3.length)) (unhide S22) (by omega))
  have S33 := hide (Ow.put (g := w.heap.size + 1) (j := 3) (x := (.slice (some ⟨q3, 0, none⟩) L3.length L3.length)) (unhide S23) (by omega))
  have D3 := hide ((unhide D2).setCell (p := ⟨w.heap.size + 1, 3, none⟩) (by simp) (.slice (some ⟨q3, 0, none⟩) L3.length L3.length))
  have f40 := f4 0
  have y0 := g04 1
  have y1 := g14 2
  have y2 := g24 3
  clear n0 n1 n2 n3 m0 m1 m2 f4 g04 g14 g24 g34
  clear R0 R1 R2 R3 S00 S01 S02 S03 S10 S11 S12 S13 S20 S21 S22 S23 D0 D1 D2 B4
  go_wp2
  refine bodyPost_ret (v := .agg #[(.slice (some ⟨q0, 0, none⟩) L0.length L0.length), (.slice (some ⟨q1, 0, none⟩) L1.length L1.length), (.slice (some ⟨q2, 0, none⟩) L2.length L2.length), (.slice (some ⟨q3, 0, none⟩) L3.length L3.length)]) (by simp [results, Try.results35, go_sem, g30, g31, g32, g33]; try rfl) rfl ?_
  exact ⟨_, _, _, _, rfl, ⟨by omega, by omega, by omega, by omega⟩, unhide S30, unhide S31, unhide S32, unhide S33, unhide D3⟩
theorem infoRu : (Try.prog.info? 68).map (fun i => (i.zero, i.size, i.bytes)) = some (some (.agg #[.slice none 0 0, .slice none 0 0, .slice none 0 0, .slice none 0 0]), 4, 96) := by kernel_rfl
/-- Rows of rules in the block b, which lie in blocks of their own, rising. -/
structure RuC (w : World) (b : Nat) (Q : List (List Int)) (blk : Nat → Nat) (m : Nat) : Prop where
  cell : ∀ k, k < m → w.cell? ⟨b, k, none⟩ = some (.slice (some ⟨blk k, 0, none⟩) (qn Q k).length (qn Q k).length)
  row : ∀ k, k < m → Ow w (b + 1) (blk k) (qn Q k)
  mono : ∀ j k, j < k → k < m → blk j < blk k
  here : b < w.heap.size
theorem RuC.below {w w' : World} {b m : Nat} {Q : List (List Int)} {blk : Nat → Nat} (h : RuC w b Q blk m) (hb : Below w.heap.size w w') : RuC w' b Q blk m :=
  ⟨fun k hk => (hb.cell (p := ⟨b, k, none⟩) h.here).trans (h.cell k hk), fun k hk => (h.row k hk).below hb, h.mono, Nat.lt_of_lt_of_le h.here hb.size⟩
theorem RuC.ints {w : World} {b n : Nat} {Q : List (List Int)} {blk : Nat → Nat} (h : RuC w b Q blk (n * 4)) (hQ : Q.length = n * 4) (c : Nat) : RuI w (.slice (some ⟨b, 0, none⟩) n c) n Q :=
  ⟨hQ, _, _, rfl, .inr ⟨b, 0, rfl, h.here, fun k hk => ⟨_, by rw [Nat.zero_add]; exact h.cell k hk, (h.row k hk).ints⟩⟩⟩
/-- The state of the copy when k rules are done. -/
def CSt (w0 w : World) (n : Nat) (Q : List (List Int)) (k m : Nat) : Prop :=
  ∃ (xs : List Value) (blk : Nat → Nat), w.ownsRow w0.heap.size 68 4 (.slice (some ⟨w0.heap.size, 0, none⟩) n n) n xs ∧ (∀ j, j < k * 4 → xs[j]? = some (.slice (some ⟨blk j, 0, none⟩) (qn Q j).length (qn Q j).length)) ∧ (∀ j, j < k * 4 → Ow w (w0.heap.size + 1) (blk j) (qn Q j)) ∧ (∀ i j, i < j → j < k * 4 → blk i < blk j) ∧ (∀ j, j < k * 4 → blk j < m) ∧ Below w0.heap.size w0 w
theorem row4_at {w : World} {B g n c : Nat} {xs : List Value} (h : w.ownsRow B 68 4 (.slice (some ⟨g, 0, none⟩) n c) n xs) (j : Nat) (hj : j < n * 4) : ∃ x, w.cell? ⟨g, j, none⟩ = some x ∧ w.frozen? ⟨g, j, none⟩ = false := by
  have hn : xs.length = n * 4 := h.1
  have := h.cellAt j hj
  rw [List.getElem?_eq_getElem (by omega)] at this
  exact ⟨_, this, h.frozenAt j⟩
theorem CSt.below {w0 w w' : World} {n : Nat} {Q : List (List Int)} {k m : Nat} (h : CSt w0 w n Q k m) (hb : Below w.heap.size w w') : CSt w0 w' n Q k m := by
  obtain ⟨xs, blk, h1, h2, h3, h4, h5, h6⟩ := h
  exact ⟨xs, blk, ownsRow_below h1 hb, h2, fun j hj => (h3 j hj).below hb, h4, h5, h6.trans (hb.mono h6.size)⟩
def pick4 (blk : Nat → Nat) (m q0 q1 q2 q3 : Nat) (j : Nat) : Nat := if j < m then blk j else if j = m then q0 else if j = m + 1 then q1 else if j = m + 2 then q2 else q3
theorem pick4_lo {blk : Nat → Nat} {m q0 q1 q2 q3 j : Nat} (h : j < m) : pick4 blk m q0 q1 q2 q3 j = blk j := if_pos h
theorem pick4_0 {blk : Nat → Nat} {m q0 q1 q2 q3 : Nat} : pick4 blk m q0 q1 q2 q3 m = q0 := by unfold pick4; rw [if_neg (by omega), if_pos rfl]
theorem pick4_1 {blk : Nat → Nat} {m q0 q1 q2 q3 : Nat} : pick4 blk m q0 q1 q2 q3 (m + 1) = q1 := by unfold pick4; rw [if_neg (by omega), if_neg (by omega), if_pos rfl]
theorem pick4_2 {blk : Nat → Nat} {m q0 q1 q2 q3 : Nat} : pick4 blk m q0 q1 q2 q3 (m + 2) = q2 := by unfold pick4; rw [if_neg (by omega), if_neg (by omega), if_neg (by omega), if_pos rfl]
theorem pick4_3 {blk : Nat → Nat} {m q0 q1 q2 q3 : Nat} : pick4 blk m q0 q1 q2 q3 (m + 3) = q3 := by unfold pick4; rw [if_neg (by omega), if_neg (by omega), if_neg (by omega), if_neg (by omega)]
theorem five_ways {m j : Nat} (h : j < m + 4) : j < m ∨ j = m ∨ j = m + 1 ∨ j = m + 2 ∨ j = m + 3 := by omega
theorem Ow.put4 {w : World} {B q g i0 i1 i2 i3 : Nat} {L : List Int} {x0 x1 x2 x3 : Value} (h : Ow w B q L) (hg : q ≠ g) : Ow ((((w.setCell ⟨g, i0, none⟩ x0).setCell ⟨g, i1, none⟩ x1).setCell ⟨g, i2, none⟩ x2).setCell ⟨g, i3, none⟩ x3) B q L :=
  (((h.put hg).put hg).put hg).put hg
theorem CSt.put {w0 w : World} {n : Nat} {Q : List (List Int)} {k m q0 q1 q2 q3 : Nat} (h : CSt w0 w n Q k m) (hk : k < n) (hm : m ≤ q0) (h01 : q0 < q1) (h12 : q1 < q2) (h23 : q2 < q3)
    (r0 : Ow w (w0.heap.size + 1) q0 (qn Q (k * 4))) (r1 : Ow w (w0.heap.size + 1) q1 (qn Q (k * 4 + 1))) (r2 : Ow w (w0.heap.size + 1) q2 (qn Q (k * 4 + 2))) (r3 : Ow w (w0.heap.size + 1) q3 (qn Q (k * 4 + 3))) :
    CSt w0 ((((w.setCell ⟨w0.heap.size, k * 4, none⟩ (.slice (some ⟨q0, 0, none⟩) (qn Q (k * 4)).length (qn Q (k * 4)).length)).setCell ⟨w0.heap.size, k * 4 + 1, none⟩ (.slice (some ⟨q1, 0, none⟩) (qn Q (k * 4 + 1)).length (qn Q (k * 4 + 1)).length)).setCell ⟨w0.heap.size, k * 4 + 2, none⟩ (.slice (some ⟨q2, 0, none⟩) (qn Q (k * 4 + 2)).length (qn Q (k * 4 + 2)).length)).setCell ⟨w0.heap.size, k * 4 + 3, none⟩ (.slice (some ⟨q3, 0, none⟩) (qn Q (k * 4 + 3)).length (qn Q (k * 4 + 3)).length)) n Q (k + 1) (q3 + 1) := by
  obtain ⟨xs, blk, h1, h2, h3, h4, h5, h6⟩ := h
  have hx : xs.length = n * 4 := h1.1
  have g0 := r0.lt
  have g1 := r1.lt
  have g2 := r2.lt
  have g3 := r3.lt
  have gb : ∀ j, j < k * 4 → w0.heap.size + 1 ≤ blk j := fun j hj => (h3 j hj).lt.1
  refine ⟨_, pick4 blk (k * 4) q0 q1 q2 q3, (((((h1.stored (k * 4) _).1.stored (k * 4 + 1) _).1.stored (k * 4 + 2) _).1.stored (k * 4 + 3) _).1), fun j hj => ?_, fun j hj => ?_, fun i j hij hj => ?_, fun j hj => ?_, ?_⟩
  · rcases five_ways (m := k * 4) (j := j) (by omega) with e | e | e | e | e
    · rw [pick4_lo e, List.getElem?_set_ne (by omega), List.getElem?_set_ne (by omega), List.getElem?_set_ne (by omega), List.getElem?_set_ne (by omega)]
      exact h2 j e
    · subst e
      rw [pick4_0, List.getElem?_set_ne (by omega), List.getElem?_set_ne (by omega), List.getElem?_set_ne (by omega), List.getElem?_set_self (by omega)]
    · subst e
      rw [pick4_1, List.getElem?_set_ne (by omega), List.getElem?_set_ne (by omega), List.getElem?_set_self (by simp; omega)]
    · subst e
      rw [pick4_2, List.getElem?_set_ne (by omega), List.getElem?_set_self (by simp; omega)]
    · subst e
      rw [pick4_3, List.getElem?_set_self (by simp; omega)]
  · rcases five_ways (m := k * 4) (j := j) (by omega) with e | e | e | e | e
    · rw [pick4_lo e]; exact (h3 j e).put4 (by have := gb j e; omega)
    · subst e; rw [pick4_0]; exact r0.put4 (by omega)
    · subst e; rw [pick4_1]; exact r1.put4 (by omega)
    · subst e; rw [pick4_2]; exact r2.put4 (by omega)
    · subst e; rw [pick4_3]; exact r3.put4 (by omega)
  · rcases five_ways (m := k * 4) (j := j) (by omega) with e | e | e | e | e
    · rw [pick4_lo e, pick4_lo (by omega)]; exact h4 i j hij e
    · subst e; rw [pick4_0, pick4_lo hij]; have := h5 i hij; omega
    · subst e
      rcases five_ways (m := k * 4) (j := i) (by omega) with e | e | e | e | e
      · rw [pick4_1, pick4_lo e]; have := h5 i e; omega
      · subst e; rw [pick4_1, pick4_0]; omega
      · omega
      · omega
      · omega
    · subst e
      rcases five_ways (m := k * 4) (j := i) (by omega) with e | e | e | e | e
      · rw [pick4_2, pick4_lo e]; have := h5 i e; omega
      · subst e; rw [pick4_2, pick4_0]; omega
      · subst e; rw [pick4_2, pick4_1]; omega
      · omega
      · omega
    · subst e
      rcases five_ways (m := k * 4) (j := i) (by omega) with e | e | e | e | e
      · rw [pick4_3, pick4_lo e]; have := h5 i e; omega
      · subst e; rw [pick4_3, pick4_0]; omega
      · subst e; rw [pick4_3, pick4_1]; omega
      · subst e; rw [pick4_3, pick4_2]; omega
      · omega
  · rcases five_ways (m := k * 4) (j := j) (by omega) with e | e | e | e | e
    · rw [pick4_lo e]; have := h5 j e; omega
    · subst e; rw [pick4_0]; omega
    · subst e; rw [pick4_1]; omega
    · subst e; rw [pick4_2]; omega
    · subst e; rw [pick4_3]; omega
  · exact (((h6.setCell (p := ⟨w0.heap.size, k * 4, none⟩) (Nat.le_refl _) _).setCell (p := ⟨w0.heap.size, k * 4 + 1, none⟩) (Nat.le_refl _) _).setCell (p := ⟨w0.heap.size, k * 4 + 2, none⟩) (Nat.le_refl _) _).setCell (p := ⟨w0.heap.size, k * 4 + 3, none⟩) (Nat.le_refl _) _
theorem CSt.all {w0 w : World} {n : Nat} {Q : List (List Int)} {m : Nat} (h : CSt w0 w n Q n m) : ∃ blk, RuC w w0.heap.size Q blk (n * 4) := by
  obtain ⟨xs, blk, h1, h2, h3, h4, h5, h6⟩ := h
  exact ⟨blk, fun k hk => (h1.cellAt k hk).trans (h2 k hk), h3, h4, (h1.lt w0.heap.size rfl).2⟩
theorem made4 (n : Nat) (w : World) (g : Nat) (h : w.ownsRow g 68 4 (.slice (some ⟨g, 0, none⟩) n n) n (madeCells #[.slice none 0 0, .slice none 0 0, .slice none 0 0, .slice none 0 0] (n * 4)).toList) : ∃ xs, w.ownsRow g 68 4 (.slice (some ⟨g, 0, none⟩) n n) n xs := ⟨_, h⟩
set_option maxRecDepth 100000 in
set_option maxHeartbeats 8000000 in
theorem toRules_any (v : Value) (n : Nat) (Q : List (List Int)) (w : World) (hv : RuI w v n Q) (hl : n ≤ 1048576) (hs : AllB Q 1048576) :
    Calls Try.prog 13 #[v] w fun e w' => e = .returned (.slice (some ⟨w.heap.size, 0, none⟩) n n) ∧ (∃ blk, RuC w' w.heap.size Q blk (n * 4)) ∧ Below w.heap.size w w' := by
  obtain ⟨i0, hi, hz0, hz1, hz2⟩ := info_parts infoRu
  obtain ⟨a, cap, rfl, hf⟩ := hv.form
  have HV := hide hf
  have HS := hide hs
  clear hv hs hf
  go_enter Try.func13, Try.ntmps13
  go_wp2_with (at_make; refine wpList_make_full _ rfl _ _ 30 rfl w.heap.size 68 i0 (.agg #[.slice none 0 0, .slice none 0 0, .slice none 0 0, .slice none 0 0]) 4 Try.underlying30 hi hz0 hz1 .i64 .i64 _ _ n rfl rfl rfl rfl ?b2 ?b3 ?b4 ?_)
  case b2 => rw [hz2]; omega
  case b3 => unfold maxLen; omega
  case b4 => omega
  intro w1 hown hgrow
  have H1 : Hid (CSt w w1 n Q 0 0) := hide ⟨_, fun _ => 0, hown, fun j hj => by omega, fun j hj => by omega, fun i j _ hj => by omega, fun j hj => by omega, made_below hgrow⟩
  clear hown hgrow
  go_wp2
  go_loopw [4] (fun i wr => ∃ k m : Nat, k ≤ n ∧ m ≤ wr.heap.size ∧ i = .int .i64 k ∧ Hid (CSt w wr n Q k m)) (fun i _ => n - (intOf i).toNat)
  case atStart => exact ⟨0, 0, Nat.zero_le _, Nat.zero_le _, rfl, H1⟩
  case round =>
    obtain ⟨k, m, hk, hm, rfl, HO⟩ := hrel
    clear H1
    obtain ⟨_, _, hr3, _, _, _, _, hr4⟩ := unhide HO
    have hBs := hr4.size
    have hwl : w.heap.size < wr.heap.size := (hr3.lt w.heap.size rfl).2
    by_cases hlt : k < n
    · have hlt' : (k : Int) < (n : Int) := by omega
      obtain ⟨b, off, rfl, hbs, u0, u1, u2, u3, ⟨x0, x1, x2, x3⟩, i0, i1, i2, i3⟩ := (unhide HV) k hlt
      have d0 := (hr4.cell (p := ⟨b, off + k * 4, none⟩) hbs).trans x0
      have d1 := (hr4.cell (p := ⟨b, off + k * 4 + 1, none⟩) hbs).trans x1
      have d2 := (hr4.cell (p := ⟨b, off + k * 4 + 2, none⟩) hbs).trans x2
      have d3 := (hr4.cell (p := ⟨b, off + k * 4 + 3, none⟩) hbs).trans x3
      have CT := hide (toRule_any u0 u1 u2 u3 (qn Q (k * 4)) (qn Q (k * 4 + 1)) (qn Q (k * 4 + 2)) (qn Q (k * 4 + 3)) wr (i0.below hr4) (i1.below hr4) (i2.below hr4) (i3.below hr4) ((unhide HS) _) ((unhide HS) _) ((unhide HS) _) ((unhide HS) _))
      have HP := hide (fun W q0 q1 q2 q3 (h : CSt w W n Q k m) a b c d e f g i => h.put (q0 := q0) (q1 := q1) (q2 := q2) (q3 := q3) hlt a b c d e f g i)
      clear x0 x1 x2 x3 i0 i1 i2 i3 hr3
      generalize qn Q (k * 4) = L0 at *
      generalize qn Q (k * 4 + 1) = L1 at *
      generalize qn Q (k * 4 + 2) = L2 at *
      generalize qn Q (k * 4 + 3) = L3 at *
      go_wp2_with fail
      refine (unhide CT).mono ?_
      rintro e w2 ⟨q0, q1, q2, q3, rfl, ⟨e0, e1, e2, e3⟩, o0, o1, o2, o3, hb2⟩
      have S2 := (unhide HO).below hb2
      obtain ⟨_, _, hr5, _, _, _, _, hr6⟩ := S2
      have S3 := hide ((unhide HP) w2 q0 q1 q2 q3 ((unhide HO).below hb2) (by omega) e1 e2 e3 (o0.down (by omega)) (o1.down (by omega)) (o2.down (by omega)) (o3.down (by omega)))
      obtain ⟨y0, p0, f0⟩ := row4_at hr5 (k * 4) (by omega)
      have t1 := (hr5.stored (k * 4) (.slice (some ⟨q0, 0, none⟩) L0.length L0.length)).1
      obtain ⟨y1, p1, f1⟩ := row4_at t1 (k * 4 + 1) (by omega)
      have t2 := (t1.stored (k * 4 + 1) (.slice (some ⟨q1, 0, none⟩) L1.length L1.length)).1
      obtain ⟨y2, p2, f2⟩ := row4_at t2 (k * 4 + 2) (by omega)
      have t3 := (t2.stored (k * 4 + 2) (.slice (some ⟨q2, 0, none⟩) L2.length L2.length)).1
      obtain ⟨y3, p3, f3⟩ := row4_at t3 (k * 4 + 3) (by omega)
      obtain ⟨z1, p4, f4⟩ := row4_at hr5 (k * 4 + 1) (by omega)
      obtain ⟨z2, p5, f5⟩ := row4_at hr5 (k * 4 + 2) (by omega)
      obtain ⟨z3, p6, f6⟩ := row4_at hr5 (k * 4 + 3) (by omega)
      have hq3 := o3.lt.2
      clear HO HP CT hb2 o0 o1 o2 o3 hr5 hr6 t1 t2 t3 d0 d1 d2 d3
      go_wp2
      go_roundw
      case rel => exact ⟨k + 1, q3 + 1, by omega, by simp; omega, by go_num, S3⟩
      case measure => simp [intOf]; omega
    · obtain rfl : k = n := by omega
      have R := hide (unhide HO).all
      have B := hide hr4
      clear hr3 hr4
      go_wp2
      go_ret
      exact ⟨rfl, unhide R, unhide B⟩
end Go.Proofs.Ytccnjjkechdknaa.Frl
