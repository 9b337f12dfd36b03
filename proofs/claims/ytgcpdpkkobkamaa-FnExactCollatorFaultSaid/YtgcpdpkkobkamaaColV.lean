/- Entries that are alike; a collator: how large, a copy, what is alike. -/
import Derived.Test.YtgcpdpkkobkamaaColU
namespace Go.Proofs.Ytgcpdpkkobkamaa.Col
open Go.RowKit
set_option linter.unusedVariables false
set_option maxRecDepth 100000 in
set_option maxHeartbeats 2000000 in
theorem eqEntry_any (t : ByteArray) (u1 u2 : Value) (L : List Sp) (B1 B2 : Nat) (w : World) (h1 : SpRow w B1 u1 L) (h2 : SpRow w B2 u2 L) (hL : L.length ≤ 1048576) :
    Calls Try.prog 26 #[.agg #[.string t, u1], .agg #[.string t, u2]] w fun e w' => e = .returned (.bool true) ∧ Below w.heap.size w w' := by
  have CE := hide (fun W (g1 : SpRow W B1 u1 L) (g2 : SpRow W B2 u2 L) => eqSpans u1 u2 L B1 B2 W g1 g2 hL)
  have H1 := hide h1
  have H2 := hide h2
  obtain ⟨a1, c1, rfl, _⟩ := h1.form
  obtain ⟨a2, c2, rfl, _⟩ := h2.form
  clear h1 h2
  have B0 := hide (((Below.refl w.heap.size w).alloc (Nat.le_refl _) (.cells #[.string t, .slice a1 L.length c1] 36)).alloc (by simp) (.cells #[.string t, .slice a2 L.length c2] 36))
  go_enter Try.func26, Try.ntmps26
  go_wp2_with (go_at_call 39; refine ((unhide CE) _ ((unhide H1).below (unhide B0)) ((unhide H2).below (unhide B0))).mono ?_; rintro e w2 ⟨rfl, hb2⟩; have B2 := hide ((unhide B0).trans (hb2.mono (unhide B0).size)); clear hb2)
  go_ret
  exact ⟨rfl, unhide B2⟩
set_option maxRecDepth 100000 in
set_option maxHeartbeats 4000000 in
theorem eqEntries_any (v1 v2 : Value) (E : List En) (B1 B2 : Nat) (w : World) (h1 : EnAt (Rr B1) w v1 E) (h2 : EnAt (Rr B2) w v2 E) (hl : E.length ≤ 1048576) (hs : ∀ i, i < E.length → (ge E i).2.length ≤ 1048576) :
    Calls Try.prog 16 #[v1, v2] w fun e w' => e = .returned (.bool true) ∧ Below w.heap.size w w' := by
  obtain ⟨a1, c1, rfl, hg1⟩ := h1
  obtain ⟨a2, c2, rfl, hg2⟩ := h2
  have G1 := hide hg1
  have G2 := hide hg2
  have HS := hide hs
  clear hg1 hg2 hs
  have hne : ((E.length : Int) != (E.length : Int)) = false := by simp
  go_enter Try.func16, Try.ntmps16
  go_wp2
  go_loopw [5] (fun i wr => ∃ k : Nat, k ≤ E.length ∧ i = .int .i64 k ∧ Hid (Below w.heap.size w wr)) (fun i _ => E.length - (intOf i).toNat)
  case atStart => exact ⟨0, Nat.zero_le _, rfl, hide (Below.refl _ _)⟩
  case round =>
    obtain ⟨k, hk, rfl, HB⟩ := hrel
    by_cases hlt : k < E.length
    · rcases unhide G1 with h' | ⟨b1, o1, rfl, hb1, hc1⟩
      · rw [h'] at hlt; simp at hlt
      rcases unhide G2 with h' | ⟨b2, o2, rfl, hb2, hc2⟩
      · rw [h'] at hlt; simp at hlt
      obtain ⟨x1, u1, y1, r1⟩ := hc1 k hlt
      obtain ⟨x2, u2, y2, r2⟩ := hc2 k hlt
      have d1 := ((unhide HB).cell (p := ⟨b1, o1 + k * 2, none⟩) hb1).trans x1
      have e1 := ((unhide HB).cell (p := ⟨b1, o1 + k * 2 + 1, none⟩) hb1).trans y1
      have d2 := ((unhide HB).cell (p := ⟨b2, o2 + k * 2, none⟩) hb2).trans x2
      have e2 := ((unhide HB).cell (p := ⟨b2, o2 + k * 2 + 1, none⟩) hb2).trans y2
      have I1 := hide (keepR B1 _ _ _ _ (keepR B1 _ _ _ _ r1 (unhide HB)) (drew_below wr))
      have I2 := hide (keepR B2 _ _ _ _ (keepR B2 _ _ _ _ r2 (unhide HB)) (drew_below wr))
      have CE := hide (fun W g1 g2 => eqEntry_any (ge E k).1 u1 u2 (ge E k).2 B1 B2 W g1 g2 ((unhide HS) k hlt))
      have hlt' : (k : Int) < (E.length : Int) := by omega
      have h0k : (0 : Int) ≤ (k : Int) := by omega
      clear x1 x2 y1 y2 r1 r2 hc1 hc2
      generalize (ge E k).1 = t at *
      generalize (ge E k).2 = L at *
      go_wp2_with fail
      go_region_with (go_at_call 26; refine ((unhide CE) _ (unhide I1) (unhide I2)).mono ?_; rintro e w2 ⟨rfl, hb2⟩)
      all_goals
        have HB' := hide ((unhide HB).trans (((drew_below wr).trans hb2).mono (unhide HB).size))
        clear hb2
        go_wp2
        go_roundw
        case rel => exact ⟨k + 1, by omega, by go_num, HB'⟩
        case measure => simp [intOf]; omega
    · go_wp2
      go_ret
      exact ⟨rfl, unhide HB⟩
/-- Entries stay where no block of theirs has changed. -/
theorem EnAt.kept {B b n c : Nat} {w w' : World} {E : List En} (h : EnAt (Rr B) w (.slice (some ⟨b, 0, none⟩) n c) E) (hs : w.heap.size ≤ w'.heap.size) (hB : B ≤ b) (hk : ∀ k, B ≤ k → w'.heap[k]? = w.heap[k]?) : EnAt (Rr B) w' (.slice (some ⟨b, 0, none⟩) n c) E := by
  obtain ⟨a, cap, e, h⟩ := h
  refine ⟨a, cap, e, ?_⟩
  rcases h with h | ⟨b', off, rfl, hbs, hc⟩
  · exact .inl h
  · have eb : b = b' := by injection e with e1; injection e1 with e2; injection e2
    subst eb
    refine .inr ⟨b, off, rfl, Nat.lt_of_lt_of_le hbs hs, fun i hi => ?_⟩
    obtain ⟨c1, u, c2, hu⟩ := hc i hi
    refine ⟨(World.cell?_of_block (a := ⟨b, off + i * 2, none⟩) (hk b hB)).trans c1, u, (World.cell?_of_block (a := ⟨b, off + i * 2 + 1, none⟩) (hk b hB)).trans c2, ?_⟩
    refine ownsRow_at hu fun k hk' => hk k ?_
    rcases hu.2 with ⟨rfl, _⟩ | ⟨g', cap', cur, rfl, hg, _⟩
    · cases hk'
    · cases hk'
      exact hg
theorem three_cells {w : World} {g : Nat} {a b c : Value} {T : TypeId} (h : w.heap[g]? = some (.cells #[a, b, c] T (0, 0))) : w.cell? ⟨g, 0, none⟩ = some a ∧ w.cell? ⟨g, 1, none⟩ = some b ∧ w.cell? ⟨g, 2, none⟩ = some c ∧ w.frozen? ⟨g, 0, none⟩ = false ∧ w.frozen? ⟨g, 1, none⟩ = false ∧ w.frozen? ⟨g, 2, none⟩ = false := by
  simp [World.cell?, World.frozen?, h]
end Go.Proofs.Ytgcpdpkkobkamaa.Col
