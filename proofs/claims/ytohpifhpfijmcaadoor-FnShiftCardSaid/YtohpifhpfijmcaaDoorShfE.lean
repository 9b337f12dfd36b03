/- EncodeShift of the program. -/
import Derived.Test.YtohpifhpfijmcaaDoorShfI
namespace Go.Proofs.YtohpifhpfijmcaaDoor
open Go.RowKit
theorem store3 {w : World} {R : Nat} {a b c : Value} (h : w.heap[R]? = some (.cells #[a, b, c] 25)) :
    w.cell? ⟨R, 0, none⟩ = some a ∧ w.cell? ⟨R, 1, none⟩ = some b ∧ w.cell? ⟨R, 2, none⟩ = some c ∧ w.frozen? ⟨R, 0, none⟩ = false ∧ w.frozen? ⟨R, 1, none⟩ = false ∧ w.frozen? ⟨R, 2, none⟩ = false := by
  refine ⟨?_, ?_, ?_, ?_, ?_, ?_⟩ <;> simp [World.cell?, World.frozen?, h]
theorem leg_cells {w : World} {R : Nat} {a b c : Value} (h : w.heap[R]? = some (.cells #[a, b, c] 25)) (x y z : Value) :
    (w.setCell ⟨R, 0, none⟩ x).cell? ⟨R, 0, none⟩ = some x ∧ ((w.setCell ⟨R, 0, none⟩ x).setCell ⟨R, 1, none⟩ y).cell? ⟨R, 1, none⟩ = some y ∧ (((w.setCell ⟨R, 0, none⟩ x).setCell ⟨R, 1, none⟩ y).setCell ⟨R, 2, none⟩ z).cell? ⟨R, 2, none⟩ = some z := by
  have h1 := heap_setCell_same w R 0 _ 25 x h
  have h2 := heap_setCell_same _ R 1 _ 25 y h1
  have h3 := heap_setCell_same _ R 2 _ 25 z h2
  exact ⟨(store3 h1).1, (store3 h2).2.1, (store3 h3).2.2.1⟩
theorem below_set3 {a w : World} {R : Nat} (h : Below R a w) (x y z : Value) : Below R a (((w.setCell ⟨R, 0, none⟩ x).setCell ⟨R, 1, none⟩ y).setCell ⟨R, 2, none⟩ z) :=
  ((h.setCell (p := ⟨R, 0, none⟩) (Nat.le_refl _) x).setCell (p := ⟨R, 1, none⟩) (Nat.le_refl _) y).setCell (p := ⟨R, 2, none⟩) (Nat.le_refl _) z
theorem stF_lay {st p : Int} (_hp : 0 ≤ p) (h : stF st p ≠ -1) : (p < 32 ∨ stF st p = 0 ∧ p ≤ 126) ∨ (32 ≤ p ∧ 1 ≤ stF st p ∧ stF st p ≤ 3 ∧ p % 256 < 96) ∨ (stF st p = 4 ∧ 24576 ≤ p ∧ p ≤ 26623) := by
  unfold stF at *
  by_cases h27 : p = 27
  · rw [if_pos h27] at h; omega
  rw [if_neg h27] at h ⊢
  by_cases h32 : p < 32
  · exact .inl (.inl h32)
  rw [if_neg h32] at h ⊢
  by_cases h126 : p ≤ 126
  · rw [if_pos h126]; exact .inl (.inr ⟨rfl, h126⟩)
  rw [if_neg h126] at h ⊢
  by_cases hs : 512 ≤ p ∧ p < 1280 ∧ p % 256 < 96
  · rw [if_pos hs]; exact .inr (.inl ⟨by omega, by omega, by omega, hs.2.2⟩)
  rw [if_neg hs] at h ⊢
  by_cases hi : 24576 ≤ p ∧ p ≤ 26623
  · rw [if_pos hi]; exact .inr (.inr ⟨rfl, hi.1, hi.2⟩)
  rw [if_neg hi] at h; omega
/-- What holds in every round. -/
def ERow (s : ByteArray) (w wr : World) (K : Nat) (n pos : Nat) (L R out : List Int) (st : Int) (v : Value) : Prop :=
  steps s n = (L, pos) ∧ pts s = L ++ R ∧ shAns (pts s) = shGo out st L.length R ∧ out.length ≤ 4 * L.length ∧ wr.heap[K]? = some (.stringIter s pos) ∧ wr.ownsRow w.heap.size 5 1 v out.length (out.map (Value.int .u8)) ∧ Below w.heap.size w wr ∧ wr.heap[w.heap.size]? = some (.cells #[.int .i64 0, .int .i64 0, .string (strOfNums [])] 25)
set_option maxHeartbeats 4000000 in
set_option maxRecDepth 100000 in
theorem iEncShift (s : ByteArray) (w : World) (hs : s.size ≤ 65536) (ht : TabAt w) :
    Calls Tryd.prog 8 #[.string s] w fun e w' => e = .returned (legV (shAns (pts s))) ∧ Below w.heap.size w w' := by
  obtain ⟨i0, hi, hz0, hz1, hz2⟩ := info_parts info5
  have HT := hide ht
  clear ht
  go_enter Tryd.func8, Tryd.ntmps8
  go_wp2_with (at_make; refine wpList_make_own _ rfl _ _ 22 rfl w.heap.size 5 i0 (.int .u8 0) 1 Tryd.underlying22 hi hz0 hz1 .i64 .i64 _ s.size rfl rfl rfl ?b2 ?b3 ?b4 ?_)
  case b2 => rw [hz2]; omega
  case b3 => unfold maxLen; omega
  case b4 => simp
  intro w1 hown hgrow
  have hw1 : w.heap.size + 1 ≤ w1.heap.size := by have := (made_below hgrow).size; simpa using this
  have hbl := ((Below.refl w.heap.size w).alloc (Nat.le_refl _) (.cells #[.int .i64 0, .int .i64 0, .string (strOfNums [])] 25)).trans ((made_below hgrow).mono (by simp))
  have hcl : w1.heap[w.heap.size]? = some (.cells #[.int .i64 0, .int .i64 0, .string (strOfNums [])] 25) := ((made_below hgrow).block _ (by simp)).trans (heap_alloc_new _ _)
  have HE0 : Hid (ERow s w (w1.iter s 0) w1.heap.size 0 0 [] (pts s) [] 0 (.slice (some ⟨w.heap.size + 1, 0, none⟩) 0 s.size)) := hide ⟨rfl, rfl, rfl, by simp, World.iter_heap w1 s 0, owned_alloc hown _, hbl.alloc (by omega) _, (Below.heap_alloc w1 _ _ (by omega)).trans hcl⟩
  clear hown hgrow hbl hcl
  go_wp2
  go_loopw [3, 4, 5] (fun v x c wr => ∃ (n pos : Nat) (L R out : List Int) (st : Int), x = .int .i64 st ∧ c = .int .i64 L.length ∧ 0 ≤ st ∧ st ≤ 4 ∧ pos ≤ s.size ∧ L.length ≤ pos ∧ Hid (ERow s w wr w1.heap.size n pos L R out st v)) (fun _ _ _ wr => s.size - wr.iterPos w1.heap.size)
  case atStart => exact ⟨0, 0, [], pts s, [], 0, rfl, rfl, by omega, by omega, by omega, by simp, HE0⟩
  case round =>
    obtain ⟨n, pos, L, R, out, st, rfl, rfl, hst0, hst4, hpos, hL, HE⟩ := hrel
    clear HE0
    obtain ⟨hS, hR, hA, hO4, hI, hO, hB, hC⟩ := unhide HE
    have HM := hide (iterPos_of hI)
    have hBs := hB.size
    by_cases hlt : pos < s.size
    · have hbd := dN_bd s pos hlt
      have d1 := hbd.1
      have d2 := hbd.2.1
      have d3 := hbd.2.2
      obtain ⟨R', rfl⟩ := pts_left hS hlt hR
      have hS' := pts_step hS hlt
      have hnx : ∀ ty, (Instr.next (.pointer (some ⟨w1.heap.size, 0, none⟩)) true ty).run Tryd.prog wr = .ok (.tuple #[.bool true, .int .i64 pos, .int .i32 (dP s pos)]) (wr.iterAt w1.heap.size s (pos + dN s pos)) := fun ty => Lib.run_next_any_at wr _ s pos ty hI hlt
      obtain ⟨w2, hw2⟩ : ∃ w2, wr.iterAt w1.heap.size s (pos + dN s pos) = w2 := ⟨_, rfl⟩
      rw [hw2] at hnx
      have hI2 : w2.heap[w1.heap.size]? = some (.stringIter s (pos + dN s pos)) := by rw [← hw2]; exact Lib.iterAt_heap wr _ s pos _ hI
      have hO2 := owned_iterAt hO hI (pos + dN s pos)
      rw [hw2] at hO2
      have hB2 : Below w.heap.size w w2 := by rw [← hw2]; exact Lib.below_iterAt hB (by omega) _ _
      have hC2 : w2.heap[w.heap.size]? = some (.cells #[.int .i64 0, .int .i64 0, .string (strOfNums [])] 25) := by rw [← hw2]; exact (Lib.iterAt_other wr _ _ s _ (by omega)).trans hC
      obtain ⟨p, hp⟩ : ∃ p : Int, (dP s pos : Int) = p := ⟨_, rfl⟩
      have hp0 : 0 ≤ p := by omega
      have hp1 : p ≤ 1114111 := by omega
      rw [hp] at hnx hA hR hS'
      have HS' := hide hS'
      have HR := hide hR
      have HA := hide hA
      have HI2 := hide hI2
      have HO2 := hide hO2
      have HB2 := hide hB2
      have HC2 := hide hC2
      have hw2s := hB2.size
      clear hbd hw2 hS hI hO hB hC hS' hR hA hI2 hO2 hB2 hC2 HE hp
      go_wp2_with fail
      refine (stFor_any st p hp0 hp1 _ ((unhide HT).below (unhide HB2))).mono ?_
      rintro e w3 ⟨rfl, hb3⟩
      have HI3 := hide ((hb3.block _ (Array.getElem?_eq_some_iff.1 (unhide HI2)).1).trans (unhide HI2))
      have HC3 := hide ((hb3.block _ (Array.getElem?_eq_some_iff.1 (unhide HC2)).1).trans (unhide HC2))
      have HO3 := hide (ownsRow_below (unhide HO2) hb3)
      have HB3 := hide ((unhide HB2).trans (hb3.mono hw2s))
      have hw3s := (unhide HB3).size
      clear hb3 HI2 HC2 HO2 HB2
      by_cases hn : stF st p = -1
      · have hq : (stF st p == -1) = true := by rw [beq_iff_eq]; exact hn
        have HA2 : Hid (shAns (pts s) = (5, (L.length : Int), [])) := hide (by rw [unhide HA, shGo_not hn])
        obtain ⟨c0, c1, c2, z0, z1, z2⟩ := store3 (unhide HC3)
        obtain ⟨p0, p1, p2⟩ := leg_cells (unhide HC3) (.int .i64 5) (.int .i64 L.length) (.string { data := #[] })
        clear hn HA
        go_wp2
        try simp only [Exit.inBlock, Exit.then]
        refine bodyPost_ret (by simp [results, Tryd.results8, go_sem, p0, p1, p2]; try rfl) rfl ?_
        exact ⟨by rw [unhide HA2]; rfl, below_set3 (unhide HB3) _ _ _⟩
      · have hq : (stF st p == -1) = false := by rw [beq_eq_false_iff_ne]; exact hn
        have hnb := stF_bd hst0 hst4 hp0 hn
        have hnl := hide (stF_lay hp0 hn)
        have HA2 := hide ((unhide HA).trans (shGo_one hn))
        have HN := hide hn
        clear hn HA
        generalize stF st p = nx at *
        have hn0 := hnb.1
        have hn4 := hnb.2
        have ls1 := layS_len st nx
        have lp1 := layP_len nx p
        clear hnb
        go_wp2_with fail
        refine (layState_any w.heap.size _ out st nx hn0 hn4 _ (unhide HO3) (by omega) (by omega)).mono ?_
        rintro e w4 ⟨v4, rfl, ho4, hb4, hk4⟩
        have HO4 := hide ho4
        have HB4 := hide ((unhide HB3).trans hb4)
        have HI4 := hide (hk4 _ _ (unhide HI3) (notRow_iter _ _))
        have HC4 := hide (hk4 _ _ (unhide HC3) (notRow80 _ _ (by decide)))
        have hw4s := (unhide HB4).size
        clear ho4 hb4 hk4 HO3 HB3 HI3 HC3
        have hl4 : (out ++ layS st nx).length ≤ 300000 := by rw [List.length_append]; omega
        go_wp2_with fail
        refine (layPoint_any w.heap.size _ (out ++ layS st nx) nx p hp0 (unhide hnl) _ (unhide HO4) (by omega) (by omega)).mono ?_
        rintro e w5 ⟨v5, rfl, ho5, hb5, hk5⟩
        have HB5 := hide ((unhide HB4).trans hb5)
        have HI5 := hide (hk5 _ _ (unhide HI4) (notRow_iter _ _))
        have HC5 := hide (hk5 _ _ (unhide HC4) (notRow80 _ _ (by decide)))
        have HM5 := hide (iterPos_of (unhide HI5))
        have HE5 : Hid (ERow s w w5 w1.heap.size (n + 1) (pos + dN s pos) (L ++ [p]) R' (out ++ layS st nx ++ layP nx p) (behind nx p) v5) := hide
          ⟨unhide HS', by rw [List.append_assoc]; exact unhide HR, by rw [List.length_append]; exact unhide HA2, by rw [List.length_append, List.length_append, List.length_append, List.length_singleton]; omega, unhide HI5, ho5, unhide HB5, unhide HC5⟩
        clear ho5 hb5 hk5 HO4 HB4 HI4 HC4 HI5 HC5 HB5 hl4
        have hbb := behind_bd (p := p) hn0 hn4
        by_cases h10 : p = 10
        · have hq10 : (p == 10) = true := by rw [beq_iff_eq]; exact h10
          have eb : behind nx p = 0 := by unfold behind; rw [if_pos h10]
          rw [eb] at HE5
          clear h10 eb hbb
          go_wp2
          go_roundw
          case rel =>
            have RR : ∃ (n pos : Nat) (L' R out : List Int) (st : Int), Value.int .i64 0 = .int .i64 st ∧ Value.int .i64 ((L.length : Int) + 1) = .int .i64 L'.length ∧ 0 ≤ st ∧ st ≤ 4 ∧ pos ≤ s.size ∧ L'.length ≤ pos ∧ Hid (ERow s w w5 w1.heap.size n pos L' R out st v5) :=
              ⟨n + 1, pos + dN s pos, L ++ [p], R', _, 0, rfl, by rw [List.length_append]; rfl, by omega, by omega, by omega, by simp; omega, HE5⟩
            first | exact RR | ((repeat apply Exists.intro); exact ⟨RR, rfl⟩)
          case measure => rw [unhide HM, unhide HM5]; omega
        · have hq10 : (p == 10) = false := by rw [beq_eq_false_iff_ne]; exact h10
          have eb : behind nx p = nx := by unfold behind; rw [if_neg h10]
          rw [eb] at HE5
          clear h10 eb hbb
          go_wp2
          go_roundw
          case rel =>
            have RR : ∃ (n pos : Nat) (L' R out : List Int) (st : Int), Value.int .i64 nx = .int .i64 st ∧ Value.int .i64 ((L.length : Int) + 1) = .int .i64 L'.length ∧ 0 ≤ st ∧ st ≤ 4 ∧ pos ≤ s.size ∧ L'.length ≤ pos ∧ Hid (ERow s w w5 w1.heap.size n pos L' R out st v5) :=
              ⟨n + 1, pos + dN s pos, L ++ [p], R', _, nx, rfl, by rw [List.length_append]; rfl, hn0, hn4, by omega, by simp; omega, HE5⟩
            first | exact RR | ((repeat apply Exists.intro); exact ⟨RR, rfl⟩)
          case measure => rw [unhide HM, unhide HM5]; omega
    · obtain rfl := pts_none hS hlt hR
      have HA2 : Hid (shAns (pts s) = legA (out ++ layS st 0)) := hide hA
      have hnx : ∀ ty, (Instr.next (.pointer (some ⟨w1.heap.size, 0, none⟩)) true ty).run Tryd.prog wr = .ok (.tuple #[.bool false]) wr := fun ty => Lib.run_next_end_at wr _ s pos ty hI hlt
      have HO := hide hO
      have HB := hide hB
      have HC := hide hC
      have ls1 := layS_len st 0
      clear hS hR hA hI hO hB hC HE
      go_wp2_with fail
      refine (layState_any w.heap.size _ out st 0 (by omega) (by omega) _ (unhide HO) (by omega) (by omega)).mono ?_
      rintro e w4 ⟨v4, rfl, ho4, hb4, hk4⟩
      have HO4 := hide ho4
      have HB4 := hide ((unhide HB).trans hb4)
      have HC4 := hide (hk4 _ _ (unhide HC) (notRow80 _ _ (by decide)))
      have hw4s := (unhide HB4).size
      have hl4 : (out ++ layS st 0).length ≤ 300000 := by rw [List.length_append]; omega
      clear ho4 hb4 hk4 HO HB HC
      go_wp2_with fail
      refine (legOut_any w.heap.size _ (out ++ layS st 0) _ (unhide HO4) (by omega)).mono ?_
      rintro e w3 ⟨rfl, hb3⟩
      have hc3 : w3.heap[w.heap.size]? = some (.cells #[.int .i64 0, .int .i64 0, .string (strOfNums [])] 25) := (hb3.block _ (Array.getElem?_eq_some_iff.1 (unhide HC4)).1).trans (unhide HC4)
      have HB3 := hide ((unhide HB4).trans (hb3.mono hw4s))
      generalize hx : legA (out ++ layS st 0) = x at *
      obtain ⟨x0, x1, x2⟩ := x
      obtain ⟨c0, c1, c2, z0, z1, z2⟩ := store3 hc3
      obtain ⟨p0, p1, p2⟩ := leg_cells hc3 (.int .i64 x0) (.int .i64 x1) (.string (strOfNums x2))
      clear hb3 hc3 hx HO4 HB4 HC4
      unfold legV
      go_wp2
      try simp only [Exit.inBlock, Exit.then]
      refine bodyPost_ret (by simp [results, Tryd.results8, go_sem, p0, p1, p2]; try rfl) rfl ?_
      exact ⟨by rw [unhide HA2]; rfl, below_set3 (unhide HB3) _ _ _⟩
end Go.Proofs.YtohpifhpfijmcaaDoor
