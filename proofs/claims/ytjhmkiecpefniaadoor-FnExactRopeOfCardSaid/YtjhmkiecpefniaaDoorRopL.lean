/- The law of RopeOf. -/
import Derived.Test.YtjhmkiecpefniaaDoorRopU
namespace Go.Proofs.YtjhmkiecpefniaaDoor.Rop
open Go.RowKit
set_option linter.unusedVariables false
set_option maxRecDepth 100000 in
theorem specLong (t : ByteArray) (w : World) (hs : 65536 < t.size) (hm : t.size ≤ 1048576) :
    Calls Tryd.prog 9 #[.string t] w fun e w' => ∃ v, e = .returned (.agg #[v, .slice none 0 0]) ∧ Ny w.heap.size w' v [] ∧ Below w.heap.size w w' := by
  have hle : (65536 : Int) < (t.size : Int) := by omega
  go_enter Tryd.func9, Tryd.ntmps9
  go_wp2
  refine bodyPost_ret (v := .agg #[.slice none 0 0, .slice none 0 0]) (by simp [results, Tryd.results9, go_sem]) rfl ⟨_, rfl, World.ownsRow_nil _ _ _ _, ?_⟩
  first
    | exact (Below.refl _ _).alloc (Nat.le_refl _) _
    | exact (((Below.refl w.heap.size w).alloc (Nat.le_refl _) _).setCell (p := ⟨w.heap.size, 0, none⟩) (Nat.le_refl _) _).setCell (p := ⟨w.heap.size, 1, none⟩) (Nat.le_refl _) _
set_option maxRecDepth 100000 in
theorem implLong (t : ByteArray) (w : World) (hs : 65536 < t.size) (hm : t.size ≤ 1048576) :
    Calls Tryd.prog 10 #[.string t] w fun e w' => ∃ v, e = .returned (.agg #[v, .slice none 0 0]) ∧ Ny w.heap.size w' v [] ∧ Below w.heap.size w w' := by
  have hle : (65536 : Int) < (t.size : Int) := by omega
  have CI : Hid (∀ W, Calls Tryd.prog 27 #[.string t] W fun e w' => e = .returned (.bool true) ∧ w' = W) := hide (fun W => by
    go_enter Tryd.func27, Tryd.ntmps27
    go_wp2
    go_ret
    exact ⟨rfl, rfl⟩)
  go_enter Tryd.func10, Tryd.ntmps10
  go_wp2_with (go_at_call 27; refine ((unhide CI) _).mono ?_; rintro e w' ⟨rfl, hw⟩; obtain rfl := hw.symm; clear hw)
  refine bodyPost_ret (v := .agg #[.slice none 0 0, .slice none 0 0]) (by simp [results, Tryd.results10, go_sem]) rfl ⟨_, rfl, World.ownsRow_nil _ _ _ _, ?_⟩
  first
    | exact (Below.refl _ _).alloc (Nat.le_refl _) _
    | exact (((Below.refl w.heap.size w).alloc (Nat.le_refl _) _).setCell (p := ⟨w.heap.size, 0, none⟩) (Nat.le_refl _) _).setCell (p := ⟨w.heap.size, 1, none⟩) (Nat.le_refl _) _
/-- Both answer one list. -/
theorem both (t : ByteArray) (hm : t.size ≤ 1048576) : ∃ L : List Nd, L.length ≤ 200000 ∧
    (∀ w, Calls Tryd.prog 9 #[.string t] w fun e w' => ∃ v, e = .returned (.agg #[v, .slice none 0 0]) ∧ Ny w.heap.size w' v L ∧ Below w.heap.size w w') ∧
    (∀ w, TabD w → Calls Tryd.prog 10 #[.string t] w fun e w' => ∃ v, e = .returned (.agg #[v, .slice none 0 0]) ∧ Ny w.heap.size w' v L ∧ Below w.heap.size w w') := by
  by_cases hs : t.size ≤ 65536
  · obtain ⟨T, hT⟩ := isTr_exists t.size t (Nat.le_refl _)
    refine ⟨nds T 0, by rw [nds_len]; have := hT.count.1; omega, fun w => specRope t T hT w hs, fun w hw => implRope t T hT w hs hw⟩
  · exact ⟨[], by simp, fun w => specLong t w (by omega) hm, fun w hw => implLong t w (by omega) hm⟩
/-- What lies while the law goes on. -/
structure Sl (W : World) (b3 b4 Bs Bg : Nat) (vS vG : Value) (L M : List Nd) : Prop where
  c3 : W.heap[b3]? = some (.cells #[vS, .slice none 0 0] 25 (0, 0))
  c4 : W.heap[b4]? = some (.cells #[vG, .slice none 0 0] 25 (0, 0))
  s : Ny Bs W vS L
  g : Ny Bg W vG M
theorem Sl.below {W W' : World} {b3 b4 Bs Bg : Nat} {vS vG : Value} {L M : List Nd} (h : Sl W b3 b4 Bs Bg vS vG L M) (hb : Below W.heap.size W W') : Sl W' b3 b4 Bs Bg vS vG L M :=
  ⟨(hb.block _ (Array.getElem?_eq_some_iff.1 h.c3).1).trans h.c3, (hb.block _ (Array.getElem?_eq_some_iff.1 h.c4).1).trans h.c4, ownsRow_below h.s hb, ownsRow_below h.g hb⟩
set_option maxRecDepth 100000 in
set_option maxHeartbeats 4000000 in
theorem lawRopeOf (t : ByteArray) (w : World) (hT : TabD w) : Calls Tryd.prog 3 #[.string t] w fun e w' => e = .returned (.bool true) ∧ Below w.heap.size w w' := by
  by_cases hm : t.size ≤ 1048576
  · obtain ⟨L, hL, cS, cI⟩ := both t hm
    have hle : ¬ (1048576 : Int) < (t.size : Int) := by omega
    have CS := hide cS
    have CI := hide cI
    have HT := hide hT
    clear cS cI hT
    go_enter Tryd.func3, Tryd.ntmps3
    go_wp2_with fail
    refine ((unhide CS) _).mono ?_
    rintro e w1 ⟨vS, rfl, oS, b1⟩
    have OS := hide oS
    have B1 := hide b1
    obtain ⟨aS, kS, rfl⟩ := own_formN oS
    clear oS b1 CS
    go_wp2_with fail
    obtain ⟨w1', hw1⟩ : ∃ w1', w1' = w1.alloc (.cells #[.slice aS L.length kS, .slice none 0 0] 25) := ⟨_, rfl⟩
    have X1 : Hid (Below w1.heap.size w1 w1') := hide (by rw [hw1]; exact (Below.refl _ _).alloc (Nat.le_refl _) _)
    have Z1 : Hid (w1'.heap.size = w1.heap.size + 1) := hide (by rw [hw1]; simp)
    have N1 : Hid (w1'.heap[w1.heap.size]? = some (.cells #[.slice aS L.length kS, .slice none 0 0] 25 (0, 0))) := hide (by rw [hw1]; exact heap_alloc_new _ _)
    rw [← hw1]
    clear hw1
    have B1' := hide ((unhide B1).trans ((unhide X1).mono (unhide B1).size))
    refine ((unhide CI) _ ((unhide HT).below (unhide B1'))).mono ?_
    rintro e w2 ⟨vG, rfl, oG, b2⟩
    have OG := hide oG
    have B2 := hide b2
    obtain ⟨aG, kG, rfl⟩ := own_formN oG
    clear oG b2
    obtain ⟨w3, hw3⟩ : ∃ w3, w2.alloc (.cells #[.slice aG L.length kG, .slice none 0 0] 25) = w3 := ⟨_, rfl⟩
    have X3 : Hid (Below w2.heap.size w2 w3) := hide (by rw [← hw3]; exact (Below.refl _ _).alloc (Nat.le_refl _) _)
    have Z3 : Hid (w3.heap.size = w2.heap.size + 1) := hide (by rw [← hw3]; simp)
    have S3 : Hid (Sl w3 w1.heap.size w2.heap.size w.heap.size w1'.heap.size (.slice aS L.length kS) (.slice aG L.length kG) L L) := hide (by
      have z1 := unhide Z1
      have z2 := (unhide B2).size
      have y : Below w1'.heap.size w1' w3 := (unhide B2).trans ((unhide X3).mono z2)
      refine ⟨(y.block _ (by omega)).trans (unhide N1), ?_, ownsRow_below (ownsRow_below (unhide OS) (unhide X1)) y, ownsRow_below (unhide OG) (unhide X3)⟩
      rw [← hw3]; exact heap_alloc_new _ _)
    have B3 : Hid (Below w.heap.size w w3) := hide ((unhide B1').trans (((unhide B2).trans ((unhide X3).mono (unhide B2).size)).mono (unhide B1').size))
    have HW : Hid (w.heap.size ≤ w1.heap.size) := hide (unhide B1).size
    have HD : Hid (w1.heap.size < w1'.heap.size ∧ w1'.heap.size ≤ w2.heap.size) := hide ⟨by have := unhide Z1; omega, (unhide B2).size⟩
    have HLS := hide (fun k (e : (Value.slice aS L.length kS).ownBlock = some k) => (World.ownsRow.lt (unhide OS) k e).2)
    have HLG := hide (fun k (e : (Value.slice aG L.length kG).ownBlock = some k) => (World.ownsRow.lt (unhide OG) k e))
    have p30 : ∀ o, (w2.alloc o).cell? ⟨w1.heap.size, 0, none⟩ = some (.slice aS L.length kS) := fun o => cell_allocA (((unhide B2).cell (p := ⟨w1.heap.size, 0, none⟩) (unhide HD).1).trans (two_cellsR (unhide N1)).1) o
    have p31 : ∀ o, (w2.alloc o).cell? ⟨w1.heap.size, 1, none⟩ = some (.slice none 0 0) := fun o => cell_allocA (((unhide B2).cell (p := ⟨w1.heap.size, 1, none⟩) (unhide HD).1).trans (two_cellsR (unhide N1)).2.1) o
    have HW3 := hide hw3
    clear hw3 X1 Z1 N1 B1' B2 OS OG X3 Z3 B1
    go_wp2_with fail
    rw [unhide HW3]
    clear HW3 p30 p31
    generalize hb3 : w1.heap.size = b3 at *
    generalize hb4 : w2.heap.size = b4 at *
    generalize hBg : w1'.heap.size = Bg at *
    clear hb3 hb4 hBg
    refine (eqRopeI _ _ _ _ L w3 (unhide S3).g (unhide S3).s hL).mono ?_
    rintro e w4 ⟨rfl, b4'⟩
    have S4 := hide ((unhide S3).below b4')
    have B4 := hide ((unhide B3).trans (b4'.mono (unhide B3).size))
    clear b4' S3 B3
    obtain ⟨p40, p41, _, _⟩ := two_cellsR (unhide S4).c4
    go_wp2_with fail
    refine (markRopeI _ _ L w4 (unhide S4).g hL).mono ?_
    rintro e w5 ⟨rfl, o5, g5⟩
    have S5 : Hid (Sl w5 b3 b4 w.heap.size Bg (.slice aS L.length kS) (.slice aG L.length kG) L (mkL 1 L.length)) := hide (by
      obtain ⟨h1, h2⟩ := unhide HD
      have n3 : some b3 ≠ (Value.slice aG L.length kG).ownBlock := fun e => by have := ((unhide HLG) b3 e.symm).1; omega
      have n4 : some b4 ≠ (Value.slice aG L.length kG).ownBlock := fun e => by have := ((unhide HLG) b4 e.symm).2; omega
      refine ⟨(g5.block _ (Array.getElem?_eq_some_iff.1 (unhide S4).c3).1 n3).trans (unhide S4).c3, (g5.block _ (Array.getElem?_eq_some_iff.1 (unhide S4).c4).1 n4).trans (unhide S4).c4, ?_, o5⟩
      refine World.ownsRow.kept (unhide S4).s g5 ?_
      cases hv : (Value.slice aS L.length kS).ownBlock with
      | none => exact .inl rfl
      | some k =>
        refine .inr fun e => ?_
        have a := (unhide HLS) k hv
        have b := ((unhide HLG) k e.symm).1
        omega)
    have B5 : Hid (Below w.heap.size w w5) := hide ((unhide B4).grown g5 (unhide B4).size (fun k e => by have := ((unhide HLG) k e).1; have := unhide HD; have := unhide HW; omega))
    clear o5 g5 S4 B4 p40 p41
    obtain ⟨p40, p41, _, _⟩ := two_cellsR (unhide S5).c4
    go_wp2_with fail
    refine (heldRopeI _ _ _ w5 (unhide S5).g hL).mono ?_
    rintro e w6 ⟨rfl, b6⟩
    have S6 := hide ((unhide S5).below b6)
    have B6 := hide ((unhide B5).trans (b6.mono (unhide B5).size))
    clear b6 S5 B5 p40 p41
    have hm0 : ¬ ((1 + 5 * L.length : Nat) : Int) < 0 := by omega
    generalize hmm : 1 + 5 * L.length = m at *
    go_wp2_with fail
    refine ((unhide CI) _ ((unhide HT).below (unhide B6))).mono ?_
    rintro e w7 ⟨vH, rfl, oH, b7⟩
    obtain ⟨aH, kH, rfl⟩ := own_formN oH
    have p30 : ∀ o, (w7.alloc o).cell? ⟨b3, 0, none⟩ = some (.slice aS L.length kS) := fun o => cell_allocA (two_cellsR ((unhide S6).below b7).c3).1 o
    have p31 : ∀ o, (w7.alloc o).cell? ⟨b3, 1, none⟩ = some (.slice none 0 0) := fun o => cell_allocA (two_cellsR ((unhide S6).below b7).c3).2.1 o
    obtain ⟨w8, hw8⟩ : ∃ w8, w7.alloc (.cells #[.slice aH L.length kH, .slice none 0 0] 25) = w8 := ⟨_, rfl⟩
    have x8 : Below w7.heap.size w7 w8 := by rw [← hw8]; exact (Below.refl _ _).alloc (Nat.le_refl _) _
    have y8 : Below w6.heap.size w6 w8 := b7.trans (x8.mono b7.size)
    have S8 := hide ((unhide S6).below y8)
    have B8 := hide ((unhide B6).trans (y8.mono (unhide B6).size))
    have O8 := hide (show Ny w6.heap.size w8 _ L from ownsRow_below oH x8)
    have HW8 := hide hw8
    clear hw8 oH b7 x8 y8 S6 B6 CI HT
    go_wp2_with fail
    rw [unhide HW8]
    clear HW8 p30 p31
    refine (eqRopeI _ _ _ _ L w8 (unhide O8) (unhide S8).s hL).mono ?_
    rintro e w9 ⟨rfl, b9⟩
    have S9 := hide ((unhide S8).below b9)
    have B9 := hide ((unhide B8).trans (b9.mono (unhide B8).size))
    clear b9 S8 B8 O8
    obtain ⟨p40, p41, _, _⟩ := two_cellsR (unhide S9).c4
    have CH := hide (heldRopeI _ _ _ w9 (unhide S9).g hL)
    rw [hmm] at CH
    go_wp2_with (go_at_call 13; refine (unhide CH).mono ?_; rintro e w10 ⟨rfl, b10⟩; have B10 := hide ((unhide B9).trans (b10.mono (unhide B9).size)); clear b10)
    go_ret
    exact ⟨rfl, unhide B10⟩
  · have hle : (1048576 : Int) < (t.size : Int) := by omega
    go_enter Tryd.func3, Tryd.ntmps3
    go_wp2
    go_ret
    exact ⟨rfl, Below.refl _ _⟩
end Go.Proofs.YtjhmkiecpefniaaDoor.Rop
