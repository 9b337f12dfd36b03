/- Tries as arguments: opened, copied, held against each other. -/
import Derived.Test.YtipnakpfjniiiaaDoorTfsA
import Derived.Test.YtipnakpfjniiiaaDoorMC
namespace Go.Proofs.YtipnakpfjniiiaaDoor
open Go.ChangeShapes Go.WideShapes Go.ChangeAt Go.RowKit Go.Deep
/-- Two cells of a box. -/
def Box (w : World) (g : Nat) (x y : Value) : Prop := (w.cell? ⟨g, 0, none⟩ = some x ∧ w.cell? ⟨g, 1, none⟩ = some y) ∧ w.frozen? ⟨g, 0, none⟩ = false ∧ w.frozen? ⟨g, 1, none⟩ = false
theorem Box.below {w w' : World} {g : Nat} {x y : Value} (h : Box w g x y) (hb : Below w.heap.size w w') : Box w' g x y := by
  have hg : g < w.heap.size := block_lt_of_cell (a := ⟨g, 0, none⟩) h.1.1
  have e := hb.block g hg
  exact ⟨⟨(World.cell?_of_block (a := ⟨g, 0, none⟩) e).trans h.1.1, (World.cell?_of_block (a := ⟨g, 1, none⟩) e).trans h.1.2⟩, (World.frozen?_of_block (a := ⟨g, 0, none⟩) e).trans h.2.1, (World.frozen?_of_block (a := ⟨g, 1, none⟩) e).trans h.2.2⟩
theorem Box.lt {w : World} {g : Nat} {x y : Value} (h : Box w g x y) : g < w.heap.size := block_lt_of_cell (a := ⟨g, 0, none⟩) h.1.1
theorem Box.new (w : World) (x y : Value) (t : TypeId) : Box (w.alloc (.cells #[x, y] t)) w.heap.size x y := ⟨box2 w x y t, by simp, by simp⟩
theorem Box.alloc {w : World} {g : Nat} {x y : Value} (h : Box w g x y) (o : Obj) : Box (w.alloc o) g x y := h.below ((Below.refl _ _).alloc (Nat.le_refl _) o)
theorem Box.other {w : World} {g g' j : Nat} {x y u : Value} (h : Box w g x y) (hne : g ≠ g') : Box (w.setCell ⟨g', j, none⟩ u) g x y := by
  have e : (w.setCell ⟨g', j, none⟩ u).heap[g]? = w.heap[g]? := heap_setCell_other w ⟨g', j, none⟩ g u hne
  exact ⟨⟨(World.cell?_of_block (a := ⟨g, 0, none⟩) e).trans h.1.1, (World.cell?_of_block (a := ⟨g, 1, none⟩) e).trans h.1.2⟩, (World.frozen?_of_block (a := ⟨g, 0, none⟩) e).trans h.2.1, (World.frozen?_of_block (a := ⟨g, 1, none⟩) e).trans h.2.2⟩
theorem Box.set0 {w : World} {g : Nat} {x y u : Value} (h : Box w g x y) : Box (w.setCell ⟨g, 0, none⟩ u) g u y :=
  ⟨⟨World.cell?_setCell_same _ _ _ h.1.1, (World.cell?_setCell_other _ _ _ _ (by simp)).trans h.1.2⟩, by rw [World.frozen?_setCell]; exact h.2.1, by rw [World.frozen?_setCell]; exact h.2.2⟩
theorem Box.set1 {w : World} {g : Nat} {x y u : Value} (h : Box w g x y) : Box (w.setCell ⟨g, 1, none⟩ u) g x u :=
  ⟨⟨(World.cell?_setCell_other _ _ _ _ (by simp)).trans h.1.1, World.cell?_setCell_same _ _ _ h.1.2⟩, by rw [World.frozen?_setCell]; exact h.2.1, by rw [World.frozen?_setCell]; exact h.2.2⟩
theorem DatAt.below {w w' : World} {v : Value} {l : List Int} (h : DatAt w w.heap.size v l) (hb : Below w.heap.size w w') : DatAt w' w'.heap.size v l := by
  obtain ⟨a, cap, e, hc, hd⟩ := h.same hb.block
  refine ⟨a, cap, e, hc, hd.imp_right ?_⟩
  rintro ⟨b, off, e2, hb', hcell⟩
  exact ⟨b, off, e2, by have := hb.size; omega, hcell⟩
theorem DatAt.set {w : World} {g n c R j : Nat} {u : Value} {l : List Int} (h : DatAt w w.heap.size (.slice (some ⟨g, 0, none⟩) n c) l) (hne : g ≠ R) : DatAt (w.setCell ⟨R, j, none⟩ u) (w.setCell ⟨R, j, none⟩ u).heap.size (.slice (some ⟨g, 0, none⟩) n c) l := by
  obtain ⟨a, cap, e, hc, hd⟩ := h
  refine ⟨a, cap, e, hc, hd.imp_right ?_⟩
  rintro ⟨b, off, e2, hb, hcell⟩
  have hgb : b = g := by
    rw [e2] at e
    simp only [Value.slice.injEq, Option.some.injEq, Addr.mk.injEq] at e
    exact e.1.1.symm
  refine ⟨b, off, e2, by simp; omega, fun i hi => ?_⟩
  exact (World.cell?_of_block (a := ⟨b, off + i, none⟩) (heap_setCell_other w ⟨R, j, none⟩ b u (by show b ≠ R; omega))).trans (hcell i hi)
theorem szInts_any (a : Option Addr) (n c : Nat) (m : Int) (hm : 0 ≤ m ∧ m ≤ 1048576) (w : World) (hn : n ≤ 9223372036854775807) :
    Calls Tryd.prog 57 #[.slice a n c, .int .i64 m] w fun e w' => e = .returned (.int .i64 (if m - (n : Int) < 0 then -1 else m - (n : Int))) ∧ w' = w := by
  by_cases h : m - (n : Int) < 0
  · go_enter Tryd.func57, Tryd.ntmps57
    go_wp2
    go_ret
    exact ⟨rfl, rfl⟩
  · go_enter Tryd.func57, Tryd.ntmps57
    go_wp2
    go_ret
    exact ⟨rfl, rfl⟩
/-- What is left behind the two rows. -/
def szL (n1 n2 : Nat) : Int := if (1048576 : Int) < n1 + n2 then -1 else 1048576 - n1 - n2
set_option maxHeartbeats 1000000 in
theorem szTrie_any (a1 a2 : Option Addr) (n1 c1 n2 c2 : Nat) (w : World) (h1 : n1 ≤ 9223372036854775807) (h2 : n2 ≤ 9223372036854775807) :
    Calls Tryd.prog 23 #[.agg #[.slice a1 n1 c1, .slice a2 n2 c2], .int .i64 1048576] w fun e w' => e = .returned (.int .i64 (szL n1 n2)) ∧ Below w.heap.size w w' := by
  have HB1 : Hid (∀ o, Below w.heap.size w (w.alloc o)) := hide (fun o => (Below.refl _ _).alloc (Nat.le_refl _) o)
  by_cases q1 : (1048576 : Int) - n1 < 0
  · have HS : Hid (szL n1 n2 = -1) := hide (by unfold szL; rw [if_pos (by omega)])
    go_enter Tryd.func23, Tryd.ntmps23
    go_wp2_with fail
    refine (szInts_any _ _ _ _ (by omega) _ h1).mono ?_
    rintro e w2 ⟨rfl, rfl⟩
    rw [if_pos (by omega)]
    go_wp2
    go_ret
    exact ⟨ret_int (unhide HS).symm, unhide HB1 _⟩
  · by_cases q2 : (1048576 : Int) - n1 - n2 < 0
    · have HS : Hid (szL n1 n2 = -1) := hide (by unfold szL; rw [if_pos (by omega)])
      go_enter Tryd.func23, Tryd.ntmps23
      go_wp2_with fail
      refine (szInts_any _ _ _ _ (by omega) _ h1).mono ?_
      rintro e w2 ⟨rfl, rfl⟩
      rw [if_neg (by omega)]
      go_wp2_with fail
      refine (szInts_any _ _ _ _ (by omega) _ h2).mono ?_
      rintro e w2 ⟨rfl, rfl⟩
      rw [if_pos (by omega)]
      go_wp2
      go_ret
      exact ⟨ret_int (unhide HS).symm, unhide HB1 _⟩
    · have HS : Hid (szL n1 n2 = 1048576 - n1 - n2) := hide (by unfold szL; rw [if_neg (by omega)])
      go_enter Tryd.func23, Tryd.ntmps23
      go_wp2_with fail
      refine (szInts_any _ _ _ _ (by omega) _ h1).mono ?_
      rintro e w2 ⟨rfl, rfl⟩
      rw [if_neg (by omega)]
      go_wp2_with fail
      refine (szInts_any _ _ _ _ (by omega) _ h2).mono ?_
      rintro e w2 ⟨rfl, rfl⟩
      rw [if_neg (by omega)]
      go_wp2
      go_ret
      exact ⟨ret_int (unhide HS).symm, unhide HB1 _⟩
set_option maxHeartbeats 2000000 in
theorem toTrie_any (a1 a2 : Option Addr) (c1 c2 : Nat) (ix dt : List Int) (w : World) (h1 : IntsAt w (.slice a1 ix.length c1) ix) (h2 : IntsAt w (.slice a2 dt.length c2) dt) (l1 : ix.length ≤ 1048576) (l2 : dt.length ≤ 1048576) :
    Calls Tryd.prog 24 #[.agg #[.slice a1 ix.length c1, .slice a2 dt.length c2]] w fun e w' => ∃ g1 g2, e = .returned (.agg #[.slice (some ⟨g1, 0, none⟩) ix.length ix.length, .slice (some ⟨g2, 0, none⟩) dt.length dt.length]) ∧ DatAt w' w'.heap.size (.slice (some ⟨g1, 0, none⟩) ix.length ix.length) ix ∧ DatAt w' w'.heap.size (.slice (some ⟨g2, 0, none⟩) dt.length dt.length) dt ∧ Below w.heap.size w w' := by
  have H1 := hide h1
  have H2 := hide h2
  clear h1 h2
  go_enter Tryd.func24, Tryd.ntmps24
  go_upto_region 2 with fail
  have bA := Box.new w (.slice a1 ix.length c1) (.slice a2 dt.length c2) 44
  have bR := Box.new (w.alloc (.cells #[.slice a1 ix.length c1, .slice a2 dt.length c2] 44)) (.slice none 0 0) (.slice none 0 0) 28
  have bO := Box.new ((w.alloc (.cells #[.slice a1 ix.length c1, .slice a2 dt.length c2] 44)).alloc (.cells #[.slice none 0 0, .slice none 0 0] 28)) (.slice none 0 0) (.slice none 0 0) 28
  have BA := hide ((bA.alloc (.cells #[.slice none 0 0, .slice none 0 0] 28)).alloc (.cells #[.slice none 0 0, .slice none 0 0] 28))
  have BR := hide (bR.alloc (.cells #[.slice none 0 0, .slice none 0 0] 28))
  have BO := hide bO
  have BW : Hid (Below w.heap.size w (((w.alloc (.cells #[.slice a1 ix.length c1, .slice a2 dt.length c2] 44)).alloc (.cells #[.slice none 0 0, .slice none 0 0] 28)).alloc (.cells #[.slice none 0 0, .slice none 0 0] 28))) := hide ((((Below.refl _ _).alloc (Nat.le_refl _) _).alloc (by simp) _).alloc (by simp; omega) _)
  clear bA bR bO
  simp only [World.size_alloc] at BA BR BO
  have hO : w.heap.size + 1 + 1 ≠ w.heap.size := by omega
  generalize ((w.alloc (.cells #[.slice a1 ix.length c1, .slice a2 dt.length c2] 44)).alloc (.cells #[.slice none 0 0, .slice none 0 0] 28)).alloc (.cells #[.slice none 0 0, .slice none 0 0] 28) = w1 at *
  obtain ⟨⟨x0, x1⟩, y0, y1⟩ := unhide BA
  have hs1 := (unhide BO).lt
  go_wp2_with fail
  refine (toInts _ ix _ ((unhide H1).below (unhide BW)) l1).mono ?_
  rintro e w2 ⟨rfl, ho, hb, hlt⟩
  have R1 : Hid (DatAt w2 w2.heap.size (.slice (some ⟨w1.heap.size, 0, none⟩) ix.length ix.length) ix) := hide (DatAt.owned ho)
  have BA2 := hide ((unhide BA).below hb)
  have BR2 := hide ((unhide BR).below hb)
  have BO2 := hide ((unhide BO).below hb)
  have BW2 := hide ((unhide BW).trans (hb.mono (unhide BW).size))
  clear ho hb x0 x1 y0 y1 BA BR BO BW
  obtain ⟨⟨x0, x1⟩, y0, y1⟩ := unhide BO2
  go_upto_region 3 with fail
  have R1' := hide ((unhide R1).set (R := w.heap.size + 1 + 1) (j := 0) (u := .slice (some ⟨w1.heap.size, 0, none⟩) ix.length ix.length) (by omega))
  have BA3 := hide ((unhide BA2).other (g' := w.heap.size + 1 + 1) (j := 0) (u := .slice (some ⟨w1.heap.size, 0, none⟩) ix.length ix.length) (by omega))
  have BR3 := hide ((unhide BR2).other (g' := w.heap.size + 1 + 1) (j := 0) (u := .slice (some ⟨w1.heap.size, 0, none⟩) ix.length ix.length) (by omega))
  have BO3 := hide ((unhide BO2).set0 (u := .slice (some ⟨w1.heap.size, 0, none⟩) ix.length ix.length))
  have BW3 := hide ((unhide BW2).setCell (p := ⟨w.heap.size + 1 + 1, 0, none⟩) (by show w.heap.size ≤ w.heap.size + 1 + 1; omega) (.slice (some ⟨w1.heap.size, 0, none⟩) ix.length ix.length))
  have hs3 : w2.heap.size ≤ (w2.setCell ⟨w.heap.size + 1 + 1, 0, none⟩ (.slice (some ⟨w1.heap.size, 0, none⟩) ix.length ix.length)).heap.size := by simp
  clear R1 BA2 BR2 BO2 BW2 x0 x1 y0 y1
  generalize w2.setCell ⟨w.heap.size + 1 + 1, 0, none⟩ (.slice (some ⟨w1.heap.size, 0, none⟩) ix.length ix.length) = w3 at *
  obtain ⟨⟨x0, x1⟩, y0, y1⟩ := unhide BA3
  go_wp2_with fail
  refine (toInts _ dt _ ((unhide H2).below (unhide BW3)) l2).mono ?_
  rintro e w4 ⟨rfl, ho, hb, hlt4⟩
  have R4 := hide ((unhide R1').below hb)
  have S4 : Hid (DatAt w4 w4.heap.size (.slice (some ⟨w3.heap.size, 0, none⟩) dt.length dt.length) dt) := hide (DatAt.owned ho)
  have BR4 := hide ((unhide BR3).below hb)
  have BO4 := hide ((unhide BO3).below hb)
  have BW4 := hide ((unhide BW3).trans (hb.mono (unhide BW3).size))
  clear ho hb x0 x1 y0 y1 R1' BA3 BR3 BO3 BW3
  obtain ⟨⟨x0, x1⟩, y0, y1⟩ := unhide BO4
  go_upto_region 4 with fail
  have R5 := hide ((unhide R4).set (R := w.heap.size + 1 + 1) (j := 1) (u := .slice (some ⟨w3.heap.size, 0, none⟩) dt.length dt.length) (by omega))
  have S5 := hide ((unhide S4).set (R := w.heap.size + 1 + 1) (j := 1) (u := .slice (some ⟨w3.heap.size, 0, none⟩) dt.length dt.length) (by omega))
  have BR5 := hide ((unhide BR4).other (g' := w.heap.size + 1 + 1) (j := 1) (u := .slice (some ⟨w3.heap.size, 0, none⟩) dt.length dt.length) (by omega))
  have BO5 := hide ((unhide BO4).set1 (u := .slice (some ⟨w3.heap.size, 0, none⟩) dt.length dt.length))
  have BW5 := hide ((unhide BW4).setCell (p := ⟨w.heap.size + 1 + 1, 1, none⟩) (by show w.heap.size ≤ w.heap.size + 1 + 1; omega) (.slice (some ⟨w3.heap.size, 0, none⟩) dt.length dt.length))
  clear R4 S4 BR4 BO4 BW4 x0 x1 y0 y1
  generalize w4.setCell ⟨w.heap.size + 1 + 1, 1, none⟩ (.slice (some ⟨w3.heap.size, 0, none⟩) dt.length dt.length) = w5 at *
  obtain ⟨⟨x0, x1⟩, y0, y1⟩ := unhide BO5
  obtain ⟨⟨z0, z1⟩, t0, t1⟩ := unhide BR5
  have HF := hide (fun (u1 u2 : Value) => (⟨((unhide R5).set (R := w.heap.size + 1) (j := 0) (u := u1) (by omega)).set (R := w.heap.size + 1) (j := 1) (u := u2) (by omega), ((unhide S5).set (R := w.heap.size + 1) (j := 0) (u := u1) (by omega)).set (R := w.heap.size + 1) (j := 1) (u := u2) (by omega), ((unhide BW5).setCell (p := ⟨w.heap.size + 1, 0, none⟩) (by show w.heap.size ≤ w.heap.size + 1; omega) u1).setCell (p := ⟨w.heap.size + 1, 1, none⟩) (by show w.heap.size ≤ w.heap.size + 1; omega) u2⟩ : _ ∧ _ ∧ _))
  have HX := hide (fun (u1 u2 : Value) => ((unhide BR5).set0 (u := u1)).set1 (u := u2))
  clear R5 S5 BR5 BO5 BW5
  go_wp2
  obtain ⟨⟨p0, p1⟩, _, _⟩ := unhide HX (.slice (some ⟨w1.heap.size, 0, none⟩) ix.length ix.length) (.slice (some ⟨w3.heap.size, 0, none⟩) dt.length dt.length)
  obtain ⟨f1, f2, f3⟩ := unhide HF (.slice (some ⟨w1.heap.size, 0, none⟩) ix.length ix.length) (.slice (some ⟨w3.heap.size, 0, none⟩) dt.length dt.length)
  clear HX HF
  generalize (w5.setCell ⟨w.heap.size + 1, 0, none⟩ (.slice (some ⟨w1.heap.size, 0, none⟩) ix.length ix.length)).setCell ⟨w.heap.size + 1, 1, none⟩ (.slice (some ⟨w3.heap.size, 0, none⟩) dt.length dt.length) = w6 at *
  refine bodyPost_ret (v := .agg #[.slice (some ⟨w1.heap.size, 0, none⟩) ix.length ix.length, .slice (some ⟨w3.heap.size, 0, none⟩) dt.length dt.length]) (by simp [results, Tryd.results24, go_sem, p0, p1]; try rfl) rfl ?_
  exact ⟨_, _, rfl, f1, f2, f3⟩
end Go.Proofs.YtipnakpfjniiiaaDoor
