/- A rule, as the specification reads it. -/
import Derived.Test.YtklakcnapdhcnaaDoorRdpX
namespace Go.Proofs.YtklakcnapdhcnaaDoor.Pas
open Go.RowKit
set_option linter.unusedVariables false
set_option maxRecDepth 100000 in
set_option maxHeartbeats 4000000 in
/-- l13Text, where something is wrong already. -/
theorem textS_bad (A i : Nat) (t : ByteArray) (w : World) (hB : Sx w A t (i, true)) :
    Calls Tryd.prog 38 #[.pointer (some ⟨A, 0, none⟩)] w fun e w' => e = .returned (.string (strOfNums [])) ∧ Sx w' A t (i, true) ∧ Kx A w w' := by
  have hA := hB.lt
  have O0 : Hid (By w.heap.size (w.alloc (.cells #[] 5)) (.slice (some ⟨w.heap.size, 0, none⟩) 0 0) []) := hide (World.ownsRow_lit w #[] 0 (Nat.le_refl _) (by unfold maxLen; omega) rfl)
  have B0 : Hid (Sx (w.alloc (.cells #[] 5)) A t (i, true)) := hide (((al1 w _).block A hA).trans hB)
  have K0 : Hid (Kx A w (w.alloc (.cells #[] 5))) := hide ((Kx.refl A w).of (al1 w (.cells #[] 5)) (Nat.le_of_lt hA))
  clear hB
  go_enter Tryd.func38, Tryd.ntmps38
  go_wp2
  go_loopw [3] (fun tv wr => Hid (By w.heap.size wr tv []) ∧ Hid (Sx wr A t (i, true)) ∧ Hid (Kx A w wr)) (fun _ _ => 0)
  case atStart => exact ⟨O0, B0, K0⟩
  case round =>
    obtain ⟨HO, HB, HK⟩ := hrel
    clear O0 B0 K0
    obtain ⟨⟨c0, c1, c2⟩, _⟩ := three_cellsR (unhide HB)
    simp only at c0 c1 c2
    go_wp2_with fail
    go_quiet (fail)
    have HO' := hide (By.below (unhide HO) (drewNB wr nq))
    have HB' := hide ((unhide HB).drewN nq)
    have HK' := hide ((unhide HK).drewN nq)
    clear HO HB HK c0 c1 c2
    generalize wr.drewN nq = y1 at *
    have hcv := conv_owned y1 w.heap.size _ _ _ (unhide HO')
    go_wp2
    go_ret
    exact ⟨rfl, unhide HB', unhide HK'⟩
theorem textS_any (A : Nat) (X : Nat × Bool) (t : ByteArray) (w : World) (ht : t.size ≤ 1048576) (hi : X.1 ≤ t.size) (hB : Sx w A t X) :
    Calls Tryd.prog 38 #[.pointer (some ⟨A, 0, none⟩)] w fun e w' => e = .returned (.string (strOfNums (tS t X).1)) ∧ Sx w' A t (tS t X).2 ∧ Kx A w w' := by
  obtain ⟨i, q⟩ := X
  cases q with
  | false => unfold tS; rw [if_neg Bool.false_ne_true]; exact textS_ok A i t w ht hi hB
  | true => unfold tS; rw [if_pos rfl]; exact textS_bad A i t w hB
theorem sgS_le {t : ByteArray} {c : Nat} {x : Nat × Bool} (h : x.1 ≤ t.size) : (sgS t c x).1 ≤ t.size := by
  unfold sgS
  split
  · rename_i h1; exact h1.2.1
  · exact h
theorem tS_le {t : ByteArray} {x : Nat × Bool} (h : x.1 ≤ t.size) : (tS t x).2.1 ≤ t.size := by
  unfold tS
  split
  · exact h
  · exact (txS_le t _ x.1 (Nat.le_refl _) h).2.1
/-- What the bars come to from a place on. -/
def agR (t : ByteArray) (x : Nat × Bool) (a : Int) : Int × Nat × Bool := if x.2 = true then (a, x.1, true) else (a + ((barsTo t x.1 : Nat) - (x.1 : Nat) : Int), barsTo t x.1, false)
theorem agR_on {t : ByteArray} {x : Nat × Bool} {a : Int} (h : isS t 124 x = true) : agR t (x.1 + 1, x.2) (a + 1) = agR t x a := by
  obtain ⟨k, q⟩ := x
  unfold isS at h
  cases q
  · simp only [Bool.not_false, Bool.true_and, Bool.and_eq_true, decide_eq_true_eq, beq_iff_eq] at h
    unfold agR
    rw [if_neg Bool.false_ne_true, if_neg Bool.false_ne_true]
    simp only
    rw [barsTo_on h.1 h.2]
    refine Prod.ext ?_ rfl
    simp only
    omega
  · simp at h
theorem agR_end {t : ByteArray} {x : Nat × Bool} {a : Int} (h : isS t 124 x = false) : agR t x a = (a, x.1, x.2) := by
  obtain ⟨k, q⟩ := x
  unfold agR
  cases q
  · unfold isS at h
    simp only [Bool.not_false, Bool.true_and] at h
    rw [if_neg Bool.false_ne_true]
    simp only
    have : barsTo t k = k := barsTo_no (fun e => by rw [decide_eq_true e.1, e.2] at h; cases h)
    rw [this]
    refine Prod.ext ?_ rfl
    simp only
    omega
  · rw [if_pos rfl]
theorem agS_no {t : ByteArray} {x : Nat × Bool} (h : isS t 32 x = false) : agS t x = (0, x.1, x.2) := by
  unfold agS
  rw [if_neg]
  rintro ⟨a, b, c⟩
  unfold isS at h
  rw [a, decide_eq_true b, c] at h
  cases h
theorem agS_yes {t : ByteArray} {x : Nat × Bool} (h : isS t 32 x = true) : agS t x = agR t (sgS t 124 (x.1 + 1, x.2)) 1 := by
  obtain ⟨k, q⟩ := x
  unfold isS at h
  cases q
  · simp only [Bool.not_false, Bool.true_and, Bool.and_eq_true, decide_eq_true_eq, beq_iff_eq] at h
    unfold agS sgS
    rw [if_pos ⟨rfl, h.1, h.2⟩]
    simp only [true_and]
    by_cases hb : k + 1 < t.size ∧ bt t (k + 1) = 124
    · rw [if_pos hb, if_pos hb]
      unfold agR
      rw [if_neg Bool.false_ne_true]
      simp only
      have e2 : k + 1 + 1 = k + 2 := rfl
      rw [e2]
      have := (barsTo_le t _ (k + 2) (Nat.le_refl _) hb.1).1
      refine Prod.ext ?_ rfl
      simp only
      omega
    · rw [if_neg hb, if_neg hb]
      unfold agR
      rw [if_pos rfl]
  · simp at h
/-- The result's box, the reader's and the rule's, in new blocks. -/
structure Sq (t : ByteArray) (w x : World) (v0 v1 v2 v3 v4 : Value) (X : Nat × Bool) : Prop where
  bel : Below w.heap.size w x
  zb : x.heap[w.heap.size]? = some (.cells #[.string ⟨#[]⟩, .string ⟨#[]⟩, .string ⟨#[]⟩, .string ⟨#[]⟩, .int .i64 0] 40 (0, 0))
  rb : x.heap[w.heap.size + 2]? = some (.cells #[v0, v1, v2, v3, v4] 40 (0, 0))
  bx : Sx x (w.heap.size + 1) t X
theorem Sq.call {t : ByteArray} {w x x' : World} {v0 v1 v2 v3 v4 : Value} {X Y : Nat × Bool} (h : Sq t w x v0 v1 v2 v3 v4 X) (hk : Kx (w.heap.size + 1) x x') (hb : Sx x' (w.heap.size + 1) t Y) : Sq t w x' v0 v1 v2 v3 v4 Y :=
  ⟨h.bel.trans (hk.bel.mono (Nat.le_succ _)), (hk.oth _ (by omega) (Array.getElem?_eq_some_iff.1 h.zb).1).trans h.zb, (hk.oth _ (by omega) (Array.getElem?_eq_some_iff.1 h.rb).1).trans h.rb, hb⟩
theorem Sq.drew {t : ByteArray} {w x : World} {v0 v1 v2 v3 v4 : Value} {X : Nat × Bool} (h : Sq t w x v0 v1 v2 v3 v4 X) : Sq t w x.drew v0 v1 v2 v3 v4 X := ⟨h.bel.trans ⟨rfl, rfl, rfl, Nat.le_refl _, fun _ _ => rfl⟩, h.zb, h.rb, h.bx⟩
theorem Sq.put0 {t : ByteArray} {w x : World} {v0 v1 v2 v3 v4 : Value} {X : Nat × Bool} (h : Sq t w x v0 v1 v2 v3 v4 X) (u : Value) : Sq t w (x.setCell ⟨w.heap.size + 2, 0, none⟩ u) u v1 v2 v3 v4 X := by
  refine ⟨h.bel.setCell (p := ⟨w.heap.size + 2, 0, none⟩) (by show w.heap.size ≤ w.heap.size + 2; omega) u, ?_, ?_, ?_⟩
  · exact (heap_setCell_other x ⟨w.heap.size + 2, 0, none⟩ w.heap.size u (by show w.heap.size ≠ w.heap.size + 2; omega)).trans h.zb
  · have := heap_setCell_same x (w.heap.size + 2) 0 _ 40 u h.rb
    simpa using this
  · exact (heap_setCell_other x ⟨w.heap.size + 2, 0, none⟩ (w.heap.size + 1) u (by show w.heap.size + 1 ≠ w.heap.size + 2; omega)).trans h.bx
theorem Sq.put1 {t : ByteArray} {w x : World} {v0 v1 v2 v3 v4 : Value} {X : Nat × Bool} (h : Sq t w x v0 v1 v2 v3 v4 X) (u : Value) : Sq t w (x.setCell ⟨w.heap.size + 2, 1, none⟩ u) v0 u v2 v3 v4 X := by
  refine ⟨h.bel.setCell (p := ⟨w.heap.size + 2, 1, none⟩) (by show w.heap.size ≤ w.heap.size + 2; omega) u, ?_, ?_, ?_⟩
  · exact (heap_setCell_other x ⟨w.heap.size + 2, 1, none⟩ w.heap.size u (by show w.heap.size ≠ w.heap.size + 2; omega)).trans h.zb
  · have := heap_setCell_same x (w.heap.size + 2) 1 _ 40 u h.rb
    simpa using this
  · exact (heap_setCell_other x ⟨w.heap.size + 2, 1, none⟩ (w.heap.size + 1) u (by show w.heap.size + 1 ≠ w.heap.size + 2; omega)).trans h.bx
theorem Sq.put2 {t : ByteArray} {w x : World} {v0 v1 v2 v3 v4 : Value} {X : Nat × Bool} (h : Sq t w x v0 v1 v2 v3 v4 X) (u : Value) : Sq t w (x.setCell ⟨w.heap.size + 2, 2, none⟩ u) v0 v1 u v3 v4 X := by
  refine ⟨h.bel.setCell (p := ⟨w.heap.size + 2, 2, none⟩) (by show w.heap.size ≤ w.heap.size + 2; omega) u, ?_, ?_, ?_⟩
  · exact (heap_setCell_other x ⟨w.heap.size + 2, 2, none⟩ w.heap.size u (by show w.heap.size ≠ w.heap.size + 2; omega)).trans h.zb
  · have := heap_setCell_same x (w.heap.size + 2) 2 _ 40 u h.rb
    simpa using this
  · exact (heap_setCell_other x ⟨w.heap.size + 2, 2, none⟩ (w.heap.size + 1) u (by show w.heap.size + 1 ≠ w.heap.size + 2; omega)).trans h.bx
theorem Sq.put3 {t : ByteArray} {w x : World} {v0 v1 v2 v3 v4 : Value} {X : Nat × Bool} (h : Sq t w x v0 v1 v2 v3 v4 X) (u : Value) : Sq t w (x.setCell ⟨w.heap.size + 2, 3, none⟩ u) v0 v1 v2 u v4 X := by
  refine ⟨h.bel.setCell (p := ⟨w.heap.size + 2, 3, none⟩) (by show w.heap.size ≤ w.heap.size + 2; omega) u, ?_, ?_, ?_⟩
  · exact (heap_setCell_other x ⟨w.heap.size + 2, 3, none⟩ w.heap.size u (by show w.heap.size ≠ w.heap.size + 2; omega)).trans h.zb
  · have := heap_setCell_same x (w.heap.size + 2) 3 _ 40 u h.rb
    simpa using this
  · exact (heap_setCell_other x ⟨w.heap.size + 2, 3, none⟩ (w.heap.size + 1) u (by show w.heap.size + 1 ≠ w.heap.size + 2; omega)).trans h.bx
theorem Sq.put4 {t : ByteArray} {w x : World} {v0 v1 v2 v3 v4 : Value} {X : Nat × Bool} (h : Sq t w x v0 v1 v2 v3 v4 X) (u : Value) : Sq t w (x.setCell ⟨w.heap.size + 2, 4, none⟩ u) v0 v1 v2 v3 u X := by
  refine ⟨h.bel.setCell (p := ⟨w.heap.size + 2, 4, none⟩) (by show w.heap.size ≤ w.heap.size + 2; omega) u, ?_, ?_, ?_⟩
  · exact (heap_setCell_other x ⟨w.heap.size + 2, 4, none⟩ w.heap.size u (by show w.heap.size ≠ w.heap.size + 2; omega)).trans h.zb
  · have := heap_setCell_same x (w.heap.size + 2) 4 _ 40 u h.rb
    simpa using this
  · exact (heap_setCell_other x ⟨w.heap.size + 2, 4, none⟩ (w.heap.size + 1) u (by show w.heap.size + 1 ≠ w.heap.size + 2; omega)).trans h.bx
/-- The same, with what the result's box holds. -/
structure Su (t : ByteArray) (w x : World) (z0 z1 z2 z3 z4 v0 v1 v2 v3 v4 : Value) (X : Nat × Bool) : Prop where
  bel : Below w.heap.size w x
  zb : x.heap[w.heap.size]? = some (.cells #[z0, z1, z2, z3, z4] 40 (0, 0))
  rb : x.heap[w.heap.size + 2]? = some (.cells #[v0, v1, v2, v3, v4] 40 (0, 0))
  bx : Sx x (w.heap.size + 1) t X
theorem Su.put0 {t : ByteArray} {w x : World} {z0 z1 z2 z3 z4 v0 v1 v2 v3 v4 : Value} {X : Nat × Bool} (h : Su t w x z0 z1 z2 z3 z4 v0 v1 v2 v3 v4 X) (u : Value) : Su t w (x.setCell ⟨w.heap.size, 0, none⟩ u) u z1 z2 z3 z4 v0 v1 v2 v3 v4 X := by
  refine ⟨h.bel.setCell (p := ⟨w.heap.size, 0, none⟩) (Nat.le_refl _) u, ?_, ?_, ?_⟩
  · have := heap_setCell_same x w.heap.size 0 _ 40 u h.zb
    simpa using this
  · exact (heap_setCell_other x ⟨w.heap.size, 0, none⟩ (w.heap.size + 2) u (by show w.heap.size + 2 ≠ w.heap.size; omega)).trans h.rb
  · exact (heap_setCell_other x ⟨w.heap.size, 0, none⟩ (w.heap.size + 1) u (by show w.heap.size + 1 ≠ w.heap.size; omega)).trans h.bx
theorem Su.put1 {t : ByteArray} {w x : World} {z0 z1 z2 z3 z4 v0 v1 v2 v3 v4 : Value} {X : Nat × Bool} (h : Su t w x z0 z1 z2 z3 z4 v0 v1 v2 v3 v4 X) (u : Value) : Su t w (x.setCell ⟨w.heap.size, 1, none⟩ u) z0 u z2 z3 z4 v0 v1 v2 v3 v4 X := by
  refine ⟨h.bel.setCell (p := ⟨w.heap.size, 1, none⟩) (Nat.le_refl _) u, ?_, ?_, ?_⟩
  · have := heap_setCell_same x w.heap.size 1 _ 40 u h.zb
    simpa using this
  · exact (heap_setCell_other x ⟨w.heap.size, 1, none⟩ (w.heap.size + 2) u (by show w.heap.size + 2 ≠ w.heap.size; omega)).trans h.rb
  · exact (heap_setCell_other x ⟨w.heap.size, 1, none⟩ (w.heap.size + 1) u (by show w.heap.size + 1 ≠ w.heap.size; omega)).trans h.bx
theorem Su.put2 {t : ByteArray} {w x : World} {z0 z1 z2 z3 z4 v0 v1 v2 v3 v4 : Value} {X : Nat × Bool} (h : Su t w x z0 z1 z2 z3 z4 v0 v1 v2 v3 v4 X) (u : Value) : Su t w (x.setCell ⟨w.heap.size, 2, none⟩ u) z0 z1 u z3 z4 v0 v1 v2 v3 v4 X := by
  refine ⟨h.bel.setCell (p := ⟨w.heap.size, 2, none⟩) (Nat.le_refl _) u, ?_, ?_, ?_⟩
  · have := heap_setCell_same x w.heap.size 2 _ 40 u h.zb
    simpa using this
  · exact (heap_setCell_other x ⟨w.heap.size, 2, none⟩ (w.heap.size + 2) u (by show w.heap.size + 2 ≠ w.heap.size; omega)).trans h.rb
  · exact (heap_setCell_other x ⟨w.heap.size, 2, none⟩ (w.heap.size + 1) u (by show w.heap.size + 1 ≠ w.heap.size; omega)).trans h.bx
theorem Su.put3 {t : ByteArray} {w x : World} {z0 z1 z2 z3 z4 v0 v1 v2 v3 v4 : Value} {X : Nat × Bool} (h : Su t w x z0 z1 z2 z3 z4 v0 v1 v2 v3 v4 X) (u : Value) : Su t w (x.setCell ⟨w.heap.size, 3, none⟩ u) z0 z1 z2 u z4 v0 v1 v2 v3 v4 X := by
  refine ⟨h.bel.setCell (p := ⟨w.heap.size, 3, none⟩) (Nat.le_refl _) u, ?_, ?_, ?_⟩
  · have := heap_setCell_same x w.heap.size 3 _ 40 u h.zb
    simpa using this
  · exact (heap_setCell_other x ⟨w.heap.size, 3, none⟩ (w.heap.size + 2) u (by show w.heap.size + 2 ≠ w.heap.size; omega)).trans h.rb
  · exact (heap_setCell_other x ⟨w.heap.size, 3, none⟩ (w.heap.size + 1) u (by show w.heap.size + 1 ≠ w.heap.size; omega)).trans h.bx
theorem Su.put4 {t : ByteArray} {w x : World} {z0 z1 z2 z3 z4 v0 v1 v2 v3 v4 : Value} {X : Nat × Bool} (h : Su t w x z0 z1 z2 z3 z4 v0 v1 v2 v3 v4 X) (u : Value) : Su t w (x.setCell ⟨w.heap.size, 4, none⟩ u) z0 z1 z2 z3 u v0 v1 v2 v3 v4 X := by
  refine ⟨h.bel.setCell (p := ⟨w.heap.size, 4, none⟩) (Nat.le_refl _) u, ?_, ?_, ?_⟩
  · have := heap_setCell_same x w.heap.size 4 _ 40 u h.zb
    simpa using this
  · exact (heap_setCell_other x ⟨w.heap.size, 4, none⟩ (w.heap.size + 2) u (by show w.heap.size + 2 ≠ w.heap.size; omega)).trans h.rb
  · exact (heap_setCell_other x ⟨w.heap.size, 4, none⟩ (w.heap.size + 1) u (by show w.heap.size + 1 ≠ w.heap.size; omega)).trans h.bx
set_option maxRecDepth 100000 in
set_option maxHeartbeats 8000000 in
theorem ruleS_any (t : ByteArray) (w : World) (ht : t.size ≤ 1048576) :
    Calls Tryd.prog 24 #[.string t] w fun e w' => e = .returned (.tuple #[rv (ruS t).1, .bool (ruS t).2]) ∧ Below w.heap.size w w' := by
  have CT := fun (X : Nat × Bool) (h : X.1 ≤ t.size) W (hb : Sx W (w.heap.size + 1) t X) => textS_any (w.heap.size + 1) X t W ht h hb
  have CS := fun (c : Nat) (hc : c < 256) (X : Nat × Bool) W (hb : Sx W (w.heap.size + 1) t X) => want_any (w.heap.size + 1) c t X W hc ht hb
  have CK := fun (c : Nat) (hc : c < 256) (X : Nat × Bool) W (hb : Sx W (w.heap.size + 1) t X) => take_any (w.heap.size + 1) X.1 c t X.2 W hc ht hb
  obtain ⟨a, ea⟩ : ∃ y, y = tS t ((0, false) : Nat × Bool) := ⟨_, rfl⟩
  have la : a.2.1 ≤ t.size := by rw [ea]; exact tS_le (Nat.zero_le _)
  have Ca : Hid (∀ W, Sx W (w.heap.size + 1) t ((0, false) : Nat × Bool) → Calls Tryd.prog 38 #[.pointer (some ⟨w.heap.size + 1, 0, none⟩)] W fun e w' => e = .returned (.string (strOfNums a.1)) ∧ Sx w' (w.heap.size + 1) t a.2 ∧ Kx (w.heap.size + 1) W w') := hide (fun W hb => by rw [ea]; exact CT ((0, false) : Nat × Bool) (Nat.zero_le _) W hb)
  obtain ⟨sa, esa⟩ : ∃ y, y = sgS t 91 a.2 := ⟨_, rfl⟩
  have lsa : sa.1 ≤ t.size := by rw [esa]; exact sgS_le la
  have Csa : Hid (∀ W, Sx W (w.heap.size + 1) t a.2 → Calls Tryd.prog 39 #[.pointer (some ⟨w.heap.size + 1, 0, none⟩), .int .u8 91] W fun e w' => e = .returned (.tuple #[]) ∧ Sx w' (w.heap.size + 1) t sa ∧ Kx (w.heap.size + 1) W w') := hide (fun W hb => by rw [esa]; exact CS 91 (by decide) a.2 W hb)
  obtain ⟨b, eb⟩ : ∃ y, y = tS t sa := ⟨_, rfl⟩
  have lb : b.2.1 ≤ t.size := by rw [eb]; exact tS_le lsa
  have Cb : Hid (∀ W, Sx W (w.heap.size + 1) t sa → Calls Tryd.prog 38 #[.pointer (some ⟨w.heap.size + 1, 0, none⟩)] W fun e w' => e = .returned (.string (strOfNums b.1)) ∧ Sx w' (w.heap.size + 1) t b.2 ∧ Kx (w.heap.size + 1) W w') := hide (fun W hb => by rw [eb]; exact CT sa lsa W hb)
  obtain ⟨sb, esb⟩ : ∃ y, y = sgS t 93 b.2 := ⟨_, rfl⟩
  have lsb : sb.1 ≤ t.size := by rw [esb]; exact sgS_le lb
  have Csb : Hid (∀ W, Sx W (w.heap.size + 1) t b.2 → Calls Tryd.prog 39 #[.pointer (some ⟨w.heap.size + 1, 0, none⟩), .int .u8 93] W fun e w' => e = .returned (.tuple #[]) ∧ Sx w' (w.heap.size + 1) t sb ∧ Kx (w.heap.size + 1) W w') := hide (fun W hb => by rw [esb]; exact CS 93 (by decide) b.2 W hb)
  obtain ⟨c, ec⟩ : ∃ y, y = tS t sb := ⟨_, rfl⟩
  have lc : c.2.1 ≤ t.size := by rw [ec]; exact tS_le lsb
  have Cc : Hid (∀ W, Sx W (w.heap.size + 1) t sb → Calls Tryd.prog 38 #[.pointer (some ⟨w.heap.size + 1, 0, none⟩)] W fun e w' => e = .returned (.string (strOfNums c.1)) ∧ Sx w' (w.heap.size + 1) t c.2 ∧ Kx (w.heap.size + 1) W w') := hide (fun W hb => by rw [ec]; exact CT sb lsb W hb)
  obtain ⟨s1, es1⟩ : ∃ y, y = sgS t 32 c.2 := ⟨_, rfl⟩
  have ls1 : s1.1 ≤ t.size := by rw [es1]; exact sgS_le lc
  have Cs1 : Hid (∀ W, Sx W (w.heap.size + 1) t c.2 → Calls Tryd.prog 39 #[.pointer (some ⟨w.heap.size + 1, 0, none⟩), .int .u8 32] W fun e w' => e = .returned (.tuple #[]) ∧ Sx w' (w.heap.size + 1) t s1 ∧ Kx (w.heap.size + 1) W w') := hide (fun W hb => by rw [es1]; exact CS 32 (by decide) c.2 W hb)
  obtain ⟨s2, es2⟩ : ∃ y, y = sgS t 62 s1 := ⟨_, rfl⟩
  have ls2 : s2.1 ≤ t.size := by rw [es2]; exact sgS_le ls1
  have Cs2 : Hid (∀ W, Sx W (w.heap.size + 1) t s1 → Calls Tryd.prog 39 #[.pointer (some ⟨w.heap.size + 1, 0, none⟩), .int .u8 62] W fun e w' => e = .returned (.tuple #[]) ∧ Sx w' (w.heap.size + 1) t s2 ∧ Kx (w.heap.size + 1) W w') := hide (fun W hb => by rw [es2]; exact CS 62 (by decide) s1 W hb)
  obtain ⟨s3, es3⟩ : ∃ y, y = sgS t 32 s2 := ⟨_, rfl⟩
  have ls3 : s3.1 ≤ t.size := by rw [es3]; exact sgS_le ls2
  have Cs3 : Hid (∀ W, Sx W (w.heap.size + 1) t s2 → Calls Tryd.prog 39 #[.pointer (some ⟨w.heap.size + 1, 0, none⟩), .int .u8 32] W fun e w' => e = .returned (.tuple #[]) ∧ Sx w' (w.heap.size + 1) t s3 ∧ Kx (w.heap.size + 1) W w') := hide (fun W hb => by rw [es3]; exact CS 32 (by decide) s2 W hb)
  obtain ⟨d, ed⟩ : ∃ y, y = tS t s3 := ⟨_, rfl⟩
  have ld : d.2.1 ≤ t.size := by rw [ed]; exact tS_le ls3
  have Cd : Hid (∀ W, Sx W (w.heap.size + 1) t s3 → Calls Tryd.prog 38 #[.pointer (some ⟨w.heap.size + 1, 0, none⟩)] W fun e w' => e = .returned (.string (strOfNums d.1)) ∧ Sx w' (w.heap.size + 1) t d.2 ∧ Kx (w.heap.size + 1) W w') := hide (fun W hb => by rw [ed]; exact CT s3 ls3 W hb)
  have CK1 : Hid (∀ W, Sx W (w.heap.size + 1) t d.2 → Calls Tryd.prog 40 #[.pointer (some ⟨w.heap.size + 1, 0, none⟩), .int .u8 32] W fun e w' => e = .returned (.bool (isS t 32 d.2)) ∧ Sx w' (w.heap.size + 1) t (if isS t 32 d.2 = true then (d.2.1 + 1, d.2.2) else d.2) ∧ Kx (w.heap.size + 1) W w') := hide (fun W hb => CK 32 (by decide) d.2 W hb)
  have CK2 : Hid (∀ (X : Nat × Bool) W, Sx W (w.heap.size + 1) t X → Calls Tryd.prog 40 #[.pointer (some ⟨w.heap.size + 1, 0, none⟩), .int .u8 124] W fun e w' => e = .returned (.bool (isS t 124 X)) ∧ Sx w' (w.heap.size + 1) t (if isS t 124 X = true then (X.1 + 1, X.2) else X) ∧ Kx (w.heap.size + 1) W w') := hide (fun X W hb => CK 124 (by decide) X W hb)
  have CS2 : Hid (∀ W, Sx W (w.heap.size + 1) t (d.2.1 + 1, d.2.2) → Calls Tryd.prog 39 #[.pointer (some ⟨w.heap.size + 1, 0, none⟩), .int .u8 124] W fun e w' => e = .returned (.tuple #[]) ∧ Sx w' (w.heap.size + 1) t (sgS t 124 (d.2.1 + 1, d.2.2)) ∧ Kx (w.heap.size + 1) W w') := hide (fun W hb => CS 124 (by decide) (d.2.1 + 1, d.2.2) W hb)
  have HR : Hid (ruS t = ((strOfNums a.1, strOfNums b.1, strOfNums c.1, strOfNums d.1, (agS t d.2).1), !(agS t d.2).2.2 && decide ((agS t d.2).2.1 = t.size))) := hide (by rw [ed, es3, es2, es1, ec, esb, eb, esa, ea]; rfl)
  have LD := hide ld
  clear CT CS CK ea eb ec ed esa esb es1 es2 es3 la lb lc ld lsa lsb ls1 ls2 ls3
  have S0 : Hid (Sq t w (((w.alloc (.cells #[.string ⟨#[]⟩, .string ⟨#[]⟩, .string ⟨#[]⟩, .string ⟨#[]⟩, .int .i64 0] 40)).alloc (.cells #[.string t, .int .i64 0, .bool false] 76)).alloc (.cells #[.string ⟨#[]⟩, .string ⟨#[]⟩, .string ⟨#[]⟩, .string ⟨#[]⟩, .int .i64 0] 40)) (.string ⟨#[]⟩) (.string ⟨#[]⟩) (.string ⟨#[]⟩) (.string ⟨#[]⟩) (.int .i64 0) (0, false)) := hide (by
    have h2 := heap_new ((w.alloc (.cells #[.string ⟨#[]⟩, .string ⟨#[]⟩, .string ⟨#[]⟩, .string ⟨#[]⟩, .int .i64 0] 40)).alloc (.cells #[.string t, .int .i64 0, .bool false] 76)) (.cells #[.string ⟨#[]⟩, .string ⟨#[]⟩, .string ⟨#[]⟩, .string ⟨#[]⟩, .int .i64 0] 40)
    have h1 := heap_new (w.alloc (.cells #[.string ⟨#[]⟩, .string ⟨#[]⟩, .string ⟨#[]⟩, .string ⟨#[]⟩, .int .i64 0] 40)) (.cells #[.string t, .int .i64 0, .bool false] 76)
    refine ⟨(al1 w _).trans (((al1 _ _).mono (by simp)).trans ((al1 _ _).mono (by simp; omega))), ?_, ?_, ?_⟩
    · rw [Below.heap_alloc _ _ _ (by simp; omega), Below.heap_alloc _ _ _ (by simp)]
      exact heap_new w _
    · simpa using h2
    · unfold Sx
      rw [Below.heap_alloc _ _ _ (by simp)]
      simpa using h1)
  go_enter Tryd.func24, Tryd.ntmps24
  go_wp2_with fail
  (try clear b0 b1 b2 b3 b4 f0 f1 f2 f3 f4)
  refine ((unhide Ca) _ (unhide S0).bx).mono ?_
  rintro e x1 ⟨rfl, hb, hk⟩
  have S1 := hide ((unhide S0).call hk hb)
  obtain ⟨⟨b0, b1, b2, b3, b4⟩, ⟨f0, f1, f2, f3, f4⟩⟩ := five_cellsU (unhide S1).rb
  have S2 := hide ((unhide S1).put0 (.string (strOfNums a.1)))
  clear hb hk
  go_wp2_with fail
  (try clear b0 b1 b2 b3 b4 f0 f1 f2 f3 f4)
  refine ((unhide Csa) _ (unhide S2).bx).mono ?_
  rintro e x3 ⟨rfl, hb, hk⟩
  have S3 := hide ((unhide S2).call hk hb)
  clear hb hk
  go_wp2_with fail
  (try clear b0 b1 b2 b3 b4 f0 f1 f2 f3 f4)
  refine ((unhide Cb) _ (unhide S3).bx).mono ?_
  rintro e x4 ⟨rfl, hb, hk⟩
  have S4 := hide ((unhide S3).call hk hb)
  obtain ⟨⟨b0, b1, b2, b3, b4⟩, ⟨f0, f1, f2, f3, f4⟩⟩ := five_cellsU (unhide S4).rb
  have S5 := hide ((unhide S4).put1 (.string (strOfNums b.1)))
  clear hb hk
  go_wp2_with fail
  (try clear b0 b1 b2 b3 b4 f0 f1 f2 f3 f4)
  refine ((unhide Csb) _ (unhide S5).bx).mono ?_
  rintro e x6 ⟨rfl, hb, hk⟩
  have S6 := hide ((unhide S5).call hk hb)
  clear hb hk
  go_wp2_with fail
  (try clear b0 b1 b2 b3 b4 f0 f1 f2 f3 f4)
  refine ((unhide Cc) _ (unhide S6).bx).mono ?_
  rintro e x7 ⟨rfl, hb, hk⟩
  have S7 := hide ((unhide S6).call hk hb)
  obtain ⟨⟨b0, b1, b2, b3, b4⟩, ⟨f0, f1, f2, f3, f4⟩⟩ := five_cellsU (unhide S7).rb
  have S8 := hide ((unhide S7).put2 (.string (strOfNums c.1)))
  clear hb hk
  go_wp2_with fail
  (try clear b0 b1 b2 b3 b4 f0 f1 f2 f3 f4)
  refine ((unhide Cs1) _ (unhide S8).bx).mono ?_
  rintro e x9 ⟨rfl, hb, hk⟩
  have S9 := hide ((unhide S8).call hk hb)
  clear hb hk
  go_wp2_with fail
  (try clear b0 b1 b2 b3 b4 f0 f1 f2 f3 f4)
  refine ((unhide Cs2) _ (unhide S9).bx).mono ?_
  rintro e x10 ⟨rfl, hb, hk⟩
  have S10 := hide ((unhide S9).call hk hb)
  clear hb hk
  go_wp2_with fail
  (try clear b0 b1 b2 b3 b4 f0 f1 f2 f3 f4)
  refine ((unhide Cs3) _ (unhide S10).bx).mono ?_
  rintro e x11 ⟨rfl, hb, hk⟩
  have S11 := hide ((unhide S10).call hk hb)
  clear hb hk
  go_wp2_with fail
  (try clear b0 b1 b2 b3 b4 f0 f1 f2 f3 f4)
  refine ((unhide Cd) _ (unhide S11).bx).mono ?_
  rintro e x12 ⟨rfl, hb, hk⟩
  have S12 := hide ((unhide S11).call hk hb)
  obtain ⟨⟨b0, b1, b2, b3, b4⟩, ⟨f0, f1, f2, f3, f4⟩⟩ := five_cellsU (unhide S12).rb
  have S13 := hide ((unhide S12).put3 (.string (strOfNums d.1)))
  clear hb hk
  have SD := S13
  clear S0 S1 S2 S3 S4 S5 S6 S7 S8 S9 S10 S11 S12 S13
  clear Ca Cb Cc Cd Csa Csb Cs1 Cs2 Cs3
  go_wp2_with fail
  clear b0 b1 b2 b3 b4 f0 f1 f2 f3 f4
  refine ((unhide CK1) _ (unhide SD).bx).mono ?_
  rintro e y1 ⟨rfl, hb, hk⟩
  have SE := hide ((unhide SD).call hk hb)
  clear hb hk SD CK1
  go_upto_if 33 with fail
  go_cut [] from 33 (fun wx => Hid (∃ (a' : Int) (X : Nat × Bool), Sq t w wx (.string (strOfNums a.1)) (.string (strOfNums b.1)) (.string (strOfNums c.1)) (.string (strOfNums d.1)) (.int .i64 a') X ∧ agS t d.2 = (a', X.1, X.2)))
  case first =>
    cases hq : isS t 32 d.2 with
    | false =>
      rw [if_neg (by rw [hq]; decide)] at SE
      have HA := agS_no hq
      clear hq
      go_wp2
      go_meet
      exact hide ⟨0, d.2, unhide SE, HA⟩
    | true =>
      rw [if_pos hq] at SE
      have HA := hide (agS_yes hq)
      have LE : (sgS t 124 (d.2.1 + 1, d.2.2)).1 ≤ t.size := sgS_le (by
        unfold isS at hq
        simp only [Bool.and_eq_true, decide_eq_true_eq] at hq
        exact hq.2.1)
      clear hq
      go_wp2_with fail
      refine ((unhide CS2) _ (unhide SE).bx).mono ?_
      rintro e y2 ⟨rfl, hb, hk⟩
      have SF := hide ((unhide SE).call hk hb)
      obtain ⟨⟨b0, b1, b2, b3, b4⟩, ⟨f0, f1, f2, f3, f4⟩⟩ := five_cellsU (unhide SF).rb
      have SG := hide ((unhide SF).put4 (.int .i64 1))
      clear hb hk SE
      generalize sgS t 124 (d.2.1 + 1, d.2.2) = X0 at *
      go_wp2
      clear b0 b1 b2 b3 b4 f0 f1 f2 f3 f4
      go_loopw [] (fun wr => ∃ (a' : Int) (X : Nat × Bool), X.1 ≤ t.size ∧ 0 ≤ a' ∧ a' ≤ (X.1 : Int) + 1 ∧ Hid (Sq t w wr (.string (strOfNums a.1)) (.string (strOfNums b.1)) (.string (strOfNums c.1)) (.string (strOfNums d.1)) (.int .i64 a') X) ∧ Hid (agS t d.2 = agR t X a')) (fun wr => t.size - rs (w.heap.size + 1) wr)
      case atStart => exact ⟨1, X0, LE, by omega, by omega, SG, HA⟩
      case round =>
        obtain ⟨a', X, hXl, ha0, ha1, HS, HA'⟩ := hrel
        clear SF SG HA LE
        go_wp2_with fail
        refine ((unhide CK2) X _ (unhide HS).bx).mono ?_
        rintro e z ⟨rfl, hb, hk⟩
        have HS2 := hide ((unhide HS).call hk hb)
        clear hb hk
        cases hq2 : isS t 124 X with
        | false =>
          rw [if_neg (by rw [hq2]; decide)] at HS2
          have HA2 := (unhide HA').trans (agR_end hq2)
          clear hq2
          go_wp2
          go_meet
          exact hide ⟨a', X, unhide HS2, HA2⟩
        | true =>
          rw [if_pos hq2] at HS2
          have HA2 := hide ((unhide HA').trans (agR_on (a := a') hq2).symm)
          have hlt : X.1 < t.size := by
            unfold isS at hq2
            simp only [Bool.and_eq_true, decide_eq_true_eq] at hq2
            exact hq2.2.1
          obtain ⟨⟨b0, b1, b2, b3, b4⟩, ⟨f0, f1, f2, f3, f4⟩⟩ := five_cellsU (unhide HS2).rb
          have HS3 := hide ((unhide HS2).put4 (.int .i64 (a' + 1)))
          have HRS := hide (unhide HS).bx.rs
          clear hq2 HS HS2
          go_wp2
          go_roundw
          case rel => exact ⟨a' + 1, (X.1 + 1, X.2), hlt, by omega, by simp; omega, HS3, HA2⟩
          case measure => rw [(unhide HS3).bx.rs, unhide HRS]; simp only; omega
  case rest =>
    obtain ⟨g, X, SH', HA⟩ := unhide hcut
    obtain ⟨k, q⟩ := X
    rw [HA] at HR
    simp only at HR
    have SH := hide SH'
    clear hcut SH' HA CK2 CS2 SE
    obtain ⟨⟨b0, b1, b2, b3, b4⟩, _⟩ := five_cellsU (unhide SH).rb
    obtain ⟨⟨c0, c1, c2⟩, _⟩ := three_cellsR (unhide SH).bx
    simp only at c0 c1 c2
    cases q with
    | true =>
      go_wp2_with fail
      have KS : (fun w' => w'.cell? ⟨w.heap.size + 2, 0, none⟩ = some (.string (strOfNums a.1)) ∧ w'.cell? ⟨w.heap.size + 2, 1, none⟩ = some (.string (strOfNums b.1)) ∧ w'.cell? ⟨w.heap.size + 2, 2, none⟩ = some (.string (strOfNums c.1)) ∧ w'.cell? ⟨w.heap.size + 2, 3, none⟩ = some (.string (strOfNums d.1)) ∧ w'.cell? ⟨w.heap.size + 2, 4, none⟩ = some (.int .i64 g) ∧ w'.cell? ⟨w.heap.size + 1, 1, none⟩ = some (.int .i64 (k : Int)) ∧ w'.cell? ⟨w.heap.size + 1, 2, none⟩ = some (.bool true)) wc := ⟨b0, b1, b2, b3, b4, c1, c2⟩
      refine wp_region_held_drew (S := fun w' => w'.cell? ⟨w.heap.size + 2, 0, none⟩ = some (.string (strOfNums a.1)) ∧ w'.cell? ⟨w.heap.size + 2, 1, none⟩ = some (.string (strOfNums b.1)) ∧ w'.cell? ⟨w.heap.size + 2, 2, none⟩ = some (.string (strOfNums c.1)) ∧ w'.cell? ⟨w.heap.size + 2, 3, none⟩ = some (.string (strOfNums d.1)) ∧ w'.cell? ⟨w.heap.size + 2, 4, none⟩ = some (.int .i64 g) ∧ w'.cell? ⟨w.heap.size + 1, 1, none⟩ = some (.int .i64 (k : Int)) ∧ w'.cell? ⟨w.heap.size + 1, 2, none⟩ = some (.bool true)) (by kernel_rfl) (by exact KS) (fun hHeld => ?_)
      refine tkP (i := 0) (d := some 43) (v := ?_) rfl rfl (by kernel_rfl) (by kernel_rfl) (by kernel_rfl) (fun _ _ _ h => h) (Or.inl ⟨by rfl, ?_⟩) (by assumption) ?_
      rotate_left
      · intro w hSw; (try dsimp only at hSw); go_simp; try with_reducible rfl
      try simp only [Act.put, List.setIfInBounds_toArray, List.set_cons_zero, List.set_cons_succ]
      refine tkP (i := 1) (d := some 44) (v := ?_) rfl rfl (by kernel_rfl) (by kernel_rfl) (by kernel_rfl) (fun _ _ _ h => h) (Or.inl ⟨by rfl, ?_⟩) (by assumption) ?_
      rotate_left
      · intro w hSw; (try dsimp only at hSw); go_simp; try with_reducible rfl
      try simp only [Act.put, List.setIfInBounds_toArray, List.set_cons_zero, List.set_cons_succ]
      refine tkP (i := 2) (d := some 45) (v := ?_) rfl rfl (by kernel_rfl) (by kernel_rfl) (by kernel_rfl) (fun _ _ _ h => h) (Or.inl ⟨by rfl, ?_⟩) (by assumption) ?_
      rotate_left
      · intro w hSw; (try dsimp only at hSw); go_simp; try with_reducible rfl
      try simp only [Act.put, List.setIfInBounds_toArray, List.set_cons_zero, List.set_cons_succ]
      refine tkP (i := 3) (d := some 46) (v := ?_) rfl rfl (by kernel_rfl) (by kernel_rfl) (by kernel_rfl) (fun _ _ _ h => h) (Or.inl ⟨by rfl, ?_⟩) (by assumption) ?_
      rotate_left
      · intro w hSw; (try dsimp only at hSw); go_simp; try with_reducible rfl
      try simp only [Act.put, List.setIfInBounds_toArray, List.set_cons_zero, List.set_cons_succ]
      refine tkP (i := 4) (d := some 47) (v := ?_) rfl rfl (by kernel_rfl) (by kernel_rfl) (by kernel_rfl) (fun _ _ _ h => h) (Or.inl ⟨by rfl, ?_⟩) (by assumption) ?_
      rotate_left
      · intro w hSw; (try dsimp only at hSw); go_simp; try with_reducible rfl
      try simp only [Act.put, List.setIfInBounds_toArray, List.set_cons_zero, List.set_cons_succ]
      refine tkP (i := 5) (d := some 48) (v := ?_) rfl rfl (by kernel_rfl) (by kernel_rfl) (by kernel_rfl) (fun _ _ _ h => h) (Or.inl ⟨by rfl, ?_⟩) (by assumption) ?_
      rotate_left
      · intro w hSw; (try dsimp only at hSw); go_simp; try with_reducible rfl
      try simp only [Act.put, List.setIfInBounds_toArray, List.set_cons_zero, List.set_cons_succ]
      refine tkP (i := 6) (d := some 49) (v := ?_) rfl rfl (by kernel_rfl) (by kernel_rfl) (by kernel_rfl) (fun _ _ _ h => h) (Or.inl ⟨by rfl, ?_⟩) (by assumption) ?_
      rotate_left
      · intro w hSw; (try dsimp only at hSw); go_simp; try with_reducible rfl
      try simp only [Act.put, List.setIfInBounds_toArray, List.set_cons_zero, List.set_cons_succ]
      refine tkP (i := 7) (d := some 50) (v := undef) rfl rfl (by kernel_rfl) (by kernel_rfl) (by kernel_rfl) (fun _ _ _ h => h) (Or.inr ⟨by rfl, rfl⟩) (by assumption) ?_
      try simp only [Act.put, List.setIfInBounds_toArray, List.set_cons_zero, List.set_cons_succ]
      refine tkP (i := 8) (d := some 51) (v := undef) rfl rfl (by kernel_rfl) (by kernel_rfl) (by kernel_rfl) (fun _ _ _ h => h) (Or.inr ⟨by rfl, rfl⟩) (by assumption) ?_
      try simp only [Act.put, List.setIfInBounds_toArray, List.set_cons_zero, List.set_cons_succ]
      refine tkP (i := 9) (d := some 52) (v := undef) rfl rfl (by kernel_rfl) (by kernel_rfl) (by kernel_rfl) (fun _ _ _ h => h) (Or.inr ⟨by rfl, rfl⟩) (by assumption) ?_
      try simp only [Act.put, List.setIfInBounds_toArray, List.set_cons_zero, List.set_cons_succ]
      refine tkP (i := 10) (d := some 53) (v := undef) rfl rfl (by kernel_rfl) (by kernel_rfl) (by kernel_rfl) (fun _ _ _ h => h) (Or.inr ⟨by rfl, rfl⟩) (by assumption) ?_
      try simp only [Act.put, List.setIfInBounds_toArray, List.set_cons_zero, List.set_cons_succ]
      refine tkP (i := 11) (d := some 54) (v := undef) rfl rfl (by kernel_rfl) (by kernel_rfl) (by kernel_rfl) (fun _ _ _ h => h) (Or.inr ⟨by rfl, rfl⟩) (by assumption) ?_
      try simp only [Act.put, List.setIfInBounds_toArray, List.set_cons_zero, List.set_cons_succ]
      refine tkP (i := 12) (d := some 55) (v := undef) rfl rfl (by kernel_rfl) (by kernel_rfl) (by kernel_rfl) (fun _ _ _ h => h) (Or.inr ⟨by rfl, rfl⟩) (by assumption) ?_
      try simp only [Act.put, List.setIfInBounds_toArray, List.set_cons_zero, List.set_cons_succ]
      refine tkP (i := 13) (d := some 56) (v := undef) rfl rfl (by kernel_rfl) (by kernel_rfl) (by kernel_rfl) (fun _ _ _ h => h) (Or.inr ⟨by rfl, rfl⟩) (by assumption) ?_
      try simp only [Act.put, List.setIfInBounds_toArray, List.set_cons_zero, List.set_cons_succ]
      refine tkP (i := 14) (d := some 57) (v := ?_) rfl rfl (by kernel_rfl) (by kernel_rfl) (by kernel_rfl) (fun _ _ _ h => h) (Or.inl ⟨by rfl, ?_⟩) (by assumption) ?_
      rotate_left
      · intro w hSw; (try dsimp only at hSw); go_simp; try with_reducible rfl
      try simp only [Act.put, List.setIfInBounds_toArray, List.set_cons_zero, List.set_cons_succ]
      have T0' := (unhide SH).drew
      have T0 : Hid (Su t w wc.drew (.string ⟨#[]⟩) (.string ⟨#[]⟩) (.string ⟨#[]⟩) (.string ⟨#[]⟩) (.int .i64 0) (.string (strOfNums a.1)) (.string (strOfNums b.1)) (.string (strOfNums c.1)) (.string (strOfNums d.1)) (.int .i64 g) (k, true)) := hide ⟨T0'.bel, T0'.zb, T0'.rb, T0'.bx⟩
      clear b0 b1 b2 b3 b4 c0 c1 c2 KS T0' SH
      generalize wc.drew = yd at *
      have T1 := hide ((unhide T0).put0 (.string (strOfNums a.1)))
      have T2 := hide ((unhide T1).put1 (.string (strOfNums b.1)))
      have T3 := hide ((unhide T2).put2 (.string (strOfNums c.1)))
      have T4 := hide ((unhide T3).put3 (.string (strOfNums d.1)))
      have T5 := hide ((unhide T4).put4 (.int .i64 g))
      obtain ⟨⟨n00, n01, n02, n03, n04⟩, ⟨q00, q01, q02, q03, q04⟩⟩ := five_cellsU (unhide T0).zb
      obtain ⟨⟨n10, n11, n12, n13, n14⟩, ⟨q10, q11, q12, q13, q14⟩⟩ := five_cellsU (unhide T1).zb
      clear n10 n12 n13 n14 q10 q12 q13 q14
      obtain ⟨⟨n20, n21, n22, n23, n24⟩, ⟨q20, q21, q22, q23, q24⟩⟩ := five_cellsU (unhide T2).zb
      clear n20 n21 n23 n24 q20 q21 q23 q24
      obtain ⟨⟨n30, n31, n32, n33, n34⟩, ⟨q30, q31, q32, q33, q34⟩⟩ := five_cellsU (unhide T3).zb
      clear n30 n31 n32 n34 q30 q31 q32 q34
      obtain ⟨⟨n40, n41, n42, n43, n44⟩, ⟨q40, q41, q42, q43, q44⟩⟩ := five_cellsU (unhide T4).zb
      clear n40 n41 n42 n43 q40 q41 q42 q43
      refine wpAnyH_ready (rs := [15]) (by kernel_rfl) (by simp) (AllReadyH.cons rfl (fun K hK => ?_) AllReadyH.nil)
      go_simp
      obtain ⟨⟨m0, m1, m2, m3, m4⟩, _⟩ := five_cellsU (unhide T5).rb
      obtain ⟨⟨j0, j1, j2⟩, _⟩ := three_cellsR (unhide T5).bx
      simp only at j0 j1 j2
      obtain ⟨⟨p0, p1, p2, p3, p4⟩, _⟩ := five_cellsU (unhide T5).zb
      refine hK.out _ _ ⟨m0, m1, m2, m3, m4, j1, j2⟩ (fun hHeld9 => ?_)
      clear hK K
      try simp only [Act.put, List.setIfInBounds_toArray, List.set_cons_zero, List.set_cons_succ]
      refine tkP (i := 16) (d := some 3) (v := ?_) rfl rfl (by kernel_rfl) (by kernel_rfl) (by kernel_rfl) (fun _ _ _ h => h) (Or.inl ⟨by rfl, ?_⟩) (by assumption) ?_
      rotate_left
      · intro w hSw; (try dsimp only at hSw); go_simp; try with_reducible rfl
      try simp only [Act.put, List.setIfInBounds_toArray, List.set_cons_zero, List.set_cons_succ]
      refine wpAnyH_done (by kernel_rfl) ?_ _
      clear n00 n01 n02 n03 n04 q00 q01 q02 q03 q04 n11 q11 n22 q22 n33 q33 n44 q44 j0 j1 j2 T0 T1 T2 T3 T4
      generalize (((((yd.setCell ⟨w.heap.size, 0, none⟩ (.string (strOfNums a.1))).setCell ⟨w.heap.size, 1, none⟩ (.string (strOfNums b.1))).setCell ⟨w.heap.size, 2, none⟩ (.string (strOfNums c.1))).setCell ⟨w.heap.size, 3, none⟩ (.string (strOfNums d.1))).setCell ⟨w.heap.size, 4, none⟩ (.int .i64 g)) = w5 at *
      go_wp2
      refine bodyPost_ret (v := .tuple #[.agg #[(.string (strOfNums a.1)), (.string (strOfNums b.1)), (.string (strOfNums c.1)), (.string (strOfNums d.1)), (.int .i64 g)], .bool false]) (by simp [results, Tryd.results24, go_sem, p0, p1, p2, p3, p4]; try rfl) rfl ?_
      rw [unhide HR]
      exact ⟨rfl, (unhide T5).bel⟩
    | false =>
      go_wp2_with fail
      have KS : (fun w' => w'.cell? ⟨w.heap.size + 2, 0, none⟩ = some (.string (strOfNums a.1)) ∧ w'.cell? ⟨w.heap.size + 2, 1, none⟩ = some (.string (strOfNums b.1)) ∧ w'.cell? ⟨w.heap.size + 2, 2, none⟩ = some (.string (strOfNums c.1)) ∧ w'.cell? ⟨w.heap.size + 2, 3, none⟩ = some (.string (strOfNums d.1)) ∧ w'.cell? ⟨w.heap.size + 2, 4, none⟩ = some (.int .i64 g) ∧ w'.cell? ⟨w.heap.size + 1, 1, none⟩ = some (.int .i64 (k : Int)) ∧ w'.cell? ⟨w.heap.size + 1, 2, none⟩ = some (.bool false)) wc := ⟨b0, b1, b2, b3, b4, c1, c2⟩
      refine wp_region_held_drew (S := fun w' => w'.cell? ⟨w.heap.size + 2, 0, none⟩ = some (.string (strOfNums a.1)) ∧ w'.cell? ⟨w.heap.size + 2, 1, none⟩ = some (.string (strOfNums b.1)) ∧ w'.cell? ⟨w.heap.size + 2, 2, none⟩ = some (.string (strOfNums c.1)) ∧ w'.cell? ⟨w.heap.size + 2, 3, none⟩ = some (.string (strOfNums d.1)) ∧ w'.cell? ⟨w.heap.size + 2, 4, none⟩ = some (.int .i64 g) ∧ w'.cell? ⟨w.heap.size + 1, 1, none⟩ = some (.int .i64 (k : Int)) ∧ w'.cell? ⟨w.heap.size + 1, 2, none⟩ = some (.bool false)) (by kernel_rfl) (by exact KS) (fun hHeld => ?_)
      refine tkP (i := 0) (d := some 43) (v := ?_) rfl rfl (by kernel_rfl) (by kernel_rfl) (by kernel_rfl) (fun _ _ _ h => h) (Or.inl ⟨by rfl, ?_⟩) (by assumption) ?_
      rotate_left
      · intro w hSw; (try dsimp only at hSw); go_simp; try with_reducible rfl
      try simp only [Act.put, List.setIfInBounds_toArray, List.set_cons_zero, List.set_cons_succ]
      refine tkP (i := 1) (d := some 44) (v := ?_) rfl rfl (by kernel_rfl) (by kernel_rfl) (by kernel_rfl) (fun _ _ _ h => h) (Or.inl ⟨by rfl, ?_⟩) (by assumption) ?_
      rotate_left
      · intro w hSw; (try dsimp only at hSw); go_simp; try with_reducible rfl
      try simp only [Act.put, List.setIfInBounds_toArray, List.set_cons_zero, List.set_cons_succ]
      refine tkP (i := 2) (d := some 45) (v := ?_) rfl rfl (by kernel_rfl) (by kernel_rfl) (by kernel_rfl) (fun _ _ _ h => h) (Or.inl ⟨by rfl, ?_⟩) (by assumption) ?_
      rotate_left
      · intro w hSw; (try dsimp only at hSw); go_simp; try with_reducible rfl
      try simp only [Act.put, List.setIfInBounds_toArray, List.set_cons_zero, List.set_cons_succ]
      refine tkP (i := 3) (d := some 46) (v := ?_) rfl rfl (by kernel_rfl) (by kernel_rfl) (by kernel_rfl) (fun _ _ _ h => h) (Or.inl ⟨by rfl, ?_⟩) (by assumption) ?_
      rotate_left
      · intro w hSw; (try dsimp only at hSw); go_simp; try with_reducible rfl
      try simp only [Act.put, List.setIfInBounds_toArray, List.set_cons_zero, List.set_cons_succ]
      refine tkP (i := 4) (d := some 47) (v := ?_) rfl rfl (by kernel_rfl) (by kernel_rfl) (by kernel_rfl) (fun _ _ _ h => h) (Or.inl ⟨by rfl, ?_⟩) (by assumption) ?_
      rotate_left
      · intro w hSw; (try dsimp only at hSw); go_simp; try with_reducible rfl
      try simp only [Act.put, List.setIfInBounds_toArray, List.set_cons_zero, List.set_cons_succ]
      refine tkP (i := 5) (d := some 48) (v := ?_) rfl rfl (by kernel_rfl) (by kernel_rfl) (by kernel_rfl) (fun _ _ _ h => h) (Or.inl ⟨by rfl, ?_⟩) (by assumption) ?_
      rotate_left
      · intro w hSw; (try dsimp only at hSw); go_simp; try with_reducible rfl
      try simp only [Act.put, List.setIfInBounds_toArray, List.set_cons_zero, List.set_cons_succ]
      refine tkP (i := 6) (d := some 49) (v := ?_) rfl rfl (by kernel_rfl) (by kernel_rfl) (by kernel_rfl) (fun _ _ _ h => h) (Or.inl ⟨by rfl, ?_⟩) (by assumption) ?_
      rotate_left
      · intro w hSw; (try dsimp only at hSw); go_simp; try with_reducible rfl
      try simp only [Act.put, List.setIfInBounds_toArray, List.set_cons_zero, List.set_cons_succ]
      refine tkP (i := 7) (d := some 50) (v := ?_) rfl rfl (by kernel_rfl) (by kernel_rfl) (by kernel_rfl) (fun _ _ _ h => h) (Or.inl ⟨by rfl, ?_⟩) (by assumption) ?_
      rotate_left
      · intro w hSw; (try dsimp only at hSw); go_simp; try with_reducible rfl
      try simp only [Act.put, List.setIfInBounds_toArray, List.set_cons_zero, List.set_cons_succ]
      refine tkP (i := 8) (d := some 51) (v := ?_) rfl rfl (by kernel_rfl) (by kernel_rfl) (by kernel_rfl) (fun _ _ _ h => h) (Or.inl ⟨by rfl, ?_⟩) (by assumption) ?_
      rotate_left
      · intro w hSw; (try dsimp only at hSw); go_simp; try with_reducible rfl
      try simp only [Act.put, List.setIfInBounds_toArray, List.set_cons_zero, List.set_cons_succ]
      refine tkP (i := 9) (d := some 52) (v := ?_) rfl rfl (by kernel_rfl) (by kernel_rfl) (by kernel_rfl) (fun _ _ _ h => h) (Or.inl ⟨by rfl, ?_⟩) (by assumption) ?_
      rotate_left
      · intro w hSw; (try dsimp only at hSw); go_simp; try with_reducible rfl
      try simp only [Act.put, List.setIfInBounds_toArray, List.set_cons_zero, List.set_cons_succ]
      refine tkP (i := 10) (d := some 53) (v := ?_) rfl rfl (by kernel_rfl) (by kernel_rfl) (by kernel_rfl) (fun _ _ _ h => h) (Or.inl ⟨by rfl, ?_⟩) (by assumption) ?_
      rotate_left
      · intro w hSw; (try dsimp only at hSw); go_simp; try with_reducible rfl
      try simp only [Act.put, List.setIfInBounds_toArray, List.set_cons_zero, List.set_cons_succ]
      refine tkP (i := 11) (d := some 54) (v := ?_) rfl rfl (by kernel_rfl) (by kernel_rfl) (by kernel_rfl) (fun _ _ _ h => h) (Or.inl ⟨by rfl, ?_⟩) (by assumption) ?_
      rotate_left
      · intro w hSw; (try dsimp only at hSw); go_simp; try with_reducible rfl
      try simp only [Act.put, List.setIfInBounds_toArray, List.set_cons_zero, List.set_cons_succ]
      refine tkP (i := 12) (d := some 55) (v := ?_) rfl rfl (by kernel_rfl) (by kernel_rfl) (by kernel_rfl) (fun _ _ _ h => h) (Or.inl ⟨by rfl, ?_⟩) (by assumption) ?_
      rotate_left
      · intro w hSw; (try dsimp only at hSw); go_simp; try with_reducible rfl
      try simp only [Act.put, List.setIfInBounds_toArray, List.set_cons_zero, List.set_cons_succ]
      refine tkP (i := 13) (d := some 56) (v := ?_) rfl rfl (by kernel_rfl) (by kernel_rfl) (by kernel_rfl) (fun _ _ _ h => h) (Or.inl ⟨by rfl, ?_⟩) (by assumption) ?_
      rotate_left
      · intro w hSw; (try dsimp only at hSw); go_simp; try with_reducible rfl
      try simp only [Act.put, List.setIfInBounds_toArray, List.set_cons_zero, List.set_cons_succ]
      refine tkP (i := 14) (d := some 57) (v := ?_) rfl rfl (by kernel_rfl) (by kernel_rfl) (by kernel_rfl) (fun _ _ _ h => h) (Or.inl ⟨by rfl, ?_⟩) (by assumption) ?_
      rotate_left
      · intro w hSw; (try dsimp only at hSw); go_simp; try with_reducible rfl
      try simp only [Act.put, List.setIfInBounds_toArray, List.set_cons_zero, List.set_cons_succ]
      have T0' := (unhide SH).drew
      have T0 : Hid (Su t w wc.drew (.string ⟨#[]⟩) (.string ⟨#[]⟩) (.string ⟨#[]⟩) (.string ⟨#[]⟩) (.int .i64 0) (.string (strOfNums a.1)) (.string (strOfNums b.1)) (.string (strOfNums c.1)) (.string (strOfNums d.1)) (.int .i64 g) (k, false)) := hide ⟨T0'.bel, T0'.zb, T0'.rb, T0'.bx⟩
      clear b0 b1 b2 b3 b4 c0 c1 c2 KS T0' SH
      generalize wc.drew = yd at *
      have T1 := hide ((unhide T0).put0 (.string (strOfNums a.1)))
      have T2 := hide ((unhide T1).put1 (.string (strOfNums b.1)))
      have T3 := hide ((unhide T2).put2 (.string (strOfNums c.1)))
      have T4 := hide ((unhide T3).put3 (.string (strOfNums d.1)))
      have T5 := hide ((unhide T4).put4 (.int .i64 g))
      obtain ⟨⟨n00, n01, n02, n03, n04⟩, ⟨q00, q01, q02, q03, q04⟩⟩ := five_cellsU (unhide T0).zb
      obtain ⟨⟨n10, n11, n12, n13, n14⟩, ⟨q10, q11, q12, q13, q14⟩⟩ := five_cellsU (unhide T1).zb
      clear n10 n12 n13 n14 q10 q12 q13 q14
      obtain ⟨⟨n20, n21, n22, n23, n24⟩, ⟨q20, q21, q22, q23, q24⟩⟩ := five_cellsU (unhide T2).zb
      clear n20 n21 n23 n24 q20 q21 q23 q24
      obtain ⟨⟨n30, n31, n32, n33, n34⟩, ⟨q30, q31, q32, q33, q34⟩⟩ := five_cellsU (unhide T3).zb
      clear n30 n31 n32 n34 q30 q31 q32 q34
      obtain ⟨⟨n40, n41, n42, n43, n44⟩, ⟨q40, q41, q42, q43, q44⟩⟩ := five_cellsU (unhide T4).zb
      clear n40 n41 n42 n43 q40 q41 q42 q43
      refine wpAnyH_ready (rs := [15]) (by kernel_rfl) (by simp) (AllReadyH.cons rfl (fun K hK => ?_) AllReadyH.nil)
      go_simp
      obtain ⟨⟨m0, m1, m2, m3, m4⟩, _⟩ := five_cellsU (unhide T5).rb
      obtain ⟨⟨j0, j1, j2⟩, _⟩ := three_cellsR (unhide T5).bx
      simp only at j0 j1 j2
      obtain ⟨⟨p0, p1, p2, p3, p4⟩, _⟩ := five_cellsU (unhide T5).zb
      refine hK.out _ _ ⟨m0, m1, m2, m3, m4, j1, j2⟩ (fun hHeld9 => ?_)
      clear hK K
      try simp only [Act.put, List.setIfInBounds_toArray, List.set_cons_zero, List.set_cons_succ]
      refine tkP (i := 16) (d := some 3) (v := ?_) rfl rfl (by kernel_rfl) (by kernel_rfl) (by kernel_rfl) (fun _ _ _ h => h) (Or.inl ⟨by rfl, ?_⟩) (by assumption) ?_
      rotate_left
      · intro w hSw; (try dsimp only at hSw); go_simp; try with_reducible rfl
      try simp only [Act.put, List.setIfInBounds_toArray, List.set_cons_zero, List.set_cons_succ]
      refine wpAnyH_done (by kernel_rfl) ?_ _
      clear n00 n01 n02 n03 n04 q00 q01 q02 q03 q04 n11 q11 n22 q22 n33 q33 n44 q44 j0 j1 j2 T0 T1 T2 T3 T4
      generalize (((((yd.setCell ⟨w.heap.size, 0, none⟩ (.string (strOfNums a.1))).setCell ⟨w.heap.size, 1, none⟩ (.string (strOfNums b.1))).setCell ⟨w.heap.size, 2, none⟩ (.string (strOfNums c.1))).setCell ⟨w.heap.size, 3, none⟩ (.string (strOfNums d.1))).setCell ⟨w.heap.size, 4, none⟩ (.int .i64 g)) = w5 at *
      go_wp2
      refine bodyPost_ret (v := .tuple #[.agg #[(.string (strOfNums a.1)), (.string (strOfNums b.1)), (.string (strOfNums c.1)), (.string (strOfNums d.1)), (.int .i64 g)], .bool ((k : Int) == (t.size : Int))]) (by simp [results, Tryd.results24, go_sem, p0, p1, p2, p3, p4]; try rfl) rfl ?_
      rw [unhide HR]
      rw [show ((k : Int) == (t.size : Int)) = (!false && decide (k = t.size)) by rw [Bool.not_false, Bool.true_and, Bool.eq_iff_iff, beq_iff_eq, decide_eq_true_eq]; omega]
      exact ⟨rfl, (unhide T5).bel⟩
end Go.Proofs.YtklakcnapdhcnaaDoor.Pas
