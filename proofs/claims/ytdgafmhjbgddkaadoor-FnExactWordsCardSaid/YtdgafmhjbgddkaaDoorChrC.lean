/- The places of the points that start a piece, as the program tells them. -/
import Derived.Test.YtdgafmhjbgddkaaDoorChrB
namespace Go.Proofs.YtdgafmhjbgddkaaDoor
namespace Chr
open Go.RowKit
theorem steps_grow (s : ByteArray) (n m : Nat) : (steps s n).1.length ≤ (steps s (n + m)).1.length := by
  induction m with
  | zero => exact Nat.le_refl _
  | succ m ih =>
    refine Nat.le_trans ih ?_
    show _ ≤ (if (steps s (n + m)).2 < s.size then _ else steps s (n + m)).1.length
    split
    · simp
    · exact Nat.le_refl _
theorem lt_pts {s : ByteArray} {n pos : Nat} {L : List Int} (h : steps s n = (L, pos)) (hp : pos < s.size) : L.length < (pts s).length := by
  have h1 := pts_step h hp
  have h2 := steps_grow s (n + 1) s.size
  have h3 : s.size ≤ (steps s (n + 1 + s.size)).2 := by
    rcases steps_go s (n + 1 + s.size) with h | h <;> omega
  rw [steps_pts s _ h3, h1] at h2
  simp at h2
  omega
/-- The places among the first k points with which a piece starts. -/
def ctk (s : ByteArray) (B : List Bool) : Nat → List Int
  | 0 => []
  | k + 1 => ctk s B k ++ (if B.getD k false then [((steps s k).2 : Int)] else [])
theorem ctk_len (s : ByteArray) (B : List Bool) (k : Nat) : (ctk s B k).length ≤ k := by
  induction k with
  | zero => exact Nat.le_refl _
  | succ k ih =>
    unfold ctk
    split <;> simp <;> omega
def cutsL (s : ByteArray) (B : List Bool) : List Int := if B.length = 0 then [] else ctk s B B.length ++ [(s.size : Int)]
def BoolsAt (w : World) (g : Nat) (B : List Bool) : Prop := g < w.heap.size ∧ ∀ i, i < B.length → w.cell? ⟨g, i, none⟩ = some (.bool (B.getD i false))
theorem BoolsAt.below {w w' : World} {g : Nat} {B : List Bool} (h : BoolsAt w g B) (hb : Below w.heap.size w w') : BoolsAt w' g B :=
  ⟨Nat.lt_of_lt_of_le h.1 hb.size, fun i hi => by rw [hb.cell (p := ⟨g, i, none⟩) h.1]; exact h.2 i hi⟩
theorem bools_of {w : World} {g : Nat} {B : List Bool} (h : w.heap[g]? = some (.cells (B.map Value.bool).toArray 4 (0, 0))) : BoolsAt w g B := by
  refine ⟨(Array.getElem?_eq_some_iff.1 h).1, fun i hi => ?_⟩
  simp [World.cell?, h, List.getD_eq_getElem?_getD, hi]
set_option maxRecDepth 100000 in
set_option maxHeartbeats 4000000 in
theorem cutsAhead_any (s : ByteArray) (g c : Nat) (B : List Bool) (w : World) (hs : s.size ≤ 65536) (hB : B.length = (pts s).length) (hb : BoolsAt w g B) : Calls Tryd.prog 21 #[.string s, .slice (some ⟨g, 0, none⟩) B.length c] w fun e w' =>
    ∃ v, e = .returned v ∧ w'.ownsRow w.heap.size 2 1 v (cutsL s B).length ((cutsL s B).map (Value.int .i64)) ∧ Below w.heap.size w w' := by
  by_cases h0 : B.length = 0
  · have HL := hide (show cutsL s B = [] from if_pos h0)
    have h0' : ((B.length : Int) == 0) = true := by simp [h0]
    clear hb
    go_enter Tryd.func21, Tryd.ntmps21
    go_wp2
    go_ret
    refine ⟨_, rfl, ?_, Below.refl _ _⟩
    rw [unhide HL]
    exact World.ownsRow_nil _ _ _ _
  · have HL := hide (show cutsL s B = ctk s B B.length ++ [(s.size : Int)] from if_neg h0)
    have h0' : ((B.length : Int) == 0) = false := by rw [beq_eq_false_iff_ne]; omega
    obtain ⟨i0, hi, hz0, hz1, hz2⟩ := info_parts info2
    have HBS := hide hb
    have HBL := hide hB
    have hg := hb.1
    clear hb h0 hB
    have HO0 : Hid ((w.iter s 0).ownsRow w.heap.size 2 1 (.slice none 0 0) (ctk s B 0).length ((ctk s B 0).map (Value.int .i64))) := hide (World.ownsRow_nil _ _ _ _)
    have HB0 : Hid (Below w.heap.size w (w.iter s 0)) := hide ((Below.refl _ _).alloc (Nat.le_refl _) _)
    have HI0 : Hid ((w.iter s 0).heap[w.heap.size]? = some (.stringIter s 0)) := hide (World.iter_heap w s 0)
    go_enter Tryd.func21, Tryd.ntmps21
    go_wp2
    go_loopw [5, 6] (fun v x wr => ∃ (n : Nat) (L : List Int) (pos : Nat), x = .int .i64 n ∧ Hid (steps s n = (L, pos)) ∧ pos ≤ s.size ∧ L.length = n ∧ n ≤ pos ∧ Hid (wr.heap[w.heap.size]? = some (.stringIter s pos)) ∧ Hid (wr.ownsRow w.heap.size 2 1 v (ctk s B n).length ((ctk s B n).map (Value.int .i64))) ∧ Hid (Below w.heap.size w wr)) (fun _ _ wr => s.size - wr.iterPos w.heap.size)
    case atStart => exact ⟨0, [], 0, rfl, hide rfl, by omega, rfl, by omega, HI0, HO0, HB0⟩
    case round =>
      obtain ⟨n, L, pos, rfl, HS, hpos, hL, hnp, HI, HO, HB⟩ := hrel
      clear HO0 HB0 HI0
      have HM := hide (iterPos_of (unhide HI))
      by_cases hlt : pos < s.size
      · have hbd := dN_bd s pos hlt
        have d1 := hbd.1
        have d2 := hbd.2.1
        have hBs := (unhide HB).size
        have HS' := hide (pts_step (unhide HS) hlt)
        have hnB : n < B.length := by rw [unhide HBL, ← hL]; exact lt_pts (unhide HS) hlt
        have hnx : ∀ ty, (Instr.next (.pointer (some ⟨w.heap.size, 0, none⟩)) true ty).run Tryd.prog wr = .ok (.tuple #[.bool true, .int .i64 pos, .int .i32 (dP s pos)]) (wr.iterAt w.heap.size s (pos + dN s pos)) := fun ty => Lib.run_next_any_at wr _ s pos ty (unhide HI) hlt
        obtain ⟨w2, hw2⟩ : ∃ w2, wr.iterAt w.heap.size s (pos + dN s pos) = w2 := ⟨_, rfl⟩
        rw [hw2] at hnx
        have HI2 : Hid (w2.heap[w.heap.size]? = some (.stringIter s (pos + dN s pos))) := hide (by rw [← hw2]; exact Lib.iterAt_heap wr _ s pos _ (unhide HI))
        have HO2 : Hid (w2.ownsRow w.heap.size 2 1 _ (ctk s B n).length ((ctk s B n).map (Value.int .i64))) := hide (by rw [← hw2]; exact owned_iterAt (unhide HO) (unhide HI) _)
        have HB2 : Hid (Below w.heap.size wr w2) := hide (by rw [← hw2]; exact Lib.below_iterAt (Below.refl _ _) (Nat.le_refl _) _ _)
        have hs2 : wr.heap.size ≤ w2.heap.size := (unhide HB2).size
        have HB3 := hide ((unhide HB).trans (unhide HB2))
        have hcell := ((unhide HBS).below (unhide HB3)).2 n hnB
        have hg2 : g < w2.heap.size := by omega
        have hpn : (steps s n).2 = pos := by rw [unhide HS]
        have HC : Hid (ctk s B (n + 1) = ctk s B n ++ (if B.getD n false then [(pos : Int)] else [])) := hide (by show ctk s B n ++ (if B.getD n false then [((steps s n).2 : Int)] else []) = _; rw [hpn])
        have hcl := ctk_len s B n
        clear hbd hw2 hpn
        cases hbn : B.getD n false
        · rw [hbn] at hcell HC
          have HC' : Hid (ctk s B (n + 1) = ctk s B n) := hide (by rw [unhide HC]; simp)
          have HM2 := hide (iterPos_of (unhide HI2))
          go_wp2
          go_roundw
          case rel => exact ⟨n + 1, L ++ [(dP s pos : Int)], pos + dN s pos, by go_num, HS', by omega, by simp; omega, by omega, HI2, hide (by rw [unhide HC']; exact unhide HO2), HB3⟩
          case measure => rw [unhide HM, unhide HM2]; omega
        · rw [hbn] at hcell HC
          have HC' : Hid (ctk s B (n + 1) = ctk s B n ++ [(pos : Int)]) := hide (by rw [unhide HC]; simp)
          go_wp2_with (at_builtin; refine wpList_append_own _ rfl _ _ 24 rfl w.heap.size 2 i0 (.int .i64 0) 1 8 Tryd.underlying24 hi hz0 hz1 hz2 rfl (by decide) _ _ _ rfl (owned_alloc (unhide HO2) _) ⟨w2.heap.size, 0, none⟩ 1 1 [.int .i64 (pos : Int)] rfl rfl (cell_one_new _ _ _) (by intro u hu; simp at hu; subst hu; rfl) (by unfold maxLen; omega) (by omega) (by simp; omega) ?_)
          intro v' w3 hown' hgrow _
          have HI3 := hide (iter_grown (unhide HO2) (unhide HI2) hgrow)
          have R := hide (row_step (unhide HB) (unhide HB2) (by omega) (unhide HO2) hown' hgrow)
          have HM3 := hide (iterPos_of (unhide HI3))
          clear hown' hgrow
          go_wp2
          go_roundw
          case rel => exact ⟨n + 1, L ++ [(dP s pos : Int)], pos + dN s pos, by go_num, HS', by omega, by simp; omega, by omega, HI3, hide (by rw [unhide HC']; exact (unhide R).1), hide (unhide R).2⟩
          case measure => rw [unhide HM, unhide HM3]; omega
      · have hnx : ∀ ty, (Instr.next (.pointer (some ⟨w.heap.size, 0, none⟩)) true ty).run Tryd.prog wr = .ok (.tuple #[.bool false]) wr := fun ty => Lib.run_next_end_at wr _ s pos ty (unhide HI) hlt
        have e := steps_pts s n (by rw [unhide HS]; show s.size ≤ pos; omega)
        rw [unhide HS] at e
        have e' : L = pts s := e
        have HN := hide (show n = B.length by rw [unhide HBL, ← e', hL])
        have hBs := (unhide HB).size
        have hcl := ctk_len s B n
        have hn6 : n ≤ 65536 := by omega
        clear e e' hL
        go_wp2_with (at_builtin; refine wpList_append_own _ rfl _ _ 24 rfl w.heap.size 2 i0 (.int .i64 0) 1 8 Tryd.underlying24 hi hz0 hz1 hz2 rfl (by decide) _ _ _ rfl (owned_alloc (unhide HO) _) ⟨wr.heap.size, 0, none⟩ 1 1 [.int .i64 (s.size : Int)] rfl rfl (cell_one_new _ _ _) (by intro u hu; simp at hu; subst hu; rfl) (by unfold maxLen; omega) (by omega) (by simp; omega) ?_)
        intro v' w3 hown' hgrow _
        have R := hide (row_step (unhide HB) (Below.refl _ _) (by omega) (unhide HO) hown' hgrow)
        clear hown' hgrow
        go_wp2
        go_ret
        refine ⟨_, rfl, ?_, (unhide R).2⟩
        rw [unhide HL, ← unhide HN]
        exact (unhide R).1
end Chr
end Go.Proofs.YtdgafmhjbgddkaaDoor
