/- PointsOf of the program, and the law. -/
import Derived.Test.YthjjojkabbepdaaDoorNPointsC
namespace Go.Proofs.YthjjojkabbepdaaDoor
open Go.RowKit
theorem owned_iterAt {w : World} {base K pos : Nat} {e : TypeId} {v : Value} {n : Nat} {xs : List Value} {s : ByteArray} (h : w.ownsRow base e 1 v n xs) (hk : w.heap[K]? = some (.stringIter s pos)) (pos' : Nat) : (w.iterAt K s pos').ownsRow base e 1 v n xs := by
  refine ⟨h.1, ?_⟩
  rcases h.2 with h' | ⟨g, cap, cur, hv, hg, hh, r⟩
  · exact .inl h'
  · have hne : g ≠ K := by intro e; rw [e, hk] at hh; cases hh
    exact .inr ⟨g, cap, cur, hv, hg, (Lib.iterAt_other w K g s pos' hne).trans hh, r⟩
/-- The iterator behind an append to a row of the call's own. -/
theorem iter_grown {w w2 : World} {base K pos : Nat} {e : TypeId} {v : Value} {n : Nat} {xs : List Value} {s : ByteArray} {o : Obj} (ho : w.ownsRow base e 1 v n xs) (hk : w.heap[K]? = some (.stringIter s pos)) (hg : (w.alloc o).grownBy w2 v.ownBlock) : w2.heap[K]? = some (.stringIter s pos) := by
  have hlt : K < w.heap.size := (Array.getElem?_eq_some_iff.1 hk).1
  have hne : some K ≠ v.ownBlock := by
    intro e
    rcases ho.2 with ⟨rfl, _⟩ | ⟨g, cap, cur, rfl, hg, hh, r⟩
    · cases e
    · simp only [Value.ownBlock, Option.some.injEq] at e
      rw [← e, hk] at hh; cases hh
  rw [hg.block K (by simp; omega) hne, Below.heap_alloc w o K hlt]
  exact hk
set_option maxRecDepth 100000 in
set_option maxHeartbeats 1000000 in
theorem implPoints (s : ByteArray) (w : World) (hs : s.size ≤ 65536) :
    Calls Tryd.prog 18 #[.string s] w fun e w' => ∃ v, e = .returned v ∧ w'.ownsRow w.heap.size 2 1 v (pts s).length ((pts s).map (Value.int .i64)) ∧ Below w.heap.size w w' := by
  obtain ⟨i0, hi, hz0, hz1, hz2⟩ := info_parts info2
  go_enter Tryd.func18, Tryd.ntmps18
  go_wp2_with (at_make; refine wpList_make_own _ rfl _ _ 36 rfl w.heap.size 2 i0 (.int .i64 0) 1 Tryd.underlying36 hi hz0 hz1 .i64 .i64 _ s.size rfl rfl rfl ?b2 ?b3 ?b4 ?_)
  case b2 => rw [hz2]; omega
  case b3 => unfold maxLen; omega
  case b4 => omega
  intro w1 hown hgrow
  have hw1 := (made_below hgrow).size
  have HO0 : Hid ((w1.iter s 0).ownsRow w.heap.size 2 1 (.slice (some ⟨w.heap.size, 0, none⟩) 0 s.size) ([] : List Int).length (([] : List Int).map (Value.int .i64))) := hide (owned_alloc hown _)
  have HB0 : Hid (Below w.heap.size w (w1.iter s 0)) := hide ((made_below hgrow).alloc hw1 _)
  have HI0 : Hid ((w1.iter s 0).heap[w1.heap.size]? = some (.stringIter s 0)) := hide (World.iter_heap w1 s 0)
  clear hown hgrow
  go_wp2
  go_loopw [3] (fun v wr => ∃ (n : Nat) (L : List Int) (pos : Nat), Hid (steps s n = (L, pos)) ∧ pos ≤ s.size ∧ L.length ≤ pos ∧ Hid (wr.heap[w1.heap.size]? = some (.stringIter s pos)) ∧ Hid (wr.ownsRow w.heap.size 2 1 v L.length (L.map (Value.int .i64))) ∧ Hid (Below w.heap.size w wr)) (fun _ wr => s.size - wr.iterPos w1.heap.size)
  case atStart => exact ⟨0, [], 0, hide rfl, by omega, by simp, HI0, HO0, HB0⟩
  case round =>
    obtain ⟨n, L, pos, HS, hpos, hL, HI, HO, HB⟩ := hrel
    clear HO0 HB0 HI0
    have HM := hide (iterPos_of (unhide HI))
    by_cases hlt : pos < s.size
    · have hbd := dN_bd s pos hlt
      have d1 := hbd.1
      have d2 := hbd.2.1
      have d3 := hbd.2.2
      have hBs := (unhide HB).size
      have HS' := hide (pts_step (unhide HS) hlt)
      have hnx : ∀ ty, (Instr.next (.pointer (some ⟨w1.heap.size, 0, none⟩)) true ty).run Tryd.prog wr = .ok (.tuple #[.bool true, .int .i64 pos, .int .i32 (dP s pos)]) (wr.iterAt w1.heap.size s (pos + dN s pos)) := fun ty => Lib.run_next_any_at wr _ s pos ty (unhide HI) hlt
      obtain ⟨w2, hw2⟩ : ∃ w2, wr.iterAt w1.heap.size s (pos + dN s pos) = w2 := ⟨_, rfl⟩
      rw [hw2] at hnx
      have HI2 : Hid (w2.heap[w1.heap.size]? = some (.stringIter s (pos + dN s pos))) := hide (by rw [← hw2]; exact Lib.iterAt_heap wr _ s pos _ (unhide HI))
      have HO2 : Hid (w2.ownsRow w.heap.size 2 1 _ L.length (L.map (Value.int .i64))) := hide (by rw [← hw2]; exact owned_iterAt (unhide HO) (unhide HI) _)
      have HB2 : Hid (Below w.heap.size wr w2) := hide (by rw [← hw2]; exact Lib.below_iterAt (Below.refl _ _) hw1 _ _)
      have hs2 : wr.heap.size ≤ w2.heap.size := (unhide HB2).size
      clear hbd hw2
      go_wp2_with (at_builtin; refine wpList_append_own _ rfl _ _ 36 rfl w.heap.size 2 i0 (.int .i64 0) 1 8 Tryd.underlying36 hi hz0 hz1 hz2 rfl (by decide) _ _ _ rfl (owned_alloc (unhide HO2) _) ⟨w2.heap.size, 0, none⟩ 1 1 [.int .i64 (dP s pos)] rfl rfl ?c1 ?c2 ?c3 ?c4 ?c5 ?_)
      case c1 => exact cell_one_new _ _ _
      case c2 => intro u hu; simp at hu; subst hu; rfl
      case c3 => unfold maxLen; omega
      case c4 => omega
      case c5 => simp; omega
      intro v' w3 hown' hgrow _
      have HI3 := hide (iter_grown (unhide HO2) (unhide HI2) hgrow)
      have R := hide (row_step (unhide HB) (unhide HB2) (by omega) (unhide HO2) hown' hgrow)
      have HM3 := hide (iterPos_of (unhide HI3))
      clear hown' hgrow
      go_wp2
      go_roundw
      case rel => exact ⟨n + 1, L ++ [(dP s pos : Int)], pos + dN s pos, HS', by omega, by simp; omega, HI3, hide (unhide R).1, hide (unhide R).2⟩
      case measure => rw [unhide HM, unhide HM3]; omega
    · have hnx : ∀ ty, (Instr.next (.pointer (some ⟨w1.heap.size, 0, none⟩)) true ty).run Tryd.prog wr = .ok (.tuple #[.bool false]) wr := fun ty => Lib.run_next_end_at wr _ s pos ty (unhide HI) hlt
      go_wp2
      go_ret
      have e := steps_pts s n (by rw [unhide HS]; show s.size ≤ pos; omega)
      rw [unhide HS] at e
      have e' : L = pts s := e
      exact ⟨_, rfl, by rw [← e']; exact unhide HO, unhide HB⟩
theorem implPointsOf (s : ByteArray) (w : World) (hs : s.size ≤ 1048576) :
    Calls Tryd.prog 18 #[.string s] w fun e w' => ∃ v, e = .returned v ∧ w'.ownsRow w.heap.size 2 1 v (ptsOut s).length ((ptsOut s).map (Value.int .i64)) ∧ Below w.heap.size w w' := by
  by_cases hb : 65536 < s.size
  · go_enter Tryd.func18, Tryd.ntmps18
    go_wp2
    go_ret
    refine ⟨_, rfl, ?_, Below.refl _ _⟩
    have e : ptsOut s = [] := by unfold ptsOut; rw [if_pos hb]
    rw [e]
    exact World.ownsRow_nil _ _ _ _
  · have e : ptsOut s = pts s := by unfold ptsOut; rw [if_neg hb]
    rw [e]
    exact implPoints s w (by omega)
end Go.Proofs.YthjjojkabbepdaaDoor
