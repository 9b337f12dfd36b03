/- A text as points and where each begins: the walk. -/
import Derived.Test.YtnmlfgnnhhaeoaaDoorChrV
namespace Go.Proofs.YtnmlfgnnhhaeoaaDoor
namespace Chr
open Go.RowKit
theorem WSt.cells {w wr : World} {v1 v2 : Value} {L A : List Int} (h : WSt w wr v1 v2 L A) : wr.cell? ⟨w.heap.size + 1, 0, none⟩ = some v1 ∧ wr.cell? ⟨w.heap.size + 1, 1, none⟩ = some v2 ∧ wr.frozen? ⟨w.heap.size + 1, 0, none⟩ = false ∧ wr.frozen? ⟨w.heap.size + 1, 1, none⟩ = false := two_cells h.bx
theorem WSt.keep1 {w wr w2 : World} {v1 v2 : Value} {L A : List Int} {o : Obj} (h : WSt w wr v1 v2 L A) (hg : (wr.alloc o).grownBy w2 v1.ownBlock) : w2.heap[w.heap.size + 1]? = some (.cells #[v1, v2] 59 (0, 0)) := by
  have hs := h.size
  rw [hg.block _ (by simp; omega) (fun e => (h.far _ (.inr rfl)).1 e.symm), Below.heap_alloc wr o _ (by omega)]
  exact h.bx
theorem WSt.keep2 {w wr w2 : World} {v1 v2 : Value} {L A : List Int} {o : Obj} (h : WSt w wr v1 v2 L A) (hg : (wr.alloc o).grownBy w2 v2.ownBlock) : w2.heap[w.heap.size + 1]? = some (.cells #[v1, v2] 59 (0, 0)) := by
  have hs := h.size
  rw [hg.block _ (by simp; omega) (fun e => (h.far _ (.inr rfl)).2 e.symm), Below.heap_alloc wr o _ (by omega)]
  exact h.bx
theorem two_put {w : World} {g : Nat} {x y : Value} {T : TypeId} (h : w.heap[g]? = some (.cells #[x, y] T (0, 0))) (a b : Value) : (w.setCell ⟨g, 0, none⟩ a).cell? ⟨g, 0, none⟩ = some a ∧ ((w.setCell ⟨g, 0, none⟩ a).setCell ⟨g, 1, none⟩ b).cell? ⟨g, 1, none⟩ = some b := by
  have h0 := heap_setCell_same w g 0 _ T a h
  have h1 := heap_setCell_same _ g 1 _ T b h0
  exact ⟨(two_cells h0).1, (two_cells h1).2.1⟩
theorem WSt.out {w wr : World} {v1 v2 : Value} {L A : List Int} (h : WSt w wr v1 v2 L A) (a b : Value) :
    IntsAt ((wr.setCell ⟨w.heap.size, 0, none⟩ a).setCell ⟨w.heap.size, 1, none⟩ b) v1 L ∧ IntsAt ((wr.setCell ⟨w.heap.size, 0, none⟩ a).setCell ⟨w.heap.size, 1, none⟩ b) v2 A ∧ Below w.heap.size w ((wr.setCell ⟨w.heap.size, 0, none⟩ a).setCell ⟨w.heap.size, 1, none⟩ b) := by
  have hoth : ∀ k, k ≠ w.heap.size → ((wr.setCell ⟨w.heap.size, 0, none⟩ a).setCell ⟨w.heap.size, 1, none⟩ b).heap[k]? = wr.heap[k]? := fun k hk => by
    rw [heap_setCell_other _ _ _ _ hk, heap_setCell_other _ _ _ _ hk]
  refine ⟨IntsAt.owned (own_keep h.o1 (fun g hg => hoth g (fun e => ?_))), IntsAt.owned (own_keep h.o2 (fun g hg => hoth g (fun e => ?_))), (h.bel.setCell (p := ⟨w.heap.size, 0, none⟩) (Nat.le_refl _) _).setCell (p := ⟨w.heap.size, 1, none⟩) (Nat.le_refl _) _⟩
  · rw [e] at hg; exact (h.far _ (.inl rfl)).1 hg
  · rw [e] at hg; exact (h.far _ (.inl rfl)).2 hg
/-- What l07RowOf tells: points, and places with the length behind them. -/
def atsL (s : ByteArray) : List Int := atl s (pts s).length ++ [(s.size : Int)]
set_option maxRecDepth 100000 in
set_option maxHeartbeats 4000000 in
theorem sRowOf (s : ByteArray) (w : World) (hs : s.size ≤ 65536) : Calls Tryd.prog 31 #[.string s] w fun e w' =>
    ∃ v1 v2, e = .returned (.agg #[v1, v2]) ∧ IntsAt w' v1 (pts s) ∧ IntsAt w' v2 (atsL s) ∧ Below w.heap.size w w' := by
  obtain ⟨i0, hi, hz0, hz1, hz2⟩ := info_parts info2
  have S0 := hide (first_w w)
  go_enter Tryd.func31, Tryd.ntmps31
  go_wp2
  go_loopw [4] (fun x wr => ∃ (n : Nat) (L : List Int) (pos : Nat) (v1 v2 : Value), x = .int .i64 pos ∧ Hid (steps s n = (L, pos)) ∧ pos ≤ s.size ∧ L.length = n ∧ n ≤ pos ∧ Hid (WSt w wr v1 v2 L (atl s n))) (fun x _ => s.size - (intOf x).toNat)
  case atStart => exact ⟨0, [], 0, _, _, rfl, hide rfl, by omega, rfl, by omega, S0⟩
  case round =>
    obtain ⟨n, L, pos, v1, v2, rfl, HS, hpos, hL, hnp, HW⟩ := hrel
    clear S0
    have HLn := hide hL
    have hL6 : L.length ≤ 65536 := by omega
    have hA6 : (atl s n).length ≤ 65536 := by rw [atl_len]; omega
    by_cases hlt : pos < s.size
    · have hbd := dN_bd s pos hlt
      have d1 := hbd.1
      have d2 := hbd.2.1
      have HS' := hide (pts_step (unhide HS) hlt)
      have hpn : (steps s n).2 = pos := by rw [unhide HS]
      have HA : Hid (atl s (n + 1) = atl s n ++ [(pos : Int)]) := hide (by rw [atl_succ, hpn])
      have HL1 : Hid ((L ++ [(dP s pos : Int)]).length = n + 1) := hide (by simp [hL])
      clear hbd hpn hL
      go_wp2_with (first
        | (go_at_call 33; refine (next_any s pos _ hlt (by omega)).mono ?_; rintro e w1 ⟨⟨ok, rfl⟩, hb1⟩; have W1 := hide ((unhide HW).below hb1); clear hb1; have z1 := (unhide W1).size; obtain ⟨c0, c1, f0, f1⟩ := (unhide W1).cells)
        | (at_builtin; refine wpList_append_own_at _ rfl _ _ 28 rfl w.heap.size 2 i0 (.int .i64 0) 1 8 Tryd.underlying28 hi hz0 hz1 hz2 rfl (by decide) v1 L.length _ rfl (owned_alloc (unhide W1).o1 _) ⟨w1.heap.size, 0, none⟩ 1 1 [.int .i64 (dP s pos)] rfl rfl (cell_one_new _ _ _) (by intro u hu; simp at hu; subst hu; rfl) (by unfold maxLen; omega) (by omega) (by simp; omega) ?_))
      intro v' w2 ho hg _ hat
      obtain ⟨aa, cc, rfl⟩ := owned_nil ho
      have hk2 := (unhide W1).keep1 hg
      have W2 := hide ((unhide W1).app1 ho hg (by simpa using hat))
      obtain ⟨g0, g1, q0, q1⟩ := two_cells hk2
      have zz2 := (Array.getElem?_eq_some_iff.1 hk2).1
      clear ho hg hat hk2
      obtain ⟨w3, hw3⟩ : ∃ w3, w2.setCell ⟨w.heap.size + 1, 0, none⟩ (.slice aa (L.length + 1) cc) = w3 := ⟨_, rfl⟩
      rw [hw3] at W2
      have z3 := (unhide W2).size
      obtain ⟨e0, e1, j0, j1⟩ := (unhide W2).cells
      go_wp2_with (at_builtin; refine wpList_append_own_at _ rfl _ _ 28 rfl w.heap.size 2 i0 (.int .i64 0) 1 8 Tryd.underlying28 hi hz0 hz1 hz2 rfl (by decide) v2 (atl s n).length _ rfl (owned_alloc (unhide W2).o2 _) ⟨w3.heap.size, 0, none⟩ 1 1 [.int .i64 (pos : Int)] rfl rfl (cell_one_new _ _ _) (by intro u hu; simp at hu; subst hu; rfl) (by unfold maxLen; omega) (by omega) (by simp; omega) ?_)
      intro v'' w4 ho hg _ hat
      obtain ⟨ab, cd, rfl⟩ := owned_nil ho
      have hk4 := (unhide W2).keep2 hg
      have W4 := hide ((unhide W2).app2 ho hg (by simpa using hat))
      obtain ⟨g0', g1', q0', q1'⟩ := two_cells hk4
      clear ho hg hat hk4
      obtain ⟨w5, hw5⟩ : ∃ w5, w4.setCell ⟨w.heap.size + 1, 1, none⟩ (.slice ab ((atl s n).length + 1) cd) = w5 := ⟨_, rfl⟩
      rw [hw5] at W4
      go_wp2
      go_roundw
      case rel => exact ⟨n + 1, L ++ [(dP s pos : Int)], pos + dN s pos, _, _, by go_num, HS', by omega, unhide HL1, by omega, hide (by rw [unhide HA]; exact unhide W4)⟩
      case measure => simp [intOf]; omega
    · have e := steps_pts s n (by rw [unhide HS]; show s.size ≤ pos; omega)
      rw [unhide HS] at e
      have e' : L = pts s := e
      have HP := hide e'
      have HN : Hid (n = (pts s).length) := hide (by rw [← e', hL])
      clear e e' hL
      have z1 := (unhide HW).size
      obtain ⟨ax, cx, rfl⟩ := owned_nil (unhide HW).o1
      obtain ⟨c0, c1, f0, f1⟩ := (unhide HW).cells
      go_wp2_with (at_builtin; refine wpList_append_own_at _ rfl _ _ 28 rfl w.heap.size 2 i0 (.int .i64 0) 1 8 Tryd.underlying28 hi hz0 hz1 hz2 rfl (by decide) v2 (atl s n).length _ rfl (owned_alloc (unhide HW).o2 _) ⟨wr.heap.size, 0, none⟩ 1 1 [.int .i64 (s.size : Int)] rfl rfl (cell_one_new _ _ _) (by intro u hu; simp at hu; subst hu; rfl) (by unfold maxLen; omega) (by omega) (by simp; omega) ?_)
      intro v'' w4 ho hg _ hat
      obtain ⟨ab, cd, rfl⟩ := owned_nil ho
      have hk4 := (unhide HW).keep2 hg
      have W4 := hide ((unhide HW).app2 ho hg (by simpa using hat))
      obtain ⟨g0', g1', q0', q1'⟩ := two_cells hk4
      clear ho hg hat hk4
      obtain ⟨w5, hw5⟩ : ∃ w5, w4.setCell ⟨w.heap.size + 1, 1, none⟩ (.slice ab ((atl s n).length + 1) cd) = w5 := ⟨_, rfl⟩
      rw [hw5] at W4
      have z5 := (unhide W4).size
      obtain ⟨m0, m1, _, _⟩ := (unhide W4).cells
      obtain ⟨r0, r1, t0, t1⟩ := two_cells (unhide W4).rx
      obtain ⟨p0, p1⟩ := two_put (unhide W4).rx (.slice ax L.length cx) (.slice ab ((atl s n).length + 1) cd)
      have OUT := hide ((unhide W4).out (.slice ax L.length cx) (.slice ab ((atl s n).length + 1) cd))
      go_wp2
      refine bodyPost_ret (v := .agg #[.slice ax L.length cx, .slice ab ((atl s n).length + 1) cd]) (by simp [results, Tryd.results31, go_sem, p0, p1]; try rfl) rfl ?_
      obtain ⟨x1, x2, x3⟩ := unhide OUT
      refine ⟨_, _, rfl, ?_, ?_, x3⟩
      · rw [← unhide HP]; exact x1
      · unfold atsL; rw [← unhide HN]; exact x2
end Chr
end Go.Proofs.YtnmlfgnnhhaeoaaDoor
