/- Several texts in one. -/
import Derived.Test.YtbaedapnikhdgaaGreatDoorChrC
import Derived.Maps.AppendAt
import Derived.Test.YtbaedapnikhdgaaGreatDoorChrU
import Derived.Deep.Cut
/- A text as points and where each begins, as the specification tells it. -/
namespace Go.Proofs.YtbaedapnikhdgaaGreatDoor
namespace Chr
open Go.RowKit
/-- Where each point begins. -/
def atl (s : ByteArray) (k : Nat) : List Int := (List.range k).map (fun i => ((steps s i).2 : Int))
theorem atl_succ (s : ByteArray) (k : Nat) : atl s (k + 1) = atl s k ++ [((steps s k).2 : Int)] := by
  unfold atl; rw [List.range_succ, List.map_append]; rfl
theorem atl_len (s : ByteArray) (k : Nat) : (atl s k).length = k := by simp [atl]
theorem own_keep {w w2 : World} {B n : Nat} {v : Value} {xs : List Value} (h : w.ownsRow B 2 1 v n xs) (hk : ∀ g, v.ownBlock = some g → w2.heap[g]? = w.heap[g]?) : w2.ownsRow B 2 1 v n xs := by
  refine ⟨h.1, ?_⟩
  rcases h.2 with h' | ⟨g, cap, cur, hv, hg, hh, r⟩
  · exact .inl h'
  · exact .inr ⟨g, cap, cur, hv, hg, (hk g (by rw [hv]; rfl)).trans hh, r⟩
theorem own_block {w : World} {B n g : Nat} {v : Value} {xs : List Value} (h : w.ownsRow B 2 1 v n xs) (hg : v.ownBlock = some g) : ∃ cur, w.heap[g]? = some (.cells cur 2 (0, 0)) := by
  rcases h.2 with ⟨hv, _⟩ | ⟨g', cap, cur, hv, _, hh, r⟩
  · rw [hv] at hg; cases hg
  · rw [hv] at hg
    simp only [Value.ownBlock, Option.some.injEq] at hg
    exact ⟨cur, by rw [← hg]; exact hh⟩
/-- Two rows of the call's own, in a box. -/
structure WSt (w wr : World) (v1 v2 : Value) (L A : List Int) : Prop where
  bel : Below w.heap.size w wr
  o1 : wr.ownsRow w.heap.size 2 1 v1 L.length (L.map (Value.int .i64))
  o2 : wr.ownsRow w.heap.size 2 1 v2 A.length (A.map (Value.int .i64))
  ne : ∀ g, v1.ownBlock = some g → v2.ownBlock ≠ some g
  bx : wr.heap[w.heap.size + 1]? = some (.cells #[v1, v2] 80 (0, 0))
  rx : wr.heap[w.heap.size]? = some (.cells #[.slice none 0 0, .slice none 0 0] 80 (0, 0))
theorem WSt.size {w wr : World} {v1 v2 : Value} {L A : List Int} (h : WSt w wr v1 v2 L A) : w.heap.size + 1 < wr.heap.size := (Array.getElem?_eq_some_iff.1 h.bx).1
theorem WSt.below {w wr w2 : World} {v1 v2 : Value} {L A : List Int} (h : WSt w wr v1 v2 L A) (hb : Below wr.heap.size wr w2) : WSt w w2 v1 v2 L A := by
  have hs := h.size
  exact ⟨h.bel.trans (hb.mono (by omega)), ownsRow_below h.o1 hb, ownsRow_below h.o2 hb, h.ne, by rw [hb.block _ (by omega)]; exact h.bx, by rw [hb.block _ (by omega)]; exact h.rx⟩
theorem WSt.far {w wr : World} {v1 v2 : Value} {L A : List Int} (h : WSt w wr v1 v2 L A) (k : Nat) (hk : k = w.heap.size ∨ k = w.heap.size + 1) : v1.ownBlock ≠ some k ∧ v2.ownBlock ≠ some k := by
  have hc : ∃ cs, wr.heap[k]? = some (.cells cs 80 (0, 0)) := by rcases hk with rfl | rfl; exact ⟨_, h.rx⟩; exact ⟨_, h.bx⟩
  obtain ⟨cs, hc⟩ := hc
  constructor
  · intro e
    obtain ⟨cur, hh⟩ := own_block h.o1 e
    rw [hc] at hh; cases hh
  · intro e
    obtain ⟨cur, hh⟩ := own_block h.o2 e
    rw [hc] at hh; cases hh
theorem WSt.app1 {w wr w2 : World} {v1 v2 v' : Value} {L A : List Int} {p : Int} {o : Obj} (h : WSt w wr v1 v2 L A) (ho : w2.ownsRow w.heap.size 2 1 v' (L.length + 1) (L.map (Value.int .i64) ++ [.int .i64 p]))
    (hg : (wr.alloc o).grownBy w2 v1.ownBlock) (hat : v'.ownBlock = v1.ownBlock ∨ v'.ownBlock = some (wr.alloc o).heap.size) : WSt w (w2.setCell ⟨w.heap.size + 1, 0, none⟩ v') v' v2 (L ++ [p]) A := by
  have hs := h.size
  have hblk : ∀ k, k < wr.heap.size → v1.ownBlock ≠ some k → w2.heap[k]? = wr.heap[k]? := fun k hk hne => by
    rw [hg.block k (by simp; omega) (fun e => hne e.symm), Below.heap_alloc wr o k hk]
  have hb2 : w2.heap[w.heap.size + 1]? = some (.cells #[v1, v2] 80 (0, 0)) := by rw [hblk _ (by omega) (h.far _ (.inr rfl)).1]; exact h.bx
  have hr2 : w2.heap[w.heap.size]? = some (.cells #[.slice none 0 0, .slice none 0 0] 80 (0, 0)) := by rw [hblk _ (by omega) (h.far _ (.inl rfl)).1]; exact h.rx
  have hoth : ∀ k, k ≠ w.heap.size + 1 → (w2.setCell ⟨w.heap.size + 1, 0, none⟩ v').heap[k]? = w2.heap[k]? := fun k hk => heap_setCell_other _ _ _ _ hk
  have ho2 : w2.ownsRow w.heap.size 2 1 v2 A.length (A.map (Value.int .i64)) := own_keep h.o2 (fun g hg2 => hblk g (h.o2.lt g hg2).2 (fun e => h.ne g e hg2))
  refine ⟨((h.bel.alloc (by omega) o).grown hg (by simp; omega) (fun j hj => (h.o1.lt j hj).1)).setCell (p := ⟨w.heap.size + 1, 0, none⟩) (by simp) _, ?_, ?_, ?_, ?_, ?_⟩
  · rw [List.length_append, List.map_append]
    refine own_keep ho (fun g hg2 => hoth g (fun e => ?_))
    obtain ⟨cur, hh⟩ := own_block ho hg2
    rw [e, hb2] at hh; cases hh
  · refine own_keep ho2 (fun g hg2 => hoth g (fun e => ?_))
    rw [e] at hg2
    exact (h.far _ (.inr rfl)).2 hg2
  · intro g hg2 hg3
    rcases hat with e | e
    · exact h.ne g (e ▸ hg2) hg3
    · rw [e] at hg2
      have := (h.o2.lt g hg3).2
      simp at hg2
      omega
  · have := heap_setCell_same w2 (w.heap.size + 1) 0 _ 80 v' hb2
    simpa using this
  · rw [hoth _ (by omega)]; exact hr2
theorem WSt.app2 {w wr w2 : World} {v1 v2 v' : Value} {L A : List Int} {p : Int} {o : Obj} (h : WSt w wr v1 v2 L A) (ho : w2.ownsRow w.heap.size 2 1 v' (A.length + 1) (A.map (Value.int .i64) ++ [.int .i64 p]))
    (hg : (wr.alloc o).grownBy w2 v2.ownBlock) (hat : v'.ownBlock = v2.ownBlock ∨ v'.ownBlock = some (wr.alloc o).heap.size) : WSt w (w2.setCell ⟨w.heap.size + 1, 1, none⟩ v') v1 v' L (A ++ [p]) := by
  have hs := h.size
  have hblk : ∀ k, k < wr.heap.size → v2.ownBlock ≠ some k → w2.heap[k]? = wr.heap[k]? := fun k hk hne => by
    rw [hg.block k (by simp; omega) (fun e => hne e.symm), Below.heap_alloc wr o k hk]
  have hb2 : w2.heap[w.heap.size + 1]? = some (.cells #[v1, v2] 80 (0, 0)) := by rw [hblk _ (by omega) (h.far _ (.inr rfl)).2]; exact h.bx
  have hr2 : w2.heap[w.heap.size]? = some (.cells #[.slice none 0 0, .slice none 0 0] 80 (0, 0)) := by rw [hblk _ (by omega) (h.far _ (.inl rfl)).2]; exact h.rx
  have hoth : ∀ k, k ≠ w.heap.size + 1 → (w2.setCell ⟨w.heap.size + 1, 1, none⟩ v').heap[k]? = w2.heap[k]? := fun k hk => heap_setCell_other _ _ _ _ hk
  have ho1 : w2.ownsRow w.heap.size 2 1 v1 L.length (L.map (Value.int .i64)) := own_keep h.o1 (fun g hg2 => hblk g (h.o1.lt g hg2).2 (fun e => h.ne g hg2 e))
  refine ⟨((h.bel.alloc (by omega) o).grown hg (by simp; omega) (fun j hj => (h.o2.lt j hj).1)).setCell (p := ⟨w.heap.size + 1, 1, none⟩) (by simp) _, ?_, ?_, ?_, ?_, ?_⟩
  · refine own_keep ho1 (fun g hg2 => hoth g (fun e => ?_))
    rw [e] at hg2
    exact (h.far _ (.inr rfl)).1 hg2
  · rw [List.length_append, List.map_append]
    refine own_keep ho (fun g hg2 => hoth g (fun e => ?_))
    obtain ⟨cur, hh⟩ := own_block ho hg2
    rw [e, hb2] at hh; cases hh
  · intro g hg2 hg3
    rcases hat with e | e
    · exact h.ne g hg2 (e ▸ hg3)
    · rw [e] at hg3
      have := (h.o1.lt g hg2).2
      simp at hg3
      omega
  · have := heap_setCell_same w2 (w.heap.size + 1) 1 _ 80 v' hb2
    simpa using this
  · rw [hoth _ (by omega)]; exact hr2
theorem two_cells {w : World} {g : Nat} {a b : Value} {T : TypeId} (h : w.heap[g]? = some (.cells #[a, b] T (0, 0))) : w.cell? ⟨g, 0, none⟩ = some a ∧ w.cell? ⟨g, 1, none⟩ = some b ∧ w.frozen? ⟨g, 0, none⟩ = false ∧ w.frozen? ⟨g, 1, none⟩ = false := by
  simp [World.cell?, World.frozen?, h]
theorem first_w (w : World) : WSt w ((w.alloc (.cells #[.slice none 0 0, .slice none 0 0] 80)).alloc (.cells #[.slice none 0 0, .slice none 0 0] 80)) (.slice none 0 0) (.slice none 0 0) [] [] := by
  refine ⟨bel2 _ _ _, World.ownsRow_nil _ _ _ _, World.ownsRow_nil _ _ _ _, (fun g h => by cases h), ?_, ?_⟩
  · have e : (w.alloc (.cells #[.slice none 0 0, .slice none 0 0] 80)).heap.size = w.heap.size + 1 := by simp
    rw [← e]
    exact heap_alloc_last _ _
  · rw [Below.heap_alloc _ _ _ (by simp)]
    exact heap_alloc_last _ _
end Chr
end Go.Proofs.YtbaedapnikhdgaaGreatDoor
/- A text as points and where each begins: the walk. -/
namespace Go.Proofs.YtbaedapnikhdgaaGreatDoor
namespace Chr
open Go.RowKit
theorem WSt.cells {w wr : World} {v1 v2 : Value} {L A : List Int} (h : WSt w wr v1 v2 L A) : wr.cell? ⟨w.heap.size + 1, 0, none⟩ = some v1 ∧ wr.cell? ⟨w.heap.size + 1, 1, none⟩ = some v2 ∧ wr.frozen? ⟨w.heap.size + 1, 0, none⟩ = false ∧ wr.frozen? ⟨w.heap.size + 1, 1, none⟩ = false := two_cells h.bx
theorem WSt.keep1 {w wr w2 : World} {v1 v2 : Value} {L A : List Int} {o : Obj} (h : WSt w wr v1 v2 L A) (hg : (wr.alloc o).grownBy w2 v1.ownBlock) : w2.heap[w.heap.size + 1]? = some (.cells #[v1, v2] 80 (0, 0)) := by
  have hs := h.size
  rw [hg.block _ (by simp; omega) (fun e => (h.far _ (.inr rfl)).1 e.symm), Below.heap_alloc wr o _ (by omega)]
  exact h.bx
theorem WSt.keep2 {w wr w2 : World} {v1 v2 : Value} {L A : List Int} {o : Obj} (h : WSt w wr v1 v2 L A) (hg : (wr.alloc o).grownBy w2 v2.ownBlock) : w2.heap[w.heap.size + 1]? = some (.cells #[v1, v2] 80 (0, 0)) := by
  have hs := h.size
  rw [hg.block _ (by simp; omega) (fun e => (h.far _ (.inr rfl)).2 e.symm), Below.heap_alloc wr o _ (by omega)]
  exact h.bx
theorem two_put {w : World} {g : Nat} {x y : Value} {T : TypeId} (h : w.heap[g]? = some (.cells #[x, y] T (0, 0))) (a b : Value) : (w.setCell ⟨g, 0, none⟩ a).cell? ⟨g, 0, none⟩ = some a ∧ ((w.setCell ⟨g, 0, none⟩ a).setCell ⟨g, 1, none⟩ b).cell? ⟨g, 1, none⟩ = some b := by
  have h0 := heap_setCell_same w g 0 _ T a h
  have h1 := heap_setCell_same _ g 1 _ T b h0
  exact ⟨(two_cells h0).1, (two_cells h1).2.1⟩
theorem WSt.out {w wr : World} {v1 v2 : Value} {L A : List Int} (h : WSt w wr v1 v2 L A) (a b : Value) :
    IntsAt ((wr.setCell ⟨w.heap.size, 0, none⟩ a).setCell ⟨w.heap.size, 1, none⟩ b) v1 L ∧ IntsAt ((wr.setCell ⟨w.heap.size, 0, none⟩ a).setCell ⟨w.heap.size, 1, none⟩ b) v2 A ∧ Below w.heap.size w ((wr.setCell ⟨w.heap.size, 0, none⟩ a).setCell ⟨w.heap.size, 1, none⟩ b) := by
  have hoth : ∀ k, k ≠ w.heap.size → ((wr.setCell ⟨w.heap.size, 0, none⟩ a).setCell ⟨w.heap.size, 1, none⟩ b).heap[k]? = wr.heap[k]? := fun k hk => by
    rw [heap_setCell_other _ _ _ _ hk, heap_setCell_other _ _ _ _ hk]
  refine ⟨IntsAt.owned (own_keep h.o1 (fun g hg => hoth g (fun e => ?_))), IntsAt.owned (own_keep h.o2 (fun g hg => hoth g (fun e => ?_))), (h.bel.setCell (p := ⟨w.heap.size, 0, none⟩) (Nat.le_refl _) _).setCell (p := ⟨w.heap.size, 1, none⟩) (Nat.le_refl _) _⟩
  · rw [e] at hg; exact (h.far _ (.inl rfl)).1 hg
  · rw [e] at hg; exact (h.far _ (.inl rfl)).2 hg
/-- What l07RowOf tells: points, and places with the length behind them. -/
def atsL (s : ByteArray) : List Int := atl s (pts s).length ++ [(s.size : Int)]
set_option maxRecDepth 100000 in
set_option maxHeartbeats 4000000 in
theorem sRowOf (s : ByteArray) (w : World) (hs : s.size ≤ 65536) : Calls Tryz.prog 53 #[.string s] w fun e w' =>
    ∃ v1 v2, e = .returned (.agg #[v1, v2]) ∧ IntsAt w' v1 (pts s) ∧ IntsAt w' v2 (atsL s) ∧ Below w.heap.size w w' := by
  obtain ⟨i0, hi, hz0, hz1, hz2⟩ := info_parts info2
  have S0 := hide (first_w w)
  go_enter Tryz.func53, Tryz.ntmps53
  go_wp2
  go_loopw [4] (fun x wr => ∃ (n : Nat) (L : List Int) (pos : Nat) (v1 v2 : Value), x = .int .i64 pos ∧ Hid (steps s n = (L, pos)) ∧ pos ≤ s.size ∧ L.length = n ∧ n ≤ pos ∧ Hid (WSt w wr v1 v2 L (atl s n))) (fun x _ => s.size - (intOf x).toNat)
  case atStart => exact ⟨0, [], 0, _, _, rfl, hide rfl, by omega, rfl, by omega, S0⟩
  case round =>
    obtain ⟨n, L, pos, v1, v2, rfl, HS, hpos, hL, hnp, HW⟩ := hrel
    clear S0
    have HLn := hide hL
    have hL6 : L.length ≤ 65536 := by omega
    have hA6 : (atl s n).length ≤ 65536 := by rw [atl_len]; omega
    by_cases hlt : pos < s.size
    · have hbd := dN_bd s pos hlt
      have d1 := hbd.1
      have d2 := hbd.2.1
      have HS' := hide (pts_step (unhide HS) hlt)
      have hpn : (steps s n).2 = pos := by rw [unhide HS]
      have HA : Hid (atl s (n + 1) = atl s n ++ [(pos : Int)]) := hide (by rw [atl_succ, hpn])
      have HL1 : Hid ((L ++ [(dP s pos : Int)]).length = n + 1) := hide (by simp [hL])
      clear hbd hpn hL
      go_wp2_with (first
        | (go_at_call 42; refine (next_any s pos _ hlt (by omega)).mono ?_; rintro e w1 ⟨⟨ok, rfl⟩, hb1⟩; have W1 := hide ((unhide HW).below hb1); clear hb1; have z1 := (unhide W1).size; obtain ⟨c0, c1, f0, f1⟩ := (unhide W1).cells)
        | (at_builtin; refine wpList_append_own_at _ rfl _ _ 26 rfl w.heap.size 2 i0 (.int .i64 0) 1 8 Tryz.underlying26 hi hz0 hz1 hz2 rfl (by decide) v1 L.length _ rfl (owned_alloc (unhide W1).o1 _) ⟨w1.heap.size, 0, none⟩ 1 1 [.int .i64 (dP s pos)] rfl rfl (cell_one_new _ _ _) (by intro u hu; simp at hu; subst hu; rfl) (by unfold maxLen; omega) (by omega) (by simp; omega) ?_))
      intro v' w2 ho hg _ hat
      obtain ⟨aa, cc, rfl⟩ := owned_nil ho
      have hk2 := (unhide W1).keep1 hg
      have W2 := hide ((unhide W1).app1 ho hg (by simpa using hat))
      obtain ⟨g0, g1, q0, q1⟩ := two_cells hk2
      have zz2 := (Array.getElem?_eq_some_iff.1 hk2).1
      clear ho hg hat hk2
      obtain ⟨w3, hw3⟩ : ∃ w3, w2.setCell ⟨w.heap.size + 1, 0, none⟩ (.slice aa (L.length + 1) cc) = w3 := ⟨_, rfl⟩
      rw [hw3] at W2
      have z3 := (unhide W2).size
      obtain ⟨e0, e1, j0, j1⟩ := (unhide W2).cells
      go_wp2_with (at_builtin; refine wpList_append_own_at _ rfl _ _ 26 rfl w.heap.size 2 i0 (.int .i64 0) 1 8 Tryz.underlying26 hi hz0 hz1 hz2 rfl (by decide) v2 (atl s n).length _ rfl (owned_alloc (unhide W2).o2 _) ⟨w3.heap.size, 0, none⟩ 1 1 [.int .i64 (pos : Int)] rfl rfl (cell_one_new _ _ _) (by intro u hu; simp at hu; subst hu; rfl) (by unfold maxLen; omega) (by omega) (by simp; omega) ?_)
      intro v'' w4 ho hg _ hat
      obtain ⟨ab, cd, rfl⟩ := owned_nil ho
      have hk4 := (unhide W2).keep2 hg
      have W4 := hide ((unhide W2).app2 ho hg (by simpa using hat))
      obtain ⟨g0', g1', q0', q1'⟩ := two_cells hk4
      clear ho hg hat hk4
      obtain ⟨w5, hw5⟩ : ∃ w5, w4.setCell ⟨w.heap.size + 1, 1, none⟩ (.slice ab ((atl s n).length + 1) cd) = w5 := ⟨_, rfl⟩
      rw [hw5] at W4
      go_wp2
      go_roundw
      case rel => exact ⟨n + 1, L ++ [(dP s pos : Int)], pos + dN s pos, _, _, by go_num, HS', by omega, unhide HL1, by omega, hide (by rw [unhide HA]; exact unhide W4)⟩
      case measure => simp [intOf]; omega
    · have e := steps_pts s n (by rw [unhide HS]; show s.size ≤ pos; omega)
      rw [unhide HS] at e
      have e' : L = pts s := e
      have HP := hide e'
      have HN : Hid (n = (pts s).length) := hide (by rw [← e', hL])
      clear e e' hL
      have z1 := (unhide HW).size
      obtain ⟨ax, cx, rfl⟩ := owned_nil (unhide HW).o1
      obtain ⟨c0, c1, f0, f1⟩ := (unhide HW).cells
      go_wp2_with (at_builtin; refine wpList_append_own_at _ rfl _ _ 26 rfl w.heap.size 2 i0 (.int .i64 0) 1 8 Tryz.underlying26 hi hz0 hz1 hz2 rfl (by decide) v2 (atl s n).length _ rfl (owned_alloc (unhide HW).o2 _) ⟨wr.heap.size, 0, none⟩ 1 1 [.int .i64 (s.size : Int)] rfl rfl (cell_one_new _ _ _) (by intro u hu; simp at hu; subst hu; rfl) (by unfold maxLen; omega) (by omega) (by simp; omega) ?_)
      intro v'' w4 ho hg _ hat
      obtain ⟨ab, cd, rfl⟩ := owned_nil ho
      have hk4 := (unhide HW).keep2 hg
      have W4 := hide ((unhide HW).app2 ho hg (by simpa using hat))
      obtain ⟨g0', g1', q0', q1'⟩ := two_cells hk4
      clear ho hg hat hk4
      obtain ⟨w5, hw5⟩ : ∃ w5, w4.setCell ⟨w.heap.size + 1, 1, none⟩ (.slice ab ((atl s n).length + 1) cd) = w5 := ⟨_, rfl⟩
      rw [hw5] at W4
      have z5 := (unhide W4).size
      obtain ⟨m0, m1, _, _⟩ := (unhide W4).cells
      obtain ⟨r0, r1, t0, t1⟩ := two_cells (unhide W4).rx
      obtain ⟨p0, p1⟩ := two_put (unhide W4).rx (.slice ax L.length cx) (.slice ab ((atl s n).length + 1) cd)
      have OUT := hide ((unhide W4).out (.slice ax L.length cx) (.slice ab ((atl s n).length + 1) cd))
      go_wp2
      refine bodyPost_ret (v := .agg #[.slice ax L.length cx, .slice ab ((atl s n).length + 1) cd]) (by simp [results, Tryz.results53, go_sem, p0, p1]; try rfl) rfl ?_
      obtain ⟨x1, x2, x3⟩ := unhide OUT
      refine ⟨_, _, rfl, ?_, ?_, x3⟩
      · rw [← unhide HP]; exact x1
      · unfold atsL; rw [← unhide HN]; exact x2
end Chr
end Go.Proofs.YtbaedapnikhdgaaGreatDoor
/- The cuts of characters, as the specification tells them. -/
namespace Go.Proofs.YtbaedapnikhdgaaGreatDoor
namespace Chr
open Go.RowKit
def bsS (L : List Int) : List Bool := (List.range L.length).map (fun i => i == 0 || charS L i)
theorem bsS_len (L : List Int) : (bsS L).length = L.length := by simp [bsS]
theorem bsS_at (L : List Int) (k : Nat) (h : k < L.length) : (bsS L).getD k false = (k == 0 || charS L k) := by simp [bsS, List.getD_eq_getElem?_getD, h]
theorem sts_eq (L : List Int) : sts L = bsS L := by
  unfold sts bsS
  apply List.map_congr_left
  intro i _
  cases i with
  | zero => rfl
  | succ i => show (i + 1 == 0 || decI (plc L (i + 1))) = _; rw [dec_eq]
theorem pts_pos {s : ByteArray} (h : 0 < s.size) : 0 < (pts s).length := lt_pts (s := s) (n := 0) (L := []) (pos := 0) rfl h
theorem nth_ats (s : ByteArray) (k : Nat) (h : k < (pts s).length) : nth (atsL s) k = ((steps s k).2 : Int) := by
  unfold atsL nth
  rw [List.getD_eq_getElem?_getD, List.getElem?_append_left (by rw [atl_len]; exact h)]
  simp [atl, h]
set_option maxRecDepth 100000 in
set_option maxHeartbeats 4000000 in
theorem sChars (s : ByteArray) (w : World) (hs : s.size ≤ 65536) : Calls Tryz.prog 32 #[.string s] w fun e w' =>
    ∃ v, e = .returned v ∧ IntsAt w' v (cutsL s (bsS (pts s))) ∧ Below w.heap.size w w' := by
  obtain ⟨i0, hi, hz0, hz1, hz2⟩ := info_parts info2
  have hpl := pts_le s
  have CR := hide (fun W => sRowOf s W hs)
  go_enter Tryz.func32, Tryz.ntmps32
  go_upto_region 2 with (go_at_call 53; refine ((unhide CR) _).mono ?_; rintro e w2 ⟨v1, v2, rfl, hv1, hv2, hb2⟩; have B2 := hide hb2; have I1 := hide hv1; have I2 := hide hv2; clear hb2; obtain ⟨a1, c1, rfl, _⟩ := hv1; obtain ⟨a2, c2, rfl, _⟩ := hv2)
  have hc := two_cells (heap_alloc_last w2 (.cells #[.slice a1 (pts s).length c1, .slice a2 (atsL s).length c2] 80))
  have hz : w2.heap.size < (w2.alloc (.cells #[.slice a1 (pts s).length c1, .slice a2 (atsL s).length c2] 80)).heap.size := by simp
  have J1 := hide ((unhide I1).below (bel1 w2 (.cells #[.slice a1 (pts s).length c1, .slice a2 (atsL s).length c2] 80)))
  have J2 := hide ((unhide I2).below (bel1 w2 (.cells #[.slice a1 (pts s).length c1, .slice a2 (atsL s).length c2] 80)))
  have BB := hide (join2 (unhide B2) (bel1 w2 (.cells #[.slice a1 (pts s).length c1, .slice a2 (atsL s).length c2] 80)))
  clear I1 I2 B2 CR
  generalize w2.alloc (.cells #[.slice a1 (pts s).length c1, .slice a2 (atsL s).length c2] 80) = wb at hc hz J1 J2 BB ⊢
  generalize w2.heap.size = g at hc hz ⊢
  obtain ⟨x0, x1, _, _⟩ := hc
  have HX0 := hide x0
  have HX1 := hide x1
  clear x0 x1
  have HAT := hide (nth_ats s)
  have hal : (atsL s).length = (pts s).length + 1 := by unfold atsL; simp [atl_len]
  have HAL := hide hal
  clear hal
  have HBL := hide (bsS_len (pts s))
  have HBA := hide (bsS_at (pts s))
  have HPP := hide (fun (h : 0 < s.size) => pts_pos h)
  generalize hBB : bsS (pts s) = B at *
  have HBB := hide hBB
  clear hBB
  generalize hL : pts s = L at *
  have HLL := hide hL
  clear hL
  have hL6 : L.length ≤ 65536 := by omega
  have HO0 : Hid ((wb.alloc (.cells #[] 2)).ownsRow wb.heap.size 2 1 (.slice (some ⟨wb.heap.size, 0, none⟩) 0 0) (ctk s B 0).length ((ctk s B 0).map (Value.int .i64))) := hide (World.ownsRow_lit wb #[] 0 (Nat.le_refl _) (by unfold maxLen; omega) rfl)
  have HB0 : Hid (Below wb.heap.size wb (wb.alloc (.cells #[] 2))) := hide (bel1 _ _)
  go_wp2
  go_loopw [4, 5] (fun v x wr => ∃ k : Nat, x = .int .i64 k ∧ k ≤ L.length ∧ Hid (wr.ownsRow wb.heap.size 2 1 v (ctk s B k).length ((ctk s B k).map (Value.int .i64))) ∧ Hid (Below wb.heap.size wb wr)) (fun _ x _ => L.length - (intOf x).toNat)
  case atStart => exact ⟨0, rfl, by omega, HO0, HB0⟩
  case round =>
    obtain ⟨k, rfl, hk, HO, HB⟩ := hrel
    clear HO0 HB0
    have hBs := (unhide HB).size
    have y0 := ((unhide HB).cell (p := ⟨g, 0, none⟩) hz).trans (unhide HX0)
    have y1 := ((unhide HB).cell (p := ⟨g, 1, none⟩) hz).trans (unhide HX1)
    have hgz : g < wr.heap.size := by omega
    have hck := ctk_len s B k
    by_cases hlt : k < L.length
    · obtain ⟨b1, o1, q1, he1, hr1⟩ := RowAt.of (unhide J1) (by omega)
      cases he1
      obtain ⟨b2, o2, q2, he2, hr2⟩ := RowAt.of (unhide J2) (by rw [unhide HAL]; omega)
      cases he2
      have R1 := hide (hr1.below (unhide HB))
      have R2 := hide (hr2.below (unhide HB))
      have hb2z : b2 < wr.heap.size := (unhide R2).1
      have ka := (unhide R2).2 k (by rw [unhide HAL]; omega)
      have hka : (k : Int) < ((atsL s).length : Int) := by rw [unhide HAL]; omega
      obtain ⟨pk, hpk⟩ : ∃ pk : Int, nth (atsL s) k = pk := ⟨_, rfl⟩
      have hps : ((steps s k).2 : Int) = pk := by rw [← hpk]; exact ((unhide HAT) k hlt).symm
      rw [hpk] at ka
      have HC : Hid (ctk s B (k + 1) = ctk s B k ++ (if B.getD k false then [pk] else [])) := hide (by show ctk s B k ++ (if B.getD k false then [((steps s k).2 : Int)] else []) = _; rw [hps])
      rw [show B.getD k false = _ from (unhide HBA) k hlt] at HC
      clear hr1 hr2 hpk hps
      cases k with
      | zero =>
        simp only [Nat.add_zero] at ka
        have HC' : Hid (ctk s B (0 + 1) = ctk s B 0 ++ [pk]) := hide (by rw [unhide HC]; rfl)
        go_wp2_with (at_builtin; refine wpList_append_own _ rfl _ _ 26 rfl wb.heap.size 2 i0 (.int .i64 0) 1 8 Tryz.underlying26 hi hz0 hz1 hz2 rfl (by decide) _ _ _ rfl (owned_alloc (unhide HO) _) ⟨wr.heap.size, 0, none⟩ 1 1 [.int .i64 pk] rfl rfl (cell_one_new _ _ _) (by intro u hu; simp at hu; subst hu; rfl) (by unfold maxLen; omega) (by omega) (by simp; omega) ?_)
        intro v' w3 hown' hgrow _
        have R := hide (row_step (unhide HB) (Below.refl _ _) (by omega) (unhide HO) hown' hgrow)
        clear hown' hgrow
        go_wp2
        go_roundw
        case rel => exact ⟨1, by go_num, by omega, hide (by rw [unhide HC']; exact (unhide R).1), hide (unhide R).2⟩
        case measure => simp [intOf]; omega
      | succ m =>
        have CS := hide (sChar b1 o1 c1 m L wr (unhide R1) hL6 hlt)
        have h0' : (((m + 1 : Nat) : Int) == 0) = false := by rw [beq_eq_false_iff_ne]; omega
        cases hcs : charS L (m + 1)
        · rw [hcs] at CS HC
          have HC' : Hid (ctk s B (m + 1 + 1) = ctk s B (m + 1)) := hide (by rw [unhide HC]; simp)
          go_wp2_with (go_at_call 54; refine (unhide CS).mono ?_; rintro e w3 ⟨rfl, hb3⟩; have O3 := hide (ownsRow_below (unhide HO) hb3); have B3 := hide (join2 (unhide HB) hb3); clear hb3)
          go_roundw
          case rel => exact ⟨m + 1 + 1, by go_num, by omega, hide (by rw [unhide HC']; exact unhide O3), B3⟩
          case measure => simp [intOf]; omega
        · rw [hcs] at CS HC
          have HC' : Hid (ctk s B (m + 1 + 1) = ctk s B (m + 1) ++ [pk]) := hide (by rw [unhide HC]; simp)
          go_wp2_with (first
            | (go_at_call 54; refine (unhide CS).mono ?_; rintro e w3 ⟨rfl, hb3⟩; have O3 := hide (ownsRow_below (unhide HO) hb3); have B3 := hide (join2 (unhide HB) hb3); have u1 := (hb3.cell (p := ⟨g, 1, none⟩) hgz).trans y1; have u2 := (hb3.cell (p := ⟨b2, o2 + (m + 1), none⟩) hb2z).trans ka; have z3 := hb3.size; clear hb3)
            | (at_builtin; refine wpList_append_own _ rfl _ _ 26 rfl wb.heap.size 2 i0 (.int .i64 0) 1 8 Tryz.underlying26 hi hz0 hz1 hz2 rfl (by decide) _ _ _ rfl (owned_alloc (unhide O3) _) ⟨w3.heap.size, 0, none⟩ 1 1 [.int .i64 pk] rfl rfl (cell_one_new _ _ _) (by intro u hu; simp at hu; subst hu; rfl) (by unfold maxLen; omega) (by omega) (by simp; omega) ?_))
          intro v' w4 hown' hgrow _
          have R := hide (row_step (unhide B3) (Below.refl _ _) (by omega) (unhide O3) hown' hgrow)
          clear hown' hgrow
          go_wp2
          go_roundw
          case rel => exact ⟨m + 1 + 1, by go_num, by omega, hide (by rw [unhide HC']; exact (unhide R).1), hide (unhide R).2⟩
          case measure => simp [intOf]; omega
    · have HK : Hid (k = L.length) := hide (by omega)
      by_cases hsz : 0 < s.size
      · have HC : Hid (cutsL s B = ctk s B k ++ [(s.size : Int)]) := hide (by
          unfold cutsL
          rw [if_neg (by rw [unhide HBL]; have := (unhide HPP) hsz; omega), unhide HBL, unhide HK])
        go_wp2_with (at_builtin; refine wpList_append_own _ rfl _ _ 26 rfl wb.heap.size 2 i0 (.int .i64 0) 1 8 Tryz.underlying26 hi hz0 hz1 hz2 rfl (by decide) _ _ _ rfl (owned_alloc (unhide HO) _) ⟨wr.heap.size, 0, none⟩ 1 1 [.int .i64 (s.size : Int)] rfl rfl (cell_one_new _ _ _) (by intro u hu; simp at hu; subst hu; rfl) (by unfold maxLen; omega) (by omega) (by simp; omega) ?_)
        intro v' w3 hown' hgrow _
        have R := hide (row_step (unhide HB) (Below.refl _ _) (by omega) (unhide HO) hown' hgrow)
        clear hown' hgrow
        go_wp2
        go_ret
        refine ⟨_, rfl, ?_, join2 (unhide BB) (unhide R).2⟩
        rw [unhide HLL, unhide HBB, unhide HC]
        exact IntsAt.owned (unhide R).1
      · have HC : Hid (cutsL s B = ctk s B k) := hide (by
          have h0 : L.length = 0 := by have := hpl; omega
          unfold cutsL
          rw [if_pos (by rw [unhide HBL, h0]), unhide HK, h0]; rfl)
        go_wp2
        go_ret
        refine ⟨_, rfl, ?_, join2 (unhide BB) (unhide HB)⟩
        rw [unhide HLL, unhide HBB, unhide HC]
        exact IntsAt.owned (unhide HO)
end Chr
end Go.Proofs.YtbaedapnikhdgaaGreatDoor
/- CharCuts of the program and of the specification, and the law. -/
namespace Go.Proofs.YtbaedapnikhdgaaGreatDoor
namespace Chr
open Go.RowKit
def cutsOut (s : ByteArray) : List Int := if 65536 < s.size then [] else cutsL s (bsS (pts s))
theorem cutsOut_le (s : ByteArray) : (cutsOut s).length ≤ 65537 := by
  unfold cutsOut cutsL
  split
  · simp
  · split
    · simp
    · have h1 := ctk_len s (bsS (pts s)) (bsS (pts s)).length
      have h2 := bsS_len (pts s)
      have h3 := pts_le s
      simp
      omega
theorem sts_len (L : List Int) : (sts L).length = L.length := by simp [sts]
theorem own_mono {w : World} {B B2 n : Nat} {v : Value} {xs : List Value} (h : w.ownsRow B2 2 1 v n xs) (hb : B ≤ B2) : w.ownsRow B 2 1 v n xs := by
  refine ⟨h.1, ?_⟩
  rcases h.2 with h' | ⟨g, cap, cur, hv, hg, r⟩
  · exact .inl h'
  · exact .inr ⟨g, cap, cur, hv, by omega, r⟩
end Chr
end Go.Proofs.YtbaedapnikhdgaaGreatDoor
