/- Several texts in one. -/
import Derived.Test.YtbaedapnikhdgaaGreatDoorAlgP
import Derived.Test.YtbaedapnikhdgaaGreatDoorRngF
import Derived.RangeFuncNested
import Derived.RangeFuncBound
import Derived.RangeFuncCalls
import Derived.RangeFuncLeaves
import Derived.Shelf.Abstract
import Derived.Shelf.RegionOpen
import Derived.OwnWalkIn
import Derived.TacticsInMore
import Derived.LoopNIn
import Derived.LoopIn
import Derived.RangeFuncBox
import Derived.Test.YtbaedapnikhdgaaGreatDoorSA
/- charsAlong's iterator: what it hands on, one behind the other (UNDER WAY). -/
namespace Go.Proofs.YtbaedapnikhdgaaGreatDoor
namespace Chr
open Go.RowKit Go.Shelf
set_option linter.unusedVariables false
set_option linter.unusedSimpArgs false
attribute [local go_sem] Oper.semAt_some
/-- What the iterator has: the text's box, the rules, the place, the walk. -/
structure As (b0 bt : Nat) (s : ByteArray) (wr : World) (j pos : Nat) : Prop where
  tab : TabAt wr
  tl : 2 < b0
  txt : wr.cell? ⟨bt, 0, none⟩ = some (.string s)
  lt : bt < b0
  rul : RulAt wr b0
  pl : wr.heap[b0 + 1]? = some (.cells (plC (plb (pts s) j)) 73 (0, 0))
  it : wr.heap[b0 + 2]? = some (.stringIter s pos)
/-- What a round keeps. -/
structure Ka (b0 bt : Nat) (W W' : World) : Prop where
  sz : W.heap.size ≤ W'.heap.size
  tab : W'.heap[2]? = W.heap[2]?
  txt : W'.heap[bt]? = W.heap[bt]?
  rul : W'.heap[b0]? = W.heap[b0]?
  pl : W'.heap[b0 + 1]? = W.heap[b0 + 1]?
  it : W'.heap[b0 + 2]? = W.heap[b0 + 2]?
theorem As.size {b0 bt : Nat} {s : ByteArray} {wr : World} {j pos : Nat} (h : As b0 bt s wr j pos) : b0 + 2 < wr.heap.size := (Array.getElem?_eq_some_iff.1 h.it).1
theorem tab_of_block {w w' : World} (h : TabAt w) (hs : w.heap.size ≤ w'.heap.size) (e : w'.heap[2]? = w.heap[2]?) : TabAt w' := by
  refine ⟨Nat.lt_of_lt_of_le h.1 hs, fun m hm => ?_⟩
  have := h.2 m hm
  refine ⟨?_, ?_, ?_, ?_⟩
  · exact (World.cell?_of_block (a := ⟨2, m * 4, none⟩) e).trans this.1
  · exact (World.cell?_of_block (a := ⟨2, m * 4 + 1, none⟩) e).trans this.2.1
  · exact (World.cell?_of_block (a := ⟨2, m * 4 + 2, none⟩) e).trans this.2.2.1
  · exact (World.cell?_of_block (a := ⟨2, m * 4 + 3, none⟩) e).trans this.2.2.2
theorem rul_of_block {w w' : World} {g : Nat} (h : RulAt w g) (hs : w.heap.size ≤ w'.heap.size) (e : w'.heap[g]? = w.heap[g]?) : RulAt w' g :=
  ⟨Nat.lt_of_lt_of_le h.1 hs, fun j hj => (World.cell?_of_block (a := ⟨g, j, none⟩) e).trans (h.2 j hj)⟩
theorem As.keep {b0 bt : Nat} {s : ByteArray} {wr w2 : World} {j pos : Nat} (h : As b0 bt s wr j pos) (k : Ka b0 bt wr w2) : As b0 bt s w2 j pos :=
  ⟨tab_of_block h.tab k.sz k.tab, h.tl, (World.cell?_of_block (a := ⟨bt, 0, none⟩) k.txt).trans h.txt, h.lt, rul_of_block h.rul k.sz k.rul, k.pl.trans h.pl, k.it.trans h.it⟩
theorem As.below {b0 bt : Nat} {s : ByteArray} {wr w2 : World} {j pos : Nat} (h : As b0 bt s wr j pos) (hb : Below wr.heap.size wr w2) : As b0 bt s w2 j pos := by
  have hs := h.size
  have := h.lt
  have := h.tl
  exact h.keep ⟨hb.size, hb.block _ (by omega), hb.block _ (by omega), hb.block _ (by omega), hb.block _ (by omega), hb.block _ (by omega)⟩
theorem As.cells {b0 bt : Nat} {s : ByteArray} {wr : World} {j pos : Nat} (h : As b0 bt s wr j pos) : wr.cell? ⟨b0 + 1, 0, none⟩ = some (.int .i64 (plb (pts s) j).l) ∧ wr.cell? ⟨b0 + 1, 1, none⟩ = some (.int .i64 (plb (pts s) j).r) ∧ wr.cell? ⟨b0 + 1, 2, none⟩ = some (.int .i64 (plb (pts s) j).b) ∧ wr.cell? ⟨b0 + 1, 3, none⟩ = some (.int .i64 ((plb (pts s) j).f : Int)) ∧ wr.cell? ⟨b0 + 1, 4, none⟩ = some (.bool (plb (pts s) j).d) :=
  pl_cells h.pl
/-- A block that is no other's is turned. -/
theorem As.turn {b0 bt : Nat} {s : ByteArray} {wr w2 : World} {j pos : Nat} (h : As b0 bt s wr j pos) (r : Nat) (hg : wr.grownBy w2 (some r)) (hr : b0 < r) : TabAt w2 ∧ w2.cell? ⟨bt, 0, none⟩ = some (.string s) ∧ RulAt w2 b0 ∧ ∀ k, k < wr.heap.size → k ≠ r → w2.heap[k]? = wr.heap[k]? := by
  have hs := h.size
  have := h.lt
  have := h.tl
  have hk : ∀ k, k < wr.heap.size → k ≠ r → w2.heap[k]? = wr.heap[k]? := fun k h1 h2 => hg.block k h1 (fun e => by injection e with e; exact h2 e)
  exact ⟨tab_of_block h.tab hg.size (hk _ (by omega) (by omega)), (World.cell?_of_block (a := ⟨bt, 0, none⟩) (hk bt (by omega) (by omega))).trans h.txt, rul_of_block h.rul hg.size (hk _ (by omega) (by omega)), hk⟩
theorem grown_setRow (w : World) (b : Nat) (xs : Array Value) : w.grownBy (w.setRow b xs) (some b) :=
  ⟨rfl, rfl, rfl, by simp, fun k hk hn => setRow_other _ _ _ _ (fun e => hn (by rw [e]))⟩
/-- The place stored. -/
theorem As.put {b0 bt : Nat} {s : ByteArray} {wr : World} {j pos : Nat} (h : As b0 bt s wr j pos) (k : Nat) :
    ∃ w3, (Instr.storeAt 73 (.pointer (some ⟨b0 + 1, 0, none⟩)) (plV (plb (pts s) k))).run Tryz.prog wr = .ok () w3 ∧ As b0 bt s w3 k pos ∧ wr.grownBy w3 (some (b0 + 1)) := by
  have hs := h.size
  refine ⟨wr.setRow (b0 + 1) (plC (plb (pts s) k)), ?_, ?_, grown_setRow _ _ _⟩
  · simp only [Instr.storeAt, Instr.sureAddr, Sem.run_bind, Sem.run_pure, Result.andThen]
    exact run_storeVar_row wr _ 73 73 _ (plC (plb (pts s) k)) h.pl (by kernel_rfl) rfl (by simp [plC, Value.oneCell'])
  · obtain ⟨a1, a2, a3, a4⟩ := h.turn (b0 + 1) (grown_setRow wr (b0 + 1) (plC (plb (pts s) k))) (by omega)
    exact ⟨a1, h.tl, a2, h.lt, a3, setRow_heap _ _ _ _ _ _ h.pl, (a4 _ hs (by omega)).trans h.it⟩
/-- The next point of the walk. -/
theorem As.step {b0 bt : Nat} {s : ByteArray} {wr : World} {j pos : Nat} (h : As b0 bt s wr j pos) (p : Nat) : As b0 bt s (wr.iterAt (b0 + 2) s p) j p ∧ wr.grownBy (wr.iterAt (b0 + 2) s p) (some (b0 + 2)) := by
  have hs := h.size
  have hg : wr.grownBy (wr.iterAt (b0 + 2) s p) (some (b0 + 2)) := by
    refine ⟨rfl, rfl, rfl, ?_, fun k hk hn => ?_⟩
    · simp [World.iterAt]
    · simp [World.iterAt, Array.getElem?_setIfInBounds, show (b0 + 2 = k) = False by simp; intro e; exact hn (by rw [e])]
  obtain ⟨a1, a2, a3, a4⟩ := h.turn (b0 + 2) hg (by omega)
  exact ⟨⟨a1, h.tl, a2, h.lt, a3, (a4 _ (by omega) (by omega)).trans h.pl, Lib.iterAt_heap wr _ s pos _ h.it⟩, hg⟩
def plS (s : ByteArray) (k : Nat) : Nat := (steps s k).2
/-- All that is handed on. -/
def chA (s : ByteArray) : List ByteArray := if s.size = 0 then [] else hnd s (plS s) (sts (pts s)) (pts s).length ++ [s.extract (fsI (plS s) (sts (pts s)) (pts s).length) s.size]
theorem steps_pre (s : ByteArray) (n m : Nat) : ∃ Y, (steps s (n + m)).1 = (steps s n).1 ++ Y := by
  induction m with
  | zero => exact ⟨[], by simp⟩
  | succ m ih =>
    obtain ⟨Y, h⟩ := ih
    show ∃ Y, (if (steps s (n + m)).2 < s.size then ((steps s (n + m)).1 ++ [(dP s (steps s (n + m)).2 : Int)], (steps s (n + m)).2 + dN s (steps s (n + m)).2) else steps s (n + m)).1 = _
    split
    · exact ⟨Y ++ [(dP s (steps s (n + m)).2 : Int)], by simp [h]⟩
    · exact ⟨Y, h⟩
theorem pts_at {s : ByteArray} {n pos : Nat} {L : List Int} (h : steps s n = (L, pos)) (hp : pos < s.size) : nth (pts s) L.length = (dP s pos : Int) := by
  have h1 := pts_step h hp
  obtain ⟨Y, hY⟩ := steps_pre s (n + 1) s.size
  have h3 : s.size ≤ (steps s (n + 1 + s.size)).2 := by
    rcases steps_go s (n + 1 + s.size) with h | h <;> omega
  rw [steps_pts s _ h3, h1] at hY
  rw [hY]
  simp [nth, List.getD_eq_getElem?_getD]
/-- A store, within a fence. -/
theorem wpListIn_storeG {F : Fence} {n : Nat} {P : Program} {ops : Array Oper} {rest : List Oper} {o : Oper} {a : Act} {w : World} {Q : Exit → Act → World → Prop} (hgd : o.guard = none) (hd : o.dst = none) (t : TypeId) (x y : Operand) (ho : o.op = .store t x y) (w' : World)
    (hr : (Instr.storeAt t (a.eval x) (a.eval y)).run P w = .ok () w') (h : wpListIn F n P ops Q rest a w') : wpListIn F n P ops Q (o :: rest) a w := by
  refine wpListIn_plain hgd fun K hK => ?_
  unfold Oper.wpIn
  refine ⟨?_, ?_⟩
  · simp [Oper.about, ho]
  · rw [Oper.semAt_plain F _ _ (by rw [ho]; intro c hc'; cases hc')]
    simp only [execOp, ho, Sem.run_bind, Sem.run_pure, Result.andThen_ok, hr]
    first | exact hK _ _ h | (simp only [Oper.uponIn, hd]; exact hK _ _ h)
end Chr
end Go.Proofs.YtbaedapnikhdgaaGreatDoor
/- charsAlong's iterator, walked what it hands on is what chA tells. -/
namespace Go.Proofs.YtbaedapnikhdgaaGreatDoor
namespace Chr
open Go.RowKit Go.Shelf
set_option linter.unusedVariables false
attribute [local go_sem] Oper.semAt_some
theorem fsI_le (s : ByteArray) (B : List Bool) (n : Nat) : fsI (plS s) B n ≤ (steps s n).2 := by
  induction n with
  | zero => exact Nat.zero_le _
  | succ n ih =>
    have h1 : (steps s n).2 ≤ (steps s (n + 1)).2 := by
      show (steps s n).2 ≤ (if (steps s n).2 < s.size then ((steps s n).1 ++ [(dP s (steps s n).2 : Int)], (steps s n).2 + dN s (steps s n).2) else steps s n).2
      split
      · exact Nat.le_add_right _ _
      · exact Nat.le_refl _
    rw [fsI]
    split
    · exact h1
    · exact Nat.le_trans ih h1
theorem sts_at (L : List Int) (n : Nat) (h : n < L.length) : (sts L).getD n false = stb L n := by
  simp [sts, List.getD_eq_getElem?_getD, h]
theorem fs_same {s : ByteArray} {n : Nat} (h : ¬ (n ≠ 0 ∧ (sts (pts s)).getD n false = true)) : fsI (plS s) (sts (pts s)) (n + 1) = fsI (plS s) (sts (pts s)) n ∧ hnd s (plS s) (sts (pts s)) (n + 1) = hnd s (plS s) (sts (pts s)) n :=
  ⟨by rw [fsI, if_neg h], by rw [hnd, if_neg h]⟩
theorem fs_new {s : ByteArray} {n : Nat} (h : n ≠ 0 ∧ (sts (pts s)).getD n false = true) : fsI (plS s) (sts (pts s)) (n + 1) = (steps s n).2 ∧ hnd s (plS s) (sts (pts s)) (n + 1) = hnd s (plS s) (sts (pts s)) n ++ [s.extract (fsI (plS s) (sts (pts s)) n) (steps s n).2] :=
  ⟨by rw [fsI, if_pos h]; rfl, by rw [hnd, if_pos h]; rfl⟩
theorem hnd_pre (s : ByteArray) (pl : Nat → Nat) (B : List Bool) (k m : Nat) : hnd s pl B k <+: hnd s pl B (k + m) := by
  induction m with
  | zero => exact List.prefix_refl _
  | succ m ih =>
    rw [← Nat.add_assoc, hnd]
    split
    · exact ih.trans (List.prefix_append _ _)
    · exact ih
theorem hnd_chA {s : ByteArray} {k : Nat} (hs : 0 < s.size) (hk : k ≤ (pts s).length) : hnd s (plS s) (sts (pts s)) k <+: chA s := by
  unfold chA
  rw [if_neg (by omega)]
  obtain ⟨m, hm⟩ := Nat.le.dest hk
  have := hnd_pre s (plS s) (sts (pts s)) k m
  rw [hm] at this
  exact this.trans (List.prefix_append _ _)
theorem grown_below {w w' : World} (hb : Below w.heap.size w w') : w.grownBy w' none := ⟨hb.os, hb.tape, hb.output, hb.size, fun k hk _ => hb.block k hk⟩
theorem grown_iter (w : World) (s : ByteArray) (p : Nat) : w.grownBy (w.iter s p) none := World.grownBy_alloc w _ none
theorem as_new (W : World) (bt : Nat) (s : ByteArray) (ht : TabAt W) (htl : 2 < W.heap.size) (hbt : W.cell? ⟨bt, 0, none⟩ = some (.string s)) (hbl : bt < W.heap.size) :
    As W.heap.size bt s (((W.alloc (.cells ruleC 99)).alloc (.cells #[.int .i64 (-1), .int .i64 (-1), .int .i64 (-1), .int .i64 0, .bool false] 73)).iter s 0) 0 0 := by
  have hb : Below W.heap.size W (((W.alloc (.cells ruleC 99)).alloc (.cells #[.int .i64 (-1), .int .i64 (-1), .int .i64 (-1), .int .i64 0, .bool false] 73)).iter s 0) := below3 _ _ _ _
  refine ⟨ht.below hb, htl, (hb.cell (p := ⟨bt, 0, none⟩) hbl).trans hbt, hbl, (rul_new W).below (bel2 _ _ _), ?_, ?_⟩
  · have e : (W.alloc (.cells ruleC 99)).heap.size = W.heap.size + 1 := by simp
    rw [← e]
    show (((W.alloc (.cells ruleC 99)).alloc _).alloc _).heap[_]? = _
    rw [Below.heap_alloc _ _ _ (by simp)]
    exact heap_alloc_last _ _
  · have e : ((W.alloc (.cells ruleC 99)).alloc (.cells #[.int .i64 (-1), .int .i64 (-1), .int .i64 (-1), .int .i64 0, .bool false] 73)).heap.size = W.heap.size + 2 := by simp
    rw [← e]
    exact heap_alloc_last _ _
set_option maxRecDepth 100000 in
set_option maxHeartbeats 4000000 in
theorem along_in (n' l bt : Nat) (s : ByteArray) (hs : s.size ≤ 65536) (W : World) (ht : TabAt W) (htl : 2 < W.heap.size) (hbt : W.cell? ⟨bt, 0, none⟩ = some (.string s)) (hbl : bt < W.heap.size) (J Jx : List ByteArray → World → Prop)
    (hA : ∀ pre Wa Wb row, J pre Wa → Wa.grownBy Wb row → (∀ r, row = some r → r = W.heap.size + 1 ∨ r = W.heap.size + 2) → J pre Wb)
    (hY : ∀ pre x Wa, J pre Wa → pre.length < 65537 → W.heap.size + 2 < Wa.heap.size → YieldAt Fence.wide (n' - 1) Tryz.prog l #[.string x] Wa fun e Wb => (e = .returned (.bool true) ∧ J (pre ++ [x]) Wb ∧ Ka W.heap.size bt Wa Wb) ∨ (e = .returned (.bool false) ∧ Jx (pre ++ [x]) Wb))
    (h0 : J [] W) :
    CallsIn Fence.wide n' Tryz.prog 43 #[.func (.yield l) #[] #[], .pointer (some ⟨bt, 0, none⟩)] W fun e W' => (∃ v, e = .returned v) ∧ (J (chA s) W' ∨ (∃ pre, pre <+: chA s ∧ Jx pre W')) := by
  have CR := (callsIn_wide (n := n' - 1)).2 (rules_any W)
  refine callsIn_of_wp Tryz.func43 rfl trivial ?_ rfl
  simp only [Tryz.ntmps43, List.size_toArray, List.length_cons, List.length_nil, Nat.reduceAdd, Nat.reduceSub, Array.replicate_succ, Array.replicate_zero, List.push_toArray, List.append_toArray, List.nil_append, List.cons_append]
  gi_wp2_with (first | (refine ⟨trivial, (fun h => (by cases h)), ?_⟩; gi_at_call 44; refine CR.mono ?_; clear CR; rintro e W1 ⟨rfl, rfl⟩))
  gi_loopw [4] (fun fv wr => ∃ (n f : Nat) (L : List Int) (pos : Nat), fv = .int .i64 (f : Int) ∧ Hid (fsI (plS s) (sts (pts s)) n = f) ∧ Hid (steps s n = (L, pos)) ∧ pos ≤ s.size ∧ L.length = n ∧ n ≤ pos ∧ (0 < s.size → f < s.size) ∧ Hid (As W.heap.size bt s wr n pos) ∧ Hid (J (hnd s (plS s) (sts (pts s)) n) wr)) (fun _ wr => s.size - wr.iterPos (W.heap.size + 2))
  case atStart =>
    refine ⟨0, 0, [], 0, rfl, hide rfl, hide rfl, by omega, rfl, by omega, (fun h => h), ?_, ?_⟩
    · exact hide (as_new W bt s ht htl hbt hbl)
    · exact hide (hA _ _ _ none h0 (((World.grownBy_alloc W _ none).trans (World.grownBy_alloc _ _ none)).trans (grown_iter _ _ _)) (fun r e => by cases e))
  case round =>
    obtain ⟨n, f, L, pos, rfl, HF, HS, hpos, hL, hnp, hfs, HA, HJ⟩ := hrel
    have HM := hide (iterPos_of (unhide HA).it)
    have hfp : f ≤ pos := by have := fsI_le s (sts (pts s)) n; rw [unhide HF, unhide HS] at this; exact this
    by_cases hlt : pos < s.size
    · have hbd := dN_bd s pos hlt
      have d1 := hbd.1
      have d2 := hbd.2.1
      have d3 := hbd.2.2
      have hnx : ∀ ty, (Instr.next (.pointer (some ⟨W.heap.size + 2, 0, none⟩)) true ty).run Tryz.prog wr = .ok (.tuple #[.bool true, .int .i64 pos, .int .i32 (dP s pos)]) (wr.iterAt (W.heap.size + 2) s (pos + dN s pos)) := fun ty => Lib.run_next_any_at wr _ s pos ty (unhide HA).it hlt
      obtain ⟨A2', g2⟩ := (unhide HA).step (pos + dN s pos)
      have A2 := hide A2'
      have J2 := hide (hA _ _ _ _ (unhide HJ) g2 (fun r e => by injection e with e; exact .inr e.symm))
      generalize wr.iterAt (W.heap.size + 2) s (pos + dN s pos) = w2 at *
      clear A2' g2 hbd
      have hv : nth (pts s) n = (dP s pos : Int) := by have := pts_at (unhide HS) hlt; rw [hL] at this; exact this
      have hw : wrap64 (dP s pos : Int) = (dP s pos : Int) := by unfold wrap64; omega
      have hf := plb_f (pts s) n
      have hf2 := plb_f (pts s) (n + 1)
      have hln := lt_pts (unhide HS) hlt
      rw [hL] at hln
      have HPre : Hid (hnd s (plS s) (sts (pts s)) (n + 1) <+: chA s) := hide (hnd_chA (by omega) (by omega))
      have HB : Hid ((sts (pts s)).getD n false = (n == 0 || decI (plb (pts s) (n + 1)))) := hide (by rw [sts_at _ _ hln]; rfl)
      have HS2 : Hid (∃ L', steps s (n + 1) = (L', pos + dN s pos) ∧ L'.length = n + 1) := hide ⟨_, pts_step (unhide HS) hlt, by simp [hL]⟩
      have HSP : Hid ((steps s n).2 = pos) := hide (by rw [unhide HS])
      have HHL : Hid ((hnd s (plS s) (sts (pts s)) n).length < 65537) := hide (by have := hnd_len s (plS s) (sts (pts s)) n; omega)
      have CM := hide ((callsIn_wide (n := n' - 1)).2 (moved_any (plb (pts s) n) (nth (pts s) n) w2 (unhide A2).tab (by omega)))
      rw [plb_mov, ← plb_succ, hv] at CM
      obtain ⟨c0, c1, c2, c3, c4⟩ := (unhide A2).cells
      have hz2 := (unhide A2).size
      have HP := hide (fun Wx (h : As W.heap.size bt s Wx n (pos + dN s pos)) => h.put (n + 1))
      have HD := hide (fun Wx (h : As W.heap.size bt s Wx (n + 1) (pos + dN s pos)) => (callsIn_wide (n := n' - 1)).2 (decide_any (plb (pts s) (n + 1)) W.heap.size Wx h.tab h.rul (by omega)))
      generalize decI (plb (pts s) (n + 1)) = D at *
      obtain ⟨⟨x0, x1, x2, x3, x4⟩, hx⟩ : ∃ x, plb (pts s) n = x := ⟨_, rfl⟩
      obtain ⟨⟨y0, y1, y2, y3, y4⟩, hy⟩ : ∃ x, plb (pts s) (n + 1) = x := ⟨_, rfl⟩
      have HX := hide hy
      rw [hx] at c0 c1 c2 c3 c4 CM
      rw [hy] at CM HP HD
      unfold plV at CM HP HD
      simp only at c0 c1 c2 c3 c4 CM HP HD
      clear hx hy hf hf2 hv hln
      by_cases hn0 : n = 0
      · have hp0' : ((pos : Int) == 0) = true := by have := unhide HSP; rw [hn0] at this; simp; exact_mod_cast this.symm
        obtain ⟨e1, e2⟩ := fs_same (s := s) (n := n) (fun h => h.1 hn0)
        have HF2 := hide (e1.trans (unhide HF))
        have HH2 := hide e2
        clear hn0 e1 e2
        gi_wp2_with (first
          | (refine ⟨trivial, (fun h => (by cases h)), ?_⟩; gi_at_call 45; refine (unhide CM).mono ?_; rintro e w3 ⟨rfl, hb3⟩; have A3 := hide ((unhide A2).below hb3); have J3 := hide (hA _ _ _ none (unhide J2) (grown_below hb3) (fun r e => by cases e)); clear hb3; obtain ⟨w4, hst, hs4, hg4⟩ := (unhide HP) w3 (unhide A3); have A4 := hide hs4; have J4 := hide (hA _ _ _ _ (unhide J3) hg4 (fun r e => by injection e with e; exact .inl e.symm)); clear hs4 hg4; have hz4 := (unhide A4).size)
          | (refine wpListIn_storeG rfl rfl 73 (.tmp 5) (.tmp 19) rfl w4 hst ?_)
          | (refine ⟨trivial, ?_⟩))
        go_roundw
        case rel =>
          obtain ⟨L', hL1, hL2⟩ := unhide HS2
          exact ⟨n + 1, f, L', _, rfl, HF2, hide hL1, by omega, hL2, by omega, hfs, A4, hide (by rw [unhide HH2]; exact unhide J4)⟩
        case measure =>
          have := iterPos_of (unhide A4).it
          have := unhide HM
          omega
      · have hp0' : ((pos : Int) == 0) = false := by simp; omega
        cases D
        · obtain ⟨e1, e2⟩ := fs_same (s := s) (n := n) (fun h => by have := h.2; rw [unhide HB] at this; simp [hn0] at this)
          have HF2 := hide (e1.trans (unhide HF))
          have HH2 := hide e2
          clear hn0 e1 e2 HB
          gi_wp2_with (first
            | (refine ⟨trivial, (fun h => (by cases h)), ?_⟩; gi_at_call 45; refine (unhide CM).mono ?_; rintro e w3 ⟨rfl, hb3⟩; have A3 := hide ((unhide A2).below hb3); have J3 := hide (hA _ _ _ none (unhide J2) (grown_below hb3) (fun r e => by cases e)); clear hb3; obtain ⟨w4, hst, hs4, hg4⟩ := (unhide HP) w3 (unhide A3); have A4 := hide hs4; have J4 := hide (hA _ _ _ _ (unhide J3) hg4 (fun r e => by injection e with e; exact .inl e.symm)); clear hs4 hg4; have hz4 := (unhide A4).size; obtain ⟨q0, q1, q2, q3, q4⟩ := (unhide A4).cells; rw [unhide HX] at q0 q1 q2 q3 q4; simp only at q0 q1 q2 q3 q4)
            | (refine wpListIn_storeG rfl rfl 73 (.tmp 5) (.tmp 19) rfl w4 hst ?_)
            | (refine ⟨trivial, (fun h => (by cases h)), ?_⟩; gi_at_call 46; refine ((unhide HD) _ (unhide A4)).mono ?_; rintro e w5 ⟨rfl, hb5⟩; have A5 := hide ((unhide A4).below hb5); have J5 := hide (hA _ _ _ none (unhide J4) (grown_below hb5) (fun r e => by cases e)); clear hb5; have hz5 := (unhide A5).size))
          go_roundw
          case rel =>
            obtain ⟨L', hL1, hL2⟩ := unhide HS2
            exact ⟨n + 1, f, L', _, rfl, HF2, hide hL1, by omega, hL2, by omega, hfs, A5, hide (by rw [unhide HH2]; exact unhide J5)⟩
          case measure =>
            have := iterPos_of (unhide A5).it
            have := unhide HM
            omega
        · obtain ⟨e1, e2⟩ := fs_new (s := s) (n := n) ⟨hn0, by rw [unhide HB]; simp⟩
          rw [unhide HSP] at e1 e2
          rw [unhide HF] at e2
          have HF2 := hide e1
          have HH2 := hide e2
          clear hn0 e1 e2 HB
          have hfp' : (f : Int) ≤ (pos : Int) := by omega
          have hps' : (pos : Int) ≤ (s.size : Int) := by omega
          gi_wp2_with (first
            | (refine ⟨trivial, (fun h => (by cases h)), ?_⟩; gi_at_call 45; refine (unhide CM).mono ?_; rintro e w3 ⟨rfl, hb3⟩; have A3 := hide ((unhide A2).below hb3); have J3 := hide (hA _ _ _ none (unhide J2) (grown_below hb3) (fun r e => by cases e)); clear hb3; obtain ⟨w4, hst, hs4, hg4⟩ := (unhide HP) w3 (unhide A3); have A4 := hide hs4; have J4 := hide (hA _ _ _ _ (unhide J3) hg4 (fun r e => by injection e with e; exact .inl e.symm)); clear hs4 hg4; have hz4 := (unhide A4).size; obtain ⟨q0, q1, q2, q3, q4⟩ := (unhide A4).cells; rw [unhide HX] at q0 q1 q2 q3 q4; simp only at q0 q1 q2 q3 q4)
            | (refine wpListIn_storeG rfl rfl 73 (.tmp 5) (.tmp 19) rfl w4 hst ?_)
            | (refine ⟨trivial, (fun h => (by cases h)), ?_⟩; gi_at_call 46; refine ((unhide HD) _ (unhide A4)).mono ?_; rintro e w5 ⟨rfl, hb5⟩; have A5 := hide ((unhide A4).below hb5); have J5 := hide (hA _ _ _ none (unhide J4) (grown_below hb5) (fun r e => by cases e)); clear hb5; have hz5 := (unhide A5).size; have ctx := (unhide A5).txt; obtain ⟨fn, tmps, assign, body, hy, hR⟩ := hY _ (s.extract f pos) w5 (unhide J5) (unhide HHL) hz5))
          refine ⟨(fun h => (by cases h)), ?_⟩
          refine hR.mono ?_
          rintro e w6 (⟨rfl, hJ6, hk6⟩ | ⟨rfl, hJx6⟩)
          · have A6 := hide ((unhide A5).keep hk6)
            have J6 := hide hJ6
            clear hk6 hJ6
            gi_wp2
            go_roundw
            case rel =>
              obtain ⟨L', hL1, hL2⟩ := unhide HS2
              exact ⟨n + 1, pos, L', _, rfl, HF2, hide hL1, by omega, hL2, by omega, (fun _ => hlt), A6, hide (by rw [unhide HH2]; exact unhide J6)⟩
            case measure =>
              have := iterPos_of (unhide A6).it
              have := unhide HM
              omega
          · gi_wp2
            refine bodyPost_ret (results_none rfl _ _ _) rfl ?_
            exact ⟨⟨_, rfl⟩, .inr ⟨_, by rw [← unhide HH2]; exact unhide HPre, hJx6⟩⟩
    · have hnx : ∀ ty, (Instr.next (.pointer (some ⟨W.heap.size + 2, 0, none⟩)) true ty).run Tryz.prog wr = .ok (.tuple #[.bool false]) wr := fun ty => Lib.run_next_end_at wr _ s pos ty (unhide HA).it hlt
      have ctx := (unhide HA).txt
      have hz := (unhide HA).size
      have hall : (steps s n).2 = s.size := by rw [unhide HS]; show pos = s.size; omega
      have hpl : (pts s).length = n := by
        have := steps_pts s n (by omega)
        rw [← this, unhide HS]; exact hL
      by_cases hf : f < s.size
      · have HH : Hid (chA s = hnd s (plS s) (sts (pts s)) n ++ [s.extract f s.size]) := hide (by unfold chA; rw [if_neg (by omega), hpl, unhide HF])
        have HHL : Hid ((hnd s (plS s) (sts (pts s)) n).length < 65537) := hide (by have := hnd_len s (plS s) (sts (pts s)) n; omega)
        obtain ⟨fn, tmps, assign, body, hy, hR⟩ := hY _ (s.extract f s.size) wr (unhide HJ) (unhide HHL) hz
        clear hall hpl
        gi_wp2
        refine ⟨(fun h => (by cases h)), ?_⟩
        refine hR.mono ?_
        rintro e w6 (⟨rfl, hJ6, hk6⟩ | ⟨rfl, hJx6⟩)
        · have J6 := hide hJ6
          clear hk6 hJ6
          gi_wp2
          go_end0
          exact ⟨⟨_, rfl⟩, .inl (by rw [unhide HH]; exact unhide J6)⟩
        · have JX := hide hJx6
          clear hJx6
          gi_wp2
          go_end0
          exact ⟨⟨_, rfl⟩, .inr ⟨_, by rw [← unhide HH]; exact List.prefix_refl _, unhide JX⟩⟩
      · have hs0 : s.size = 0 := by
          rcases Nat.eq_zero_or_pos s.size with h | h
          · exact h
          · exact absurd (hfs h) hf
        have HH : Hid (chA s = hnd s (plS s) (sts (pts s)) n) := hide (by
          obtain rfl : n = 0 := by omega
          unfold chA
          rw [if_pos hs0]
          rfl)
        have hge : ¬ (f : Int) < (s.size : Int) := by omega
        clear hs0 hall hpl hfs
        gi_wp2
        go_end0
        exact ⟨⟨_, rfl⟩, .inl (by rw [unhide HH]; exact unhide HJ)⟩
end Chr
end Go.Proofs.YtbaedapnikhdgaaGreatDoor
/- The characters of a text as the program gathers them (a function that is told how many at most): all of them, or none. -/
namespace Go.Proofs.YtbaedapnikhdgaaGreatDoor
namespace Chr
open Go.RowKit Go.Shelf
set_option linter.unusedVariables false
set_option linter.unusedSimpArgs false
attribute [local go_sem] Oper.semAt_some
/-- The statement, its record unseen behind the loop. -/
theorem range_walkR {F : Fence} {n : Nat} {P : Program} {g : Operand} {ps : Array Tmp} {asg bd : Code} {Q : Exit → Act → World → Prop} {a : Act} {w : World} (hro : F.round = none) (h1 : 1 ≤ n) {gf : Nat} {lb : Array Value} (hg : a.eval g = .func (.func gf) #[] lb) (hFg : F.fn gf)
    (eg : ∀ args w, (callFunc gf args).run P w = .ok (.enter gf args) w)
    (h : ∀ fn, F.fn fn → CallsIn F (n - 1) P gf (#[.func (.yield (w.heap.size + 1)) #[] #[]] ++ lb) ((w.alloc (.deferred (some []))).alloc (.loop (lrec .ready none fn a.tmps ps asg bd w.heap.size))) fun e W => (∃ v, e = .returned v) ∧
      ((W.heap[w.heap.size + 1]? = some (.loop (lrec .ready none fn a.tmps ps asg bd w.heap.size)) ∧ ∀ o, Q .normal { a with defers := { target := .collected w.heap.size, args := #[] } :: a.defers } (W.putObj (w.heap.size + 1) o)) ∨
       (∃ c, W.heap[w.heap.size + 1]? = some (.loop (lrec .done (some c) fn a.tmps ps asg bd w.heap.size)) ∧ ∀ o, c.wpIn F n P Q { a with defers := { target := .collected w.heap.size, args := #[] } :: a.defers } (W.putObj (w.heap.size + 1) o)))) :
    (Code.rangeFunc g ps asg bd).wpIn F n P Q a w := by
  refine range_walk hro h1 hg hFg eg fun fn hfn => (h fn hfn).mono ?_
  rintro e W ⟨he, ⟨h2, h3⟩ | ⟨c, h2, h3⟩⟩
  · exact ⟨he, .inl ⟨h2, h3 _⟩⟩
  · exact ⟨he, .inr ⟨c, h2, h3 _⟩⟩
/-- A round, its record unseen. -/
theorem yield_roundR {F : Fence} {n : Nat} {P : Program} {l d : Nat} {fn : FuncId} {tm : Array Value} {ps : Array Tmp} {asg bd : Code} {args : Array Value} {W : World} {R : Ending → World → Prop} (hF : F.fn fn)
    (hl : W.heap[l]? = some (.loop (lrec .ready none fn tm ps asg bd d))) (hs : args.size = ps.size) (a1 : Act)
    (ha : ∀ K : Act → World → Prop, K a1 W → asg.wpIn (F.inRound l) n P (Exit.then K (fun _ _ _ => False)) { tmps := (ps.zip args).foldl (fun t (p, v) => t.setIfInBounds p v) tm, defers := [] } W)
    (hb : ∀ rc : LoopState → Option Code → Loop, (∀ st pe, rc st pe = lrec st pe fn tm ps asg bd d) → bd.wpIn (F.inRound l) n P (outR l rc R) a1 (W.putObj l (.loop (rc .busy none)))) :
    YieldAt F n P l args W R := yield_round hF hl hs a1 ha (hb _ (fun _ _ => rfl))
theorem own_form {W : World} {B k : Nat} {e : TypeId} {v : Value} {xs : List Value} (h : W.ownsRow B e 1 v k xs) : ∃ a cap, v = .slice a k cap := by
  rcases h.2 with ⟨rfl, h0⟩ | ⟨g, cap, cur, rfl, _⟩
  · rw [h0]; exact ⟨_, _, rfl⟩
  · exact ⟨_, _, rfl⟩
/-- While they are gathered: the boxes of the two results, the record, the row. -/
structure Wc (w V : World) (rc : Obj) (pre : List ByteArray) (v : Value) : Prop where
  bc : Boxed V w.heap.size 57 v
  bf : Boxed V (w.heap.size + 1) 4 (.bool false)
  bd : V.heap[w.heap.size + 3]? = some (.deferred (some []))
  bl : V.heap[w.heap.size + 4]? = some rc
  row : V.ownsRow (w.heap.size + 8) 9 1 v pre.length (pre.map Value.string)
  bel : Below w.heap.size w V
theorem Wc.lt {w V : World} {rc : Obj} {pre : List ByteArray} {v : Value} (h : Wc w V rc pre v) : w.heap.size + 4 < V.heap.size := (Array.getElem?_eq_some_iff.1 h.bl).1
theorem keep_own {V V' : World} {B k : Nat} {e : TypeId} {v : Value} {xs : List Value} {row : Option Nat} (h : V.ownsRow B e 1 v k xs) (hg : V.grownBy V' row) (hr : ∀ r, row = some r → r < B) : V'.ownsRow B e 1 v k xs := by
  refine h.kept hg ?_
  cases row with
  | none =>
    cases hv : v.ownBlock with
    | none => exact .inl rfl
    | some g => exact .inr (fun e => by cases e)
  | some r =>
    refine .inr fun e => ?_
    have h1 := (h.lt r e).1
    have h2 := hr r rfl
    omega
theorem Wc.grown {w V V' : World} {rc : Obj} {pre : List ByteArray} {v : Value} {row : Option Nat} (h : Wc w V rc pre v) (hg : V.grownBy V' row) (hr : ∀ r, row = some r → r = w.heap.size + 6 ∨ r = w.heap.size + 7) : Wc w V' rc pre v := by
  have hne : ∀ k, k ≠ w.heap.size + 6 → k ≠ w.heap.size + 7 → some k ≠ row := fun k h1 h2 e => by rcases hr k e.symm with h | h <;> omega
  have hlt := h.lt
  refine ⟨h.bc.kept hg (hne _ (by omega) (by omega)), h.bf.kept hg (hne _ (by omega) (by omega)), (hg.block _ (by omega) (hne _ (by omega) (by omega))).trans h.bd, (hg.block _ (by omega) (hne _ (by omega) (by omega))).trans h.bl, keep_own h.row hg (fun r e => by rcases hr r e with h | h <;> omega), h.bel.grown hg (by omega) (fun k e => by rcases hr k e with h | h <;> omega)⟩
theorem Wc.rcd {w V : World} {rc : Obj} {pre : List ByteArray} {v : Value} (h : Wc w V rc pre v) (rc' : Obj) : Wc w (V.putObj (w.heap.size + 4) rc') rc' pre v := by
  have hg := grownBy_putObj' V (w.heap.size + 4) rc'
  have hlt := h.lt
  have hne : ∀ k, k ≠ w.heap.size + 4 → some k ≠ some (w.heap.size + 4) := fun k h1 e => by injection e with e; omega
  exact ⟨h.bc.kept hg (hne _ (by omega)), h.bf.kept hg (hne _ (by omega)), (hg.block _ (by omega) (hne _ (by omega))).trans h.bd, World.putObj_heap_same (by omega), keep_own h.row hg (fun r e => by injection e with e; omega), h.bel.grown hg (by omega) (fun k e => by injection e with e; omega)⟩
theorem Wc.nil {w V : World} {rc : Obj} {pre : List ByteArray} {v : Value} (h : Wc w V rc pre v) : Wc w (V.setCell ⟨w.heap.size, 0, none⟩ (.slice none 0 0)) rc [] (.slice none 0 0) := by
  have hg := grownBy_setCell' V w.heap.size (.slice none 0 0)
  have hlt := h.lt
  have hne : ∀ k, k ≠ w.heap.size → some k ≠ some w.heap.size := fun k h1 e => by injection e with e; omega
  exact ⟨h.bc.set _, h.bf.kept hg (hne _ (by omega)), (hg.block _ (by omega) (hne _ (by omega))).trans h.bd, (hg.block _ (by omega) (hne _ (by omega))).trans h.bl, World.ownsRow_nil _ _ _ _, h.bel.setCell (p := ⟨w.heap.size, 0, none⟩) (Nat.le_refl _) _⟩
theorem Wc.no {w V : World} {rc : Obj} {pre : List ByteArray} {v : Value} (h : Wc w V rc pre v) : Wc w (V.setCell ⟨w.heap.size + 1, 0, none⟩ (.bool false)) rc pre v := by
  have hg := grownBy_setCell' V (w.heap.size + 1) (.bool false)
  have hlt := h.lt
  have hne : ∀ k, k ≠ w.heap.size + 1 → some k ≠ some (w.heap.size + 1) := fun k h1 e => by injection e with e; omega
  exact ⟨h.bc.kept hg (hne _ (by omega)), h.bf.set _, (hg.block _ (by omega) (hne _ (by omega))).trans h.bd, (hg.block _ (by omega) (hne _ (by omega))).trans h.bl, keep_own h.row hg (fun r e => by injection e with e; omega), h.bel.setCell (p := ⟨w.heap.size + 1, 0, none⟩) (by show w.heap.size ≤ w.heap.size + 1; omega) _⟩
theorem Wc.app {w V w3 : World} {rc : Obj} {pre : List ByteArray} {v v' : Value} {x : ByteArray} {tmp : Obj} (h : Wc w V rc pre v) (h8 : w.heap.size + 8 ≤ V.heap.size) (ho : w3.ownsRow (w.heap.size + 8) 9 1 v' (pre.length + 1) (pre.map Value.string ++ [.string x])) (hg : (V.alloc tmp).grownBy w3 v.ownBlock) :
    Boxed w3 w.heap.size 57 v ∧ Wc w (w3.setCell ⟨w.heap.size, 0, none⟩ v') rc (pre ++ [x]) v' ∧ (∀ k, k < w.heap.size + 8 → k ≠ w.heap.size → (w3.setCell ⟨w.heap.size, 0, none⟩ v').heap[k]? = V.heap[k]?) ∧ V.heap.size ≤ (w3.setCell ⟨w.heap.size, 0, none⟩ v').heap.size := by
  have hne : ∀ k, k < w.heap.size + 8 → some k ≠ v.ownBlock := fun k hk e => by have := (h.row.lt k e.symm).1; omega
  have hk : ∀ k, k < w.heap.size + 8 → w3.heap[k]? = V.heap[k]? := fun k hk => (hg.block k (by simp; omega) (hne k hk)).trans (Below.heap_alloc V tmp k (by omega))
  have hs := grownBy_setCell' w3 w.heap.size v'
  have hz : V.heap.size + 1 ≤ w3.heap.size := by have := hg.size; simpa using this
  have hk2 : ∀ k, k < w.heap.size + 8 → k ≠ w.heap.size → (w3.setCell ⟨w.heap.size, 0, none⟩ v').heap[k]? = V.heap[k]? := fun k hk1 hk2 => (hs.block k (by omega) (fun e => by injection e with e; omega)).trans (hk k hk1)
  have hb3 : Boxed w3 w.heap.size 57 v := (hk _ (by omega)).trans h.bc
  refine ⟨hb3, ⟨hb3.set _, (hk2 _ (by omega) (by omega)).trans h.bf, (hk2 _ (by omega) (by omega)).trans h.bd, (hk2 _ (by omega) (by omega)).trans h.bl, ?_, ?_⟩, hk2, by have := hs.size; omega⟩
  · have := keep_own ho hs (fun r e => by injection e with e; omega)
    simpa using this
  · exact (((h.bel.alloc h.bel.size tmp).grown hg (by simp; omega) (fun j hj => by have := (h.row.lt j hj).1; omega)).setCell (p := ⟨w.heap.size, 0, none⟩) (Nat.le_refl _) _)
theorem own_base {W : World} {B B' k : Nat} {e : TypeId} {v : Value} {xs : List Value} (h : W.ownsRow B' e 1 v k xs) (hB : B ≤ B') : W.ownsRow B e 1 v k xs := by
  refine ⟨h.1, ?_⟩
  rcases h.2 with h' | ⟨g, cp, cur, hv, hg, r⟩
  · exact .inl h'
  · exact .inr ⟨g, cp, cur, hv, Nat.le_trans hB hg, r⟩
/-- Behind the last stores, and behind the return. -/
theorem Wc.ends {w V : World} {rc : Obj} {pre : List ByteArray} {v : Value} (h : Wc w V rc pre v) :
    ((V.setCell ⟨w.heap.size, 0, none⟩ v).setCell ⟨w.heap.size + 1, 0, none⟩ (.bool true)).heap[w.heap.size + 3]? = some (.deferred (some [])) ∧
    (((V.setCell ⟨w.heap.size, 0, none⟩ v).setCell ⟨w.heap.size + 1, 0, none⟩ (.bool true)).putObj (w.heap.size + 3) (.deferred none)).cell? ⟨w.heap.size, 0, none⟩ = some v ∧
    (((V.setCell ⟨w.heap.size, 0, none⟩ v).setCell ⟨w.heap.size + 1, 0, none⟩ (.bool true)).putObj (w.heap.size + 3) (.deferred none)).cell? ⟨w.heap.size + 1, 0, none⟩ = some (.bool true) ∧
    (((V.setCell ⟨w.heap.size, 0, none⟩ v).setCell ⟨w.heap.size + 1, 0, none⟩ (.bool true)).putObj (w.heap.size + 3) (.deferred none)).ownsRow w.heap.size 9 1 v pre.length (pre.map Value.string) ∧
    Below w.heap.size w (((V.setCell ⟨w.heap.size, 0, none⟩ v).setCell ⟨w.heap.size + 1, 0, none⟩ (.bool true)).putObj (w.heap.size + 3) (.deferred none)) := by
  have hlt := h.lt
  have g1 := grownBy_setCell' V w.heap.size v
  have g2 := grownBy_setCell' (V.setCell ⟨w.heap.size, 0, none⟩ v) (w.heap.size + 1) (.bool true)
  have g3 := grownBy_putObj' ((V.setCell ⟨w.heap.size, 0, none⟩ v).setCell ⟨w.heap.size + 1, 0, none⟩ (.bool true)) (w.heap.size + 3) (.deferred none)
  have z1 := g1.size
  have z2 := g2.size
  have ne : ∀ a b : Nat, a ≠ b → some a ≠ some b := fun a b h e => h (by injection e)
  have lt : ∀ b : Nat, w.heap.size ≤ b → ∀ k, some b = some k → w.heap.size ≤ k := fun b hb k e => by injection e with e; omega
  have b1 := h.bc.set v
  have b2 := b1.kept g2 (ne _ _ (by omega))
  have b3 := b2.kept g3 (ne _ _ (by omega))
  have f1 := h.bf.kept g1 (ne _ _ (by omega))
  have f2 := f1.set (.bool true)
  have f3 := f2.kept g3 (ne _ _ (by omega))
  refine ⟨(g2.block _ (by omega) (ne _ _ (by omega))).trans ((g1.block _ (by omega) (ne _ _ (by omega))).trans h.bd), b3.cell, f3.cell, ?_, ?_⟩
  · exact own_base (keep_own (keep_own (keep_own h.row g1 (fun r e => by injection e with e; omega)) g2 (fun r e => by injection e with e; omega)) g3 (fun r e => by injection e with e; omega)) (by omega)
  · exact ((h.bel.grown g1 (by omega) (lt _ (by omega))).grown g2 (by omega) (lt _ (by omega))).grown g3 (by omega) (lt _ (by omega))
theorem Wc.stops {w V : World} {rc : Obj} {pre : List ByteArray} {v : Value} (h : Wc w V rc pre v) :
    (V.putObj (w.heap.size + 3) (.deferred none)).cell? ⟨w.heap.size, 0, none⟩ = some v ∧ (V.putObj (w.heap.size + 3) (.deferred none)).cell? ⟨w.heap.size + 1, 0, none⟩ = some (.bool false) ∧ Below w.heap.size w (V.putObj (w.heap.size + 3) (.deferred none)) := by
  have hlt := h.lt
  have g3 := grownBy_putObj' V (w.heap.size + 3) (.deferred none)
  have ne : ∀ a b : Nat, a ≠ b → some a ≠ some b := fun a b h e => h (by injection e)
  exact ⟨(h.bc.kept g3 (ne _ _ (by omega))).cell, (h.bf.kept g3 (ne _ _ (by omega))).cell, h.bel.grown g3 (by omega) (fun k e => by injection e with e; omega)⟩
theorem along_any (s : ByteArray) (w : World) : Calls Tryz.prog 26 #[.string s] w fun e w' => e = .returned (.func (.func 43) #[] #[.pointer (some ⟨w.heap.size, 0, none⟩)]) ∧ w' = w.alloc (.cells #[.string s] 9) := by
  go_enter Tryz.func26, Tryz.ntmps26
  go_wp2
  go_ret
  exact ⟨rfl, rfl⟩
theorem words_walk (s : ByteArray) (hs : s.size ≤ 65536) (w w2 : World) (ht : TabAt w) (htl : 2 < w.heap.size) (hz : w2.heap.size = w.heap.size + 3) (bC : Boxed w2 w.heap.size 57 (.slice none 0 0)) (bF : Boxed w2 (w.heap.size + 1) 4 (.bool false)) (bT : Boxed w2 (w.heap.size + 2) 9 (.string s)) (hB2 : Below w.heap.size w w2)
    {fn : FuncId} {tm : Array Value} {ps : Array Tmp} {asg bd : Code} {d : Nat}
    (hBody : ∀ pre x v Va, Wc w Va (.loop (lrec .ready none fn tm ps asg bd d)) pre v → pre.length ≤ 200 → w.heap.size + 7 < Va.heap.size → YieldAt Fence.wide 4 Tryz.prog (w.heap.size + 4) #[.string x] Va fun e Vb =>
      (e = .returned (.bool true) ∧ (∃ v', Wc w Vb (.loop (lrec .ready none fn tm ps asg bd d)) (pre ++ [x]) v' ∧ (pre ++ [x]).length ≤ 200) ∧ Ka (w.heap.size + 5) (w.heap.size + 2) Va Vb) ∨ (e = .returned (.bool false) ∧ Wc w Vb (.loop (lrec .done (some .ret) fn tm ps asg bd d)) [] (.slice none 0 0) ∧ 200 < (pre ++ [x]).length)) :
    CallsIn Fence.wide 5 Tryz.prog 43 #[.func (.yield (w.heap.size + 4)) #[] #[], .pointer (some ⟨w.heap.size + 2, 0, none⟩)] ((w2.alloc (.deferred (some []))).alloc (.loop (lrec .ready none fn tm ps asg bd d))) fun e V => (∃ v, e = .returned v) ∧
      ((∃ v, Wc w V (.loop (lrec .ready none fn tm ps asg bd d)) (chA s) v ∧ (chA s).length ≤ 200) ∨ (Wc w V (.loop (lrec .done (some .ret) fn tm ps asg bd d)) [] (.slice none 0 0) ∧ 200 < (chA s).length)) := by
  generalize hrc : Obj.loop (lrec .ready none fn tm ps asg bd d) = rc at *
  generalize hrx : Obj.loop (lrec .done (some .ret) fn tm ps asg bd d) = rx at *
  have hz3 : (w2.alloc (.deferred (some []))).heap.size = w.heap.size + 4 := by simp [hz]
  obtain ⟨W, hW⟩ : ∃ W, W = (w2.alloc (.deferred (some []))).alloc rc := ⟨_, rfl⟩
  have hWz : W.heap.size = w.heap.size + 5 := by rw [hW]; simp [hz]
  have hB3 : Below w2.heap.size w2 W := by rw [hW]; exact bel2 _ _ _
  have W0 : Wc w W rc [] (.slice none 0 0) := by
    refine ⟨(hB3.block _ (by omega)).trans bC, (hB3.block _ (by omega)).trans bF, ?_, ?_, World.ownsRow_nil _ _ _ _, hB2.trans (hB3.mono (by omega))⟩
    · rw [hW, Below.heap_alloc _ _ _ (by omega), ← hz]
      exact heap_alloc_last _ _
    · rw [hW, ← hz3]
      exact heap_alloc_last _ _
  have bT3 : W.cell? ⟨w.heap.size + 2, 0, none⟩ = some (.string s) := (hB3.cell (p := ⟨w.heap.size + 2, 0, none⟩) (by show w.heap.size + 2 < _; omega)).trans bT.cell
  have ht3 : TabAt W := ht.below W0.bel
  rw [← hW]
  clear hW hrc hrx hB3 hB2 bC bF bT
  refine (along_in 5 (w.heap.size + 4) (w.heap.size + 2) s hs W ht3 (by omega) bT3 (by omega) (fun pre V => ∃ v, Wc w V rc pre v ∧ pre.length ≤ 200) (fun pre V => Wc w V rx [] (.slice none 0 0) ∧ 200 < pre.length) ?_ ?_ ⟨_, W0, by simp⟩).mono ?_
  · rintro pre Va Vb row ⟨v, h, hl⟩ hg hr
    exact ⟨v, h.grown hg (fun r e => by rcases hr r e with h | h <;> omega), hl⟩
  · rintro pre x Va ⟨v, h, hl⟩ _ hsz
    rw [hWz]
    exact hBody pre x v Va h hl (by omega)
  · rintro e V ⟨he, h | ⟨pre, hp, h⟩⟩
    · exact ⟨he, .inl h⟩
    · exact ⟨he, .inr ⟨h.1, Nat.lt_of_lt_of_le h.2 hp.length_le⟩⟩
set_option maxRecDepth 100000 in
theorem short_any (s : ByteArray) (w : World) (hle : ¬ (65536 : Int) < (s.size : Int)) : Calls Tryz.prog 25 #[.string s] w fun e w' => e = .returned (.bool false) ∧ w' = w := by
  go_enter Tryz.func25, Tryz.ntmps25
  go_wp2
  go_ret
  exact ⟨rfl, rfl⟩
set_option maxRecDepth 100000 in
theorem long_any (s : ByteArray) (w : World) (hle : (65536 : Int) < (s.size : Int)) : Calls Tryz.prog 25 #[.string s] w fun e w' => e = .returned (.bool true) ∧ w' = w := by
  go_enter Tryz.func25, Tryz.ntmps25
  go_wp2
  go_ret
  exact ⟨rfl, rfl⟩
/-- What they are, folded. -/
def Rws (w w' : World) (m : Nat) (M : List Value) (v : Value) (b : Bool) : Prop := if m ≤ 200 then b = true ∧ w'.ownsRow w.heap.size 9 1 v m M else b = false ∧ v = .slice none 0 0
end Chr
end Go.Proofs.YtbaedapnikhdgaaGreatDoor
