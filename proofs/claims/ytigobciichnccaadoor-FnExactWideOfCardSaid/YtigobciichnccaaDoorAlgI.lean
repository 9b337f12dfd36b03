/- charsAlong's iterator: what it hands on, one behind the other (UNDER WAY). -/
import Derived.Test.YtigobciichnccaaDoorAlgP
import Derived.Test.YtigobciichnccaaDoorRngF
import Derived.RangeFuncNested
import Derived.RangeFuncBound
import Derived.RangeFuncCalls
import Derived.RangeFuncLeaves
import Derived.Shelf.Abstract
import Derived.Shelf.RegionOpen
import Derived.OwnWalkIn
import Derived.TacticsInMore
import Derived.LoopNIn
import Derived.LoopIn
namespace Go.Proofs.YtigobciichnccaaDoor
namespace Chr
open Go.RowKit Go.Shelf
set_option linter.unusedVariables false
set_option linter.unusedSimpArgs false
attribute [local go_sem] Oper.semAt_some
/-- What the iterator has: the text's box, the rules, the place, the walk. -/
structure As (b0 bt : Nat) (s : ByteArray) (wr : World) (j pos : Nat) : Prop where
  tab : TabAt wr
  tl : 2 < b0
  txt : wr.cell? ⟨bt, 0, none⟩ = some (.string s)
  lt : bt < b0
  rul : RulAt wr b0
  pl : wr.heap[b0 + 1]? = some (.cells (plC (plb (pts s) j)) 53 (0, 0))
  it : wr.heap[b0 + 2]? = some (.stringIter s pos)
/-- What a round keeps. -/
structure Ka (b0 bt : Nat) (W W' : World) : Prop where
  sz : W.heap.size ≤ W'.heap.size
  tab : W'.heap[2]? = W.heap[2]?
  txt : W'.heap[bt]? = W.heap[bt]?
  rul : W'.heap[b0]? = W.heap[b0]?
  pl : W'.heap[b0 + 1]? = W.heap[b0 + 1]?
  it : W'.heap[b0 + 2]? = W.heap[b0 + 2]?
theorem As.size {b0 bt : Nat} {s : ByteArray} {wr : World} {j pos : Nat} (h : As b0 bt s wr j pos) : b0 + 2 < wr.heap.size := (Array.getElem?_eq_some_iff.1 h.it).1
theorem tab_of_block {w w' : World} (h : TabAt w) (hs : w.heap.size ≤ w'.heap.size) (e : w'.heap[2]? = w.heap[2]?) : TabAt w' := by
  refine ⟨Nat.lt_of_lt_of_le h.1 hs, fun m hm => ?_⟩
  have := h.2 m hm
  refine ⟨?_, ?_, ?_, ?_⟩
  · exact (World.cell?_of_block (a := ⟨2, m * 4, none⟩) e).trans this.1
  · exact (World.cell?_of_block (a := ⟨2, m * 4 + 1, none⟩) e).trans this.2.1
  · exact (World.cell?_of_block (a := ⟨2, m * 4 + 2, none⟩) e).trans this.2.2.1
  · exact (World.cell?_of_block (a := ⟨2, m * 4 + 3, none⟩) e).trans this.2.2.2
theorem rul_of_block {w w' : World} {g : Nat} (h : RulAt w g) (hs : w.heap.size ≤ w'.heap.size) (e : w'.heap[g]? = w.heap[g]?) : RulAt w' g :=
  ⟨Nat.lt_of_lt_of_le h.1 hs, fun j hj => (World.cell?_of_block (a := ⟨g, j, none⟩) e).trans (h.2 j hj)⟩
theorem As.keep {b0 bt : Nat} {s : ByteArray} {wr w2 : World} {j pos : Nat} (h : As b0 bt s wr j pos) (k : Ka b0 bt wr w2) : As b0 bt s w2 j pos :=
  ⟨tab_of_block h.tab k.sz k.tab, h.tl, (World.cell?_of_block (a := ⟨bt, 0, none⟩) k.txt).trans h.txt, h.lt, rul_of_block h.rul k.sz k.rul, k.pl.trans h.pl, k.it.trans h.it⟩
theorem As.below {b0 bt : Nat} {s : ByteArray} {wr w2 : World} {j pos : Nat} (h : As b0 bt s wr j pos) (hb : Below wr.heap.size wr w2) : As b0 bt s w2 j pos := by
  have hs := h.size
  have := h.lt
  have := h.tl
  exact h.keep ⟨hb.size, hb.block _ (by omega), hb.block _ (by omega), hb.block _ (by omega), hb.block _ (by omega), hb.block _ (by omega)⟩
theorem As.cells {b0 bt : Nat} {s : ByteArray} {wr : World} {j pos : Nat} (h : As b0 bt s wr j pos) : wr.cell? ⟨b0 + 1, 0, none⟩ = some (.int .i64 (plb (pts s) j).l) ∧ wr.cell? ⟨b0 + 1, 1, none⟩ = some (.int .i64 (plb (pts s) j).r) ∧ wr.cell? ⟨b0 + 1, 2, none⟩ = some (.int .i64 (plb (pts s) j).b) ∧ wr.cell? ⟨b0 + 1, 3, none⟩ = some (.int .i64 ((plb (pts s) j).f : Int)) ∧ wr.cell? ⟨b0 + 1, 4, none⟩ = some (.bool (plb (pts s) j).d) :=
  pl_cells h.pl
/-- A block that is no other's is turned. -/
theorem As.turn {b0 bt : Nat} {s : ByteArray} {wr w2 : World} {j pos : Nat} (h : As b0 bt s wr j pos) (r : Nat) (hg : wr.grownBy w2 (some r)) (hr : b0 < r) : TabAt w2 ∧ w2.cell? ⟨bt, 0, none⟩ = some (.string s) ∧ RulAt w2 b0 ∧ ∀ k, k < wr.heap.size → k ≠ r → w2.heap[k]? = wr.heap[k]? := by
  have hs := h.size
  have := h.lt
  have := h.tl
  have hk : ∀ k, k < wr.heap.size → k ≠ r → w2.heap[k]? = wr.heap[k]? := fun k h1 h2 => hg.block k h1 (fun e => by injection e with e; exact h2 e)
  exact ⟨tab_of_block h.tab hg.size (hk _ (by omega) (by omega)), (World.cell?_of_block (a := ⟨bt, 0, none⟩) (hk bt (by omega) (by omega))).trans h.txt, rul_of_block h.rul hg.size (hk _ (by omega) (by omega)), hk⟩
theorem grown_setRow (w : World) (b : Nat) (xs : Array Value) : w.grownBy (w.setRow b xs) (some b) :=
  ⟨rfl, rfl, rfl, by simp, fun k hk hn => setRow_other _ _ _ _ (fun e => hn (by rw [e]))⟩
/-- The place stored. -/
theorem As.put {b0 bt : Nat} {s : ByteArray} {wr : World} {j pos : Nat} (h : As b0 bt s wr j pos) (k : Nat) :
    ∃ w3, (Instr.storeAt 53 (.pointer (some ⟨b0 + 1, 0, none⟩)) (plV (plb (pts s) k))).run Tryd.prog wr = .ok () w3 ∧ As b0 bt s w3 k pos ∧ wr.grownBy w3 (some (b0 + 1)) := by
  have hs := h.size
  refine ⟨wr.setRow (b0 + 1) (plC (plb (pts s) k)), ?_, ?_, grown_setRow _ _ _⟩
  · simp only [Instr.storeAt, Instr.sureAddr, Sem.run_bind, Sem.run_pure, Result.andThen]
    exact run_storeVar_row wr _ 53 53 _ (plC (plb (pts s) k)) h.pl (by kernel_rfl) rfl (by simp [plC, Value.oneCell'])
  · obtain ⟨a1, a2, a3, a4⟩ := h.turn (b0 + 1) (grown_setRow wr (b0 + 1) (plC (plb (pts s) k))) (by omega)
    exact ⟨a1, h.tl, a2, h.lt, a3, setRow_heap _ _ _ _ _ _ h.pl, (a4 _ hs (by omega)).trans h.it⟩
/-- The next point of the walk. -/
theorem As.step {b0 bt : Nat} {s : ByteArray} {wr : World} {j pos : Nat} (h : As b0 bt s wr j pos) (p : Nat) : As b0 bt s (wr.iterAt (b0 + 2) s p) j p ∧ wr.grownBy (wr.iterAt (b0 + 2) s p) (some (b0 + 2)) := by
  have hs := h.size
  have hg : wr.grownBy (wr.iterAt (b0 + 2) s p) (some (b0 + 2)) := by
    refine ⟨rfl, rfl, rfl, ?_, fun k hk hn => ?_⟩
    · simp [World.iterAt]
    · simp [World.iterAt, Array.getElem?_setIfInBounds, show (b0 + 2 = k) = False by simp; intro e; exact hn (by rw [e])]
  obtain ⟨a1, a2, a3, a4⟩ := h.turn (b0 + 2) hg (by omega)
  exact ⟨⟨a1, h.tl, a2, h.lt, a3, (a4 _ (by omega) (by omega)).trans h.pl, Lib.iterAt_heap wr _ s pos _ h.it⟩, hg⟩
def plS (s : ByteArray) (k : Nat) : Nat := (steps s k).2
/-- All that is handed on. -/
def chA (s : ByteArray) : List ByteArray := if s.size = 0 then [] else hnd s (plS s) (sts (pts s)) (pts s).length ++ [s.extract (fsI (plS s) (sts (pts s)) (pts s).length) s.size]
theorem steps_pre (s : ByteArray) (n m : Nat) : ∃ Y, (steps s (n + m)).1 = (steps s n).1 ++ Y := by
  induction m with
  | zero => exact ⟨[], by simp⟩
  | succ m ih =>
    obtain ⟨Y, h⟩ := ih
    show ∃ Y, (if (steps s (n + m)).2 < s.size then ((steps s (n + m)).1 ++ [(dP s (steps s (n + m)).2 : Int)], (steps s (n + m)).2 + dN s (steps s (n + m)).2) else steps s (n + m)).1 = _
    split
    · exact ⟨Y ++ [(dP s (steps s (n + m)).2 : Int)], by simp [h]⟩
    · exact ⟨Y, h⟩
theorem pts_at {s : ByteArray} {n pos : Nat} {L : List Int} (h : steps s n = (L, pos)) (hp : pos < s.size) : nth (pts s) L.length = (dP s pos : Int) := by
  have h1 := pts_step h hp
  obtain ⟨Y, hY⟩ := steps_pre s (n + 1) s.size
  have h3 : s.size ≤ (steps s (n + 1 + s.size)).2 := by
    rcases steps_go s (n + 1 + s.size) with h | h <;> omega
  rw [steps_pts s _ h3, h1] at hY
  rw [hY]
  simp [nth, List.getD_eq_getElem?_getD]
/-- A store, within a fence. -/
theorem wpListIn_storeG {F : Fence} {n : Nat} {P : Program} {ops : Array Oper} {rest : List Oper} {o : Oper} {a : Act} {w : World} {Q : Exit → Act → World → Prop} (hgd : o.guard = none) (hd : o.dst = none) (t : TypeId) (x y : Operand) (ho : o.op = .store t x y) (w' : World)
    (hr : (Instr.storeAt t (a.eval x) (a.eval y)).run P w = .ok () w') (h : wpListIn F n P ops Q rest a w') : wpListIn F n P ops Q (o :: rest) a w := by
  refine wpListIn_plain hgd fun K hK => ?_
  unfold Oper.wpIn
  refine ⟨?_, ?_⟩
  · simp [Oper.about, ho]
  · rw [Oper.semAt_plain F _ _ (by rw [ho]; intro c hc'; cases hc')]
    simp only [execOp, ho, Sem.run_bind, Sem.run_pure, Result.andThen_ok, hr]
    first | exact hK _ _ h | (simp only [Oper.uponIn, hd]; exact hK _ _ h)
end Chr
end Go.Proofs.YtigobciichnccaaDoor
