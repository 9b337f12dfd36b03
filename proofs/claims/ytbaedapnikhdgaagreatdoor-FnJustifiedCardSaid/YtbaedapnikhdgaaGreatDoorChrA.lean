/- Of each point whether a character starts with it, as the program tells it. -/
import Derived.Test.YtbaedapnikhdgaaGreatDoorChrD
import Derived.Test.YtbaedapnikhdgaaGreatDoorND
import Derived.Laws.Tables
namespace Go.Proofs.YtbaedapnikhdgaaGreatDoor
namespace Chr
open Go.RowKit
/-- The place that is moved on to the one ahead of point i. -/
def plb (L : List Int) (i : Nat) : Pl := if i = 0 then pl0 else plc L (i - 1)
theorem plb_mov (L : List Int) (i : Nat) : mov (plb L i) (nth L i) = plc L i := by cases i <;> rfl
theorem plb_succ (L : List Int) (i : Nat) : plb L (i + 1) = plc L i := rfl
theorem plc_f (L : List Int) (i : Nat) : (plc L i).f ≤ i := by
  induction i with
  | zero => simp only [plc, mov, pl0]; decide
  | succ n ih => simp only [plc, mov]; split <;> omega
theorem plb_f (L : List Int) (i : Nat) : (plb L i).f ≤ i := by
  unfold plb
  split
  · simp [pl0]
  · have := plc_f L (i - 1); omega
/-- Whether a character starts with point i. -/
def stb (L : List Int) (i : Nat) : Bool := i == 0 || decI (plc L i)
def sts (L : List Int) : List Bool := (List.range L.length).map (stb L)
def stL (L : List Int) (i : Nat) : List Value := (List.range L.length).map (fun j => Value.bool (decide (j < i) && stb L j))
theorem stL_len (L : List Int) (i : Nat) : (stL L i).length = L.length := by simp [stL]
theorem stL_zero (L : List Int) : stL L 0 = List.replicate L.length (.bool false) := by
  unfold stL
  apply List.ext_getElem
  · simp
  · intro k h1 h2; simp
theorem stL_set (L : List Int) (i : Nat) : (stL L i).set i (.bool (stb L i)) = stL L (i + 1) := by
  apply List.ext_getElem
  · simp [stL]
  · intro k h1 h2
    simp only [stL, List.getElem_set, List.getElem_map, List.getElem_range]
    by_cases e : i = k
    · subst e; simp
    · rw [if_neg e]
      congr 2
      rw [Bool.eq_iff_iff]; simp; omega
theorem stL_all (L : List Int) : stL L L.length = (sts L).map Value.bool := by
  apply List.ext_getElem
  · simp [stL, sts]
  · intro k h1 h2
    have : k < L.length := by simpa [stL] using h1
    simp [stL, sts, this]
theorem wpList_loadG {P : Program} {ops : Array Oper} {rest : List Oper} {o : Oper} {a : Act} {w : World} {Q : Exit → Act → World → Prop} (hgd : o.guard = none) (t : TypeId) (x : Operand) (ho : o.op = .load t x) (v : Value)
    (hr : (Instr.loadAt t (a.eval x)).run P w = .ok v w) (h : wpList P ops Q rest (a.put o.dst v) w) : wpList P ops Q (o :: rest) a w := by
  refine wpList_plain hgd fun K hK => ?_
  unfold Oper.wp execOp
  simp only [ho, Sem.run_bind, Sem.run_pure, Result.andThen_ok, hr]
  exact hK _ _ h
theorem wpList_storeG {P : Program} {ops : Array Oper} {rest : List Oper} {o : Oper} {a : Act} {w : World} {Q : Exit → Act → World → Prop} (hgd : o.guard = none) (hd : o.dst = none) (t : TypeId) (x y : Operand) (ho : o.op = .store t x y) (w' : World)
    (hr : (Instr.storeAt t (a.eval x) (a.eval y)).run P w = .ok () w') (h : wpList P ops Q rest a w') : wpList P ops Q (o :: rest) a w := by
  refine wpList_plain hgd fun K hK => ?_
  unfold Oper.wp execOp
  simp only [ho, Sem.run_bind, Sem.run_pure, Result.andThen_ok, hr]
  first | exact hK _ _ h | (simp only [Oper.upon, hd]; exact hK _ _ h)
/-- What the walk through the points has: the rules, the starts so far, the last place. -/
structure CSt (w wr : World) (L : List Int) (i j : Nat) : Prop where
  bel : Below w.heap.size w wr
  rul : RulAt wr w.heap.size
  st : wr.heap[w.heap.size + 1]? = some (.cells (stL L i).toArray 4 (0, 0))
  pl : wr.heap[w.heap.size + 2]? = some (.cells (plC (plb L j)) 73 (0, 0))
theorem CSt.size {w wr : World} {L : List Int} {i j : Nat} (h : CSt w wr L i j) : w.heap.size + 2 < wr.heap.size := (Array.getElem?_eq_some_iff.1 h.pl).1
theorem CSt.below {w wr w2 : World} {L : List Int} {i j : Nat} (h : CSt w wr L i j) (hb : Below wr.heap.size wr w2) : CSt w w2 L i j := by
  have hs := h.size
  exact ⟨h.bel.trans (hb.mono (by omega)), h.rul.below hb, by rw [hb.block _ (by omega)]; exact h.st, by rw [hb.block _ (by omega)]; exact h.pl⟩
theorem CSt.cells {w wr : World} {L : List Int} {i j : Nat} (h : CSt w wr L i j) : wr.cell? ⟨w.heap.size + 2, 0, none⟩ = some (.int .i64 (plb L j).l) ∧ wr.cell? ⟨w.heap.size + 2, 1, none⟩ = some (.int .i64 (plb L j).r) ∧ wr.cell? ⟨w.heap.size + 2, 2, none⟩ = some (.int .i64 (plb L j).b) ∧ wr.cell? ⟨w.heap.size + 2, 3, none⟩ = some (.int .i64 ((plb L j).f : Int)) ∧ wr.cell? ⟨w.heap.size + 2, 4, none⟩ = some (.bool (plb L j).d) :=
  pl_cells h.pl
/-- The place stored. -/
theorem CSt.put {w wr : World} {L : List Int} {i j : Nat} (h : CSt w wr L i j) (k : Nat) :
    ∃ w3, (Instr.storeAt 73 (.pointer (some ⟨w.heap.size + 2, 0, none⟩)) (plV (plb L k))).run Tryz.prog wr = .ok () w3 ∧ CSt w w3 L i k := by
  have hs := h.size
  refine ⟨wr.setRow (w.heap.size + 2) (plC (plb L k)), ?_, ?_⟩
  · simp only [Instr.storeAt, Instr.sureAddr, Sem.run_bind, Sem.run_pure, Result.andThen]
    exact run_storeVar_row wr _ 73 73 _ (plC (plb L k)) h.pl (by kernel_rfl) rfl (by simp [plC, Value.oneCell'])
  · refine ⟨h.bel.trans ⟨rfl, rfl, rfl, by simp, fun k hk => setRow_other _ _ _ _ (by omega)⟩, ⟨by simp; omega, fun j hj => ?_⟩, ?_, setRow_heap _ _ _ _ _ _ h.pl⟩
    · rw [cell_setRow_other _ _ _ _ (by simp)]; exact h.rul.2 j hj
    · rw [setRow_other _ _ _ _ (by omega)]; exact h.st
/-- A start stored. -/
theorem CSt.start {w wr : World} {L : List Int} {i j : Nat} (h : CSt w wr L i j) (b : Bool) (hb : b = stb L i) : CSt w (wr.setCell ⟨w.heap.size + 1, i, none⟩ (.bool b)) L (i + 1) j := by
  have hs := h.size
  subst hb
  have hst := heap_setCell_same wr (w.heap.size + 1) i _ 4 (.bool (stb L i)) h.st
  refine ⟨h.bel.setCell (p := ⟨w.heap.size + 1, i, none⟩) (by simp) _, ⟨by simp; omega, fun k hk => ?_⟩, ?_, ?_⟩
  · rw [← h.rul.2 k hk]
    have e := heap_setCell_other wr ⟨w.heap.size + 1, i, none⟩ w.heap.size (.bool (stb L i)) (by simp)
    simp only [World.cell?, e]
  · rw [hst]
    congr 2
    rw [← stL_set]
    simp
  · rw [heap_setCell_other _ _ _ _ (by simp)]; exact h.pl
theorem CSt.room {w wr : World} {L : List Int} {i j : Nat} (h : CSt w wr L i j) (k : Nat) (hk : k < L.length) : wr.cell? ⟨w.heap.size + 1, k, none⟩ = some (.bool (decide (k < i) && stb L k)) ∧ wr.frozen? ⟨w.heap.size + 1, k, none⟩ = false := by
  constructor
  · simp [World.cell?, h.st, stL, hk]
  · simp [World.frozen?, h.st]
end Chr
end Go.Proofs.YtbaedapnikhdgaaGreatDoor
