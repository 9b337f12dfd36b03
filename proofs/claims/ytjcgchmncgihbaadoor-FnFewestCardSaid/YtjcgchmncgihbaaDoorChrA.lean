/- Of each point whether a character starts with it, as the program tells it. -/
import Derived.Test.YtjcgchmncgihbaaDoorChrD
import Derived.Test.YtjcgchmncgihbaaDoorPointsLaw
import Derived.Laws.Tables
namespace Go.Proofs.YtjcgchmncgihbaaDoor
namespace Chr
open Go.RowKit
/-- The place that is moved on to the one ahead of point i. -/
def plb (L : List Int) (i : Nat) : Pl := if i = 0 then pl0 else plc L (i - 1)
theorem plb_mov (L : List Int) (i : Nat) : mov (plb L i) (nth L i) = plc L i := by cases i <;> rfl
theorem plb_succ (L : List Int) (i : Nat) : plb L (i + 1) = plc L i := rfl
theorem plc_f (L : List Int) (i : Nat) : (plc L i).f ≤ i := by
  induction i with
  | zero => simp only [plc, mov, pl0]; decide
  | succ n ih => simp only [plc, mov]; split <;> omega
theorem plb_f (L : List Int) (i : Nat) : (plb L i).f ≤ i := by
  unfold plb
  split
  · simp [pl0]
  · have := plc_f L (i - 1); omega
/-- Whether a character starts with point i. -/
def stb (L : List Int) (i : Nat) : Bool := i == 0 || decI (plc L i)
def sts (L : List Int) : List Bool := (List.range L.length).map (stb L)
def stL (L : List Int) (i : Nat) : List Value := (List.range L.length).map (fun j => Value.bool (decide (j < i) && stb L j))
theorem stL_len (L : List Int) (i : Nat) : (stL L i).length = L.length := by simp [stL]
theorem stL_zero (L : List Int) : stL L 0 = List.replicate L.length (.bool false) := by
  unfold stL
  apply List.ext_getElem
  · simp
  · intro k h1 h2; simp
theorem stL_set (L : List Int) (i : Nat) : (stL L i).set i (.bool (stb L i)) = stL L (i + 1) := by
  apply List.ext_getElem
  · simp [stL]
  · intro k h1 h2
    simp only [stL, List.getElem_set, List.getElem_map, List.getElem_range]
    by_cases e : i = k
    · subst e; simp
    · rw [if_neg e]
      congr 2
      rw [Bool.eq_iff_iff]; simp; omega
theorem stL_all (L : List Int) : stL L L.length = (sts L).map Value.bool := by
  apply List.ext_getElem
  · simp [stL, sts]
  · intro k h1 h2
    have : k < L.length := by simpa [stL] using h1
    simp [stL, sts, this]
theorem wpList_loadG {P : Program} {ops : Array Oper} {rest : List Oper} {o : Oper} {a : Act} {w : World} {Q : Exit → Act → World → Prop} (hgd : o.guard = none) (t : TypeId) (x : Operand) (ho : o.op = .load t x) (v : Value)
    (hr : (Instr.loadAt t (a.eval x)).run P w = .ok v w) (h : wpList P ops Q rest (a.put o.dst v) w) : wpList P ops Q (o :: rest) a w := by
  refine wpList_plain hgd fun K hK => ?_
  unfold Oper.wp execOp
  simp only [ho, Sem.run_bind, Sem.run_pure, Result.andThen_ok, hr]
  exact hK _ _ h
theorem wpList_storeG {P : Program} {ops : Array Oper} {rest : List Oper} {o : Oper} {a : Act} {w : World} {Q : Exit → Act → World → Prop} (hgd : o.guard = none) (hd : o.dst = none) (t : TypeId) (x y : Operand) (ho : o.op = .store t x y) (w' : World)
    (hr : (Instr.storeAt t (a.eval x) (a.eval y)).run P w = .ok () w') (h : wpList P ops Q rest a w') : wpList P ops Q (o :: rest) a w := by
  refine wpList_plain hgd fun K hK => ?_
  unfold Oper.wp execOp
  simp only [ho, Sem.run_bind, Sem.run_pure, Result.andThen_ok, hr]
  first | exact hK _ _ h | (simp only [Oper.upon, hd]; exact hK _ _ h)
end Chr
end Go.Proofs.YtjcgchmncgihbaaDoor
