/- Several texts in one. -/
import Derived.Test.YtbaedapnikhdgaaGreatDoorBase
import Derived.Deep.RegionLaw
import Derived.Test.YtbaedapnikhdgaaGreatDoorND
import Derived.Laws.Concat
import Derived.Deep.Cut
/- A call as one step of a region that draws. -/
namespace Go.Proofs.YtbaedapnikhdgaaGreatDoor
/-- A call of a Go function as one step of a region that draws. -/
theorem step_call {P : Program} {ops : Array Oper} {o : Oper} {a : Act} {w : World} {K : Act → World → Prop} {Q : Exit → Act → World → Prop} {E : Prop} (hg : o.guard = none) (f : FuncId) (xs : Array Operand) (ts : Array TypeId)
    (hop : o.op = Op.call { callee := .value (.func f), args := xs, argTypes := ts }) (vs : Array Value) (hv : xs.map a.eval = vs) (hc : (callFunc f vs).run P w = .ok (.enter f vs) w) (h : Calls P f vs w fun e w' => ∃ v, e = .returned v ∧ K (a.put o.dst v) w') : if Region.wanted o (yielded ops a.tmps) = true then Oper.wp P o a w K Q else E := by
  have hw : Region.wanted o (yielded ops a.tmps) = true := by simp [Region.wanted, hg]
  rw [if_pos hw]
  unfold Oper.wp execOp
  simp only [hop, resolve, invoke, Sem.run_bind, hv]
  simp only [Act.eval, Deferred.ofValue, Sem.run_pure, Result.andThen_ok, Array.append_empty, Array.empty_append, hc, Oper.upon]
  exact h.mono (by rintro e w' ⟨v, rfl, hk⟩; exact hk)
end Go.Proofs.YtbaedapnikhdgaaGreatDoor
/- Rows of texts: read, held against each other, written over by marks that are texts. -/
namespace Go.Proofs.YtbaedapnikhdgaaGreatDoor
open Go.RowKit
def nthS (l : List ByteArray) (i : Nat) : ByteArray := l.getD i ⟨#[]⟩
/-- A slice value that holds just the texts l. -/
def StrsAt (w : World) (v : Value) (l : List ByteArray) : Prop :=
  ∃ a cap, v = .slice a l.length cap ∧ (l = [] ∨ ∃ b off, a = some ⟨b, off, none⟩ ∧ b < w.heap.size ∧ ∀ i, i < l.length → w.cell? ⟨b, off + i, none⟩ = some (.string (nthS l i)))
theorem StrsAt.below {w w' : World} {v : Value} {l : List ByteArray} (h : StrsAt w v l) (hb : Below w.heap.size w w') : StrsAt w' v l := by
  obtain ⟨a, cap, rfl, h⟩ := h
  refine ⟨a, cap, rfl, ?_⟩
  rcases h with h | ⟨b, off, rfl, hbs, hc⟩
  · exact .inl h
  · exact .inr ⟨b, off, rfl, Nat.lt_of_lt_of_le hbs hb.size, fun i hi => (hb.cell (p := ⟨b, off + i, none⟩) hbs).trans (hc i hi)⟩
theorem StrsAt.owned {w : World} {base : Nat} {v : Value} {l : List ByteArray} {n : Nat} (h : w.ownsRow base 9 1 v n (l.map Value.string)) : StrsAt w v l := by
  have hl : l.length = n := by simpa using h.1
  rcases h.2 with ⟨hv, hn⟩ | ⟨g, cap, cur, hv, hg, hh, hn, hm, hs, ht⟩
  · exact ⟨none, 0, by rw [hv, hl, hn], .inl (List.length_eq_zero_iff.1 (by omega))⟩
  · subst hv
    refine ⟨some ⟨g, 0, none⟩, cap, by rw [hl], .inr ⟨g, 0, rfl, (Array.getElem?_eq_some_iff.1 hh).1, fun i hi => ?_⟩⟩
    have hc := h.cellAt i (by omega)
    rw [Nat.zero_add, hc, List.getElem?_map]
    simp [nthS, List.getD, hi]
theorem info9 : (Tryz.prog.info? 9).map (fun i => (i.zero, i.size, i.bytes)) = some (some (.string ⟨#[]⟩), 1, 16) := by kernel_rfl
/-- The digits of a number ahead of others. -/
def dgs : Nat → Nat → List Int → List Int
  | 0, _, o => o
  | f + 1, k, o => if k = 0 then o else dgs f (k / 10) ((48 + ((k % 10 : Nat) : Int)) :: o)
theorem dgs_step (f k : Nat) (o : List Int) (h : k ≠ 0) : dgs (f + 1) k o = dgs f (k / 10) ((48 + ((k % 10 : Nat) : Int)) :: o) := if_neg h
theorem dgs_zero (f : Nat) (o : List Int) : dgs f 0 o = o := by cases f <;> rfl
/-- The text that marks place k. -/
def mtx (k : Nat) : ByteArray := strOfNums ([109] ++ dgs k k [])
theorem str_plus (A B : List Int) : strOfNums A ++ strOfNums B = strOfNums (A ++ B) := by
  unfold strOfNums
  apply ByteArray.ext
  simp [ByteArray.data_append]
theorem str_add (A B : List Int) (h : A.length + B.length ≤ 100000000) (W : World) : (Op.stringOp .add (strOfNums A) (strOfNums B)).run Tryz.prog W = .ok (.string (strOfNums (A ++ B))) W := by
  rw [run_string_add_sum W _ _ (by rw [strOfNums_size, strOfNums_size]; omega), str_plus]
theorem al1 (w : World) (a : Obj) : Below w.heap.size w (w.alloc a) := (Below.refl _ _).alloc (Nat.le_refl _) _
end Go.Proofs.YtbaedapnikhdgaaGreatDoor
/- Rows of texts: two that are alike, marks written and found again. -/
namespace Go.Proofs.YtbaedapnikhdgaaGreatDoor
open Go.RowKit
theorem owned_ltS {w : World} {base g : Nat} {e : TypeId} {n cap m : Nat} {xs : List Value} (h : w.ownsRow base e 1 (.slice (some ⟨g, 0, none⟩) n cap) m xs) : g < w.heap.size := (h.lt g rfl).2
theorem str_ne (a : ByteArray) (W : World) : (binOp .neq 9 (.string a) (.string a)).run Tryz.prog W = .ok (.bool false) W := by
  simp [go_sem]
/-- The marks of the places c, c + 1, .. in the first k places of l. -/
def mrkS (l : List ByteArray) (c k : Nat) : List ByteArray := (List.range k).map (fun i => mtx (c + i)) ++ l.drop k
theorem mrkS_zero (l : List ByteArray) (c : Nat) : mrkS l c 0 = l := by simp [mrkS]
theorem mrkS_length (l : List ByteArray) (c k : Nat) (h : k ≤ l.length) : (mrkS l c k).length = l.length := by simp [mrkS]; omega
theorem mrkS_set (l : List ByteArray) (c k : Nat) (h : k < l.length) (f : ByteArray → Value) : ((mrkS l c k).map f).set k (f (mtx (c + k))) = (mrkS l c (k + 1)).map f := by
  rw [← List.map_set]
  congr 1
  unfold mrkS
  have hk : ((List.range k).map (fun i => mtx (c + i))).length = k := by simp
  rw [List.set_append_right _ _ (by omega), hk, Nat.sub_self, List.drop_eq_getElem_cons h, List.set_cons_zero, List.range_succ, List.map_append, List.append_assoc]
  rfl
def seqS (c n : Nat) : List ByteArray := (List.range n).map (fun i => mtx (c + i))
theorem mrkS_all (l : List ByteArray) (c : Nat) : mrkS l c l.length = seqS c l.length := by simp [mrkS, seqS]
theorem seqS_length (c n : Nat) : (seqS c n).length = n := by simp [seqS]
theorem nth_seqS (c n k : Nat) (h : k < n) : nthS (seqS c n) k = mtx (c + k) := by simp [nthS, seqS, List.getD, h]
theorem owned_seqS {w : World} {base : Nat} {v : Value} {n c : Nat} (h : w.ownsRow base 9 1 v n ((seqS c n).map Value.string)) : StrsAt w v (seqS c n) := StrsAt.owned h
end Go.Proofs.YtbaedapnikhdgaaGreatDoor
