/- The line of a place, as the program finds it: the loop over the leaves. -/
import Derived.Test.YtaipnmmlfbfcnaaDoorRpgP
import Derived.Test.YtaipnmmlfbfcnaaDoorRpfL
namespace Go.Proofs.YtaipnmmlfbfcnaaDoor.Rop
open Go.RowKit Go.Shelf Rwc
set_option linter.unusedVariables false
set_option linter.unusedSimpArgs false
attribute [local go_sem] Oper.semAt_some
/-- While the leaves come: g the first box, q the box of lines; a what is left of the place, l the lines so far. -/
structure Li (g q : Nat) (w V : World) (rc : Obj) (a l : Int) : Prop where
  ba : Boxed V (g + 1) 2 (.int .i64 a)
  br : Boxed V (g + 2) 2 (.int .i64 0)
  bq : Boxed V q 2 (.int .i64 l)
  bd : V.heap[q + 2]? = some (.deferred (some []))
  bl : V.heap[q + 3]? = some rc
  bel : Below g w V
/-- Behind a return from within. -/
structure Lx (g q : Nat) (w V : World) (rc : Obj) (r : Int) : Prop where
  br : Boxed V (g + 2) 2 (.int .i64 r)
  bd : V.heap[q + 2]? = some (.deferred (some []))
  bl : V.heap[q + 3]? = some rc
  bel : Below g w V
theorem Li.lt {g q : Nat} {w V : World} {rc : Obj} {a l : Int} (h : Li g q w V rc a l) : q + 3 < V.heap.size := (Array.getElem?_eq_some_iff.1 h.bl).1
theorem Lx.lt {g q : Nat} {w V : World} {rc : Obj} {r : Int} (h : Lx g q w V rc r) : q + 3 < V.heap.size := (Array.getElem?_eq_some_iff.1 h.bl).1
theorem Li.grown {g q : Nat} {w V V' : World} {rc : Obj} {a l : Int} {row : Option Nat} (h : Li g q w V rc a l) (hgq : g + 3 ≤ q) (hg : V.grownBy V' row) (hr : ∀ r, row = some r → q + 4 ≤ r) : Li g q w V' rc a l := by
  have hne : ∀ k, k < q + 4 → some k ≠ row := fun k h1 e => by have := hr k e.symm; omega
  have hlt := h.lt
  exact ⟨h.ba.kept hg (hne _ (by omega)), h.br.kept hg (hne _ (by omega)), h.bq.kept hg (hne _ (by omega)), (hg.block _ (by omega) (hne _ (by omega))).trans h.bd, (hg.block _ (by omega) (hne _ (by omega))).trans h.bl, h.bel.grown hg (by omega) (fun k e => by have := hr k e; omega)⟩
theorem Lx.grown {g q : Nat} {w V V' : World} {rc : Obj} {r : Int} {row : Option Nat} (h : Lx g q w V rc r) (hgq : g + 3 ≤ q) (hg : V.grownBy V' row) (hr : ∀ r, row = some r → q + 4 ≤ r) : Lx g q w V' rc r := by
  have hne : ∀ k, k < q + 4 → some k ≠ row := fun k h1 e => by have := hr k e.symm; omega
  have hlt := h.lt
  exact ⟨h.br.kept hg (hne _ (by omega)), (hg.block _ (by omega) (hne _ (by omega))).trans h.bd, (hg.block _ (by omega) (hne _ (by omega))).trans h.bl, h.bel.grown hg (by omega) (fun k e => by have := hr k e; omega)⟩
theorem Li.rcd {g q : Nat} {w V : World} {rc : Obj} {a l : Int} (h : Li g q w V rc a l) (hgq : g + 3 ≤ q) (rc' : Obj) : Li g q w (V.putObj (q + 3) rc') rc' a l := by
  have hg := grownBy_putObj' V (q + 3) rc'
  have hlt := h.lt
  have hne : ∀ k, k ≠ q + 3 → some k ≠ some (q + 3) := fun k h1 e => by injection e with e; omega
  exact ⟨h.ba.kept hg (hne _ (by omega)), h.br.kept hg (hne _ (by omega)), h.bq.kept hg (hne _ (by omega)), (hg.block _ (by omega) (hne _ (by omega))).trans h.bd, World.putObj_heap_same (by omega), h.bel.grown hg (by omega) (fun k e => by injection e with e; omega)⟩
theorem Lx.rcd {g q : Nat} {w V : World} {rc : Obj} {r : Int} (h : Lx g q w V rc r) (hgq : g + 3 ≤ q) (rc' : Obj) : Lx g q w (V.putObj (q + 3) rc') rc' r := by
  have hg := grownBy_putObj' V (q + 3) rc'
  have hlt := h.lt
  have hne : ∀ k, k ≠ q + 3 → some k ≠ some (q + 3) := fun k h1 e => by injection e with e; omega
  exact ⟨h.br.kept hg (hne _ (by omega)), (hg.block _ (by omega) (hne _ (by omega))).trans h.bd, World.putObj_heap_same (by omega), h.bel.grown hg (by omega) (fun k e => by injection e with e; omega)⟩
theorem Li.told {g q : Nat} {w V : World} {rc : Obj} {a l : Int} (h : Li g q w V rc a l) (hgq : g + 3 ≤ q) (r : Int) : Lx g q w (V.setCell ⟨g + 2, 0, none⟩ (.int .i64 r)) rc r := by
  have hg := grownBy_setCell' V (g + 2) (.int .i64 r)
  have hlt := h.lt
  have hne : ∀ k, k ≠ g + 2 → some k ≠ some (g + 2) := fun k h1 e => by injection e with e; omega
  exact ⟨h.br.set _, (hg.block _ (by omega) (hne _ (by omega))).trans h.bd, (hg.block _ (by omega) (hne _ (by omega))).trans h.bl, h.bel.grown hg (by omega) (fun k e => by injection e with e; omega)⟩
theorem Li.next {g q : Nat} {w V : World} {rc : Obj} {a l : Int} (h : Li g q w V rc a l) (hgq : g + 3 ≤ q) (a' l' : Int) : Li g q w ((V.setCell ⟨q, 0, none⟩ (.int .i64 l')).setCell ⟨g + 1, 0, none⟩ (.int .i64 a')) rc a' l' := by
  have hlt := h.lt
  have g1 := grownBy_setCell' V q (.int .i64 l')
  have g2 := grownBy_setCell' (V.setCell ⟨q, 0, none⟩ (.int .i64 l')) (g + 1) (.int .i64 a')
  have hz1 := g1.size
  have n1 : ∀ k, k ≠ q → some k ≠ some q := fun k h1 e => by injection e with e; omega
  have n2 : ∀ k, k ≠ g + 1 → some k ≠ some (g + 1) := fun k h1 e => by injection e with e; omega
  exact ⟨(h.ba.kept g1 (n1 _ (by omega))).set _, (h.br.kept g1 (n1 _ (by omega))).kept g2 (n2 _ (by omega)), (h.bq.set _).kept g2 (n2 _ (by omega)), (g2.block _ (by omega) (n2 _ (by omega))).trans ((g1.block _ (by omega) (n1 _ (by omega))).trans h.bd), (g2.block _ (by omega) (n2 _ (by omega))).trans ((g1.block _ (by omega) (n1 _ (by omega))).trans h.bl), (h.bel.grown g1 (by omega) (fun k e => by injection e with e; omega)).grown g2 (by omega) (fun k e => by injection e with e; omega)⟩
theorem line_walk (n g q : Nat) (S : Nat → Prop) (h1 : 1 ≤ n) (H : HT) (t : ByteArray) (hT : IsTr t H.sh) (hs : t.size ≤ 65536) (k : Nat) (w w2 : World) (hin : InS S w2 H) (hS : ∀ b, S b → b ≠ g + 1 ∧ b ≠ g + 2 ∧ b < q) (hgq : g + 3 ≤ q) (hz : w2.heap.size = q + 2)
    (ba : Boxed w2 (g + 1) 2 (.int .i64 (k : Int))) (br : Boxed w2 (g + 2) 2 (.int .i64 0)) (bq : Boxed w2 q 2 (.int .i64 0)) (bP : Boxed w2 (q + 1) 51 (.pointer H.ptr)) (hB2 : Below g w w2)
    {fn : FuncId} {tm : Array Value} {ps : Array Tmp} {asg bd : Code} {d : Nat}
    (hBody : ∀ m pre s Va, Li g q w Va (.loop (lrec .ready none fn tm ps asg bd d)) ((k : Int) - ((jn pre).size : Int)) (ends (jn pre) : Int) → (jn pre).size ≤ k → pre ++ [s] <+: ltx H.pre → q + 7 < Va.heap.size → YieldAt Fence.wide m Tryd.prog (q + 3) #[lfv s] Va fun e Vb =>
      Kt (q + 4) S Va Vb ∧ ((e = .returned (.bool true) ∧ Li g q w Vb (.loop (lrec .ready none fn tm ps asg bd d)) ((k : Int) - ((jn (pre ++ [s])).size : Int)) (ends (jn (pre ++ [s])) : Int) ∧ (jn (pre ++ [s])).size ≤ k) ∨ (e = .returned (.bool false) ∧ Lx g q w Vb (.loop (lrec .done (some .ret) fn tm ps asg bd d)) (ends (t.extract 0 k) : Int)))) :
    CallsIn Fence.wide n Tryd.prog 51 #[.func (.yield (q + 3)) #[] #[], .pointer (some ⟨q + 1, 0, none⟩)] ((w2.alloc (.deferred (some []))).alloc (.loop (lrec .ready none fn tm ps asg bd d))) fun e V => (∃ v, e = .returned v) ∧
      ((Li g q w V (.loop (lrec .ready none fn tm ps asg bd d)) ((k : Int) - (t.size : Int)) (ends t : Int) ∧ t.size ≤ k) ∨ Lx g q w V (.loop (lrec .done (some .ret) fn tm ps asg bd d)) (ends (t.extract 0 k) : Int)) := by
  generalize hrc : Obj.loop (lrec .ready none fn tm ps asg bd d) = rc at *
  generalize hrx : Obj.loop (lrec .done (some .ret) fn tm ps asg bd d) = rx at *
  obtain ⟨V0, hV⟩ : ∃ V0, V0 = (w2.alloc (.deferred (some []))).alloc rc := ⟨_, rfl⟩
  have hB3 : Below w2.heap.size w2 V0 := by rw [hV]; exact ((Below.refl _ _).alloc (Nat.le_refl _) _).alloc (by simp) _
  have hz3 : (w2.alloc (.deferred (some []))).heap.size = q + 3 := by simp [hz]
  have hVz : V0.heap.size = q + 4 := by rw [hV]; simp [hz]
  have W0 : Li g q w V0 rc ((k : Int) - ((jn []).size : Int)) (ends (jn []) : Int) := by
    refine ⟨?_, (hB3.block _ (by omega)).trans br, (hB3.block _ (by omega)).trans bq, ?_, ?_, hB2.trans (hB3.mono (by omega))⟩
    · have e : (k : Int) - ((jn []).size : Int) = (k : Int) := by show (k : Int) - ((0 : Nat) : Int) = _; omega
      rw [e]
      exact (hB3.block _ (by omega)).trans ba
    · rw [hV, Below.heap_alloc _ _ _ (by omega), ← hz]
      exact heap_alloc_new _ _
    · rw [hV, ← hz3]
      exact heap_alloc_new _ _
  have bT3 : V0.cell? ⟨q + 1, 0, none⟩ = some (.pointer H.ptr) := (hB3.cell (p := ⟨q + 1, 0, none⟩) (by show q + 1 < _; omega)).trans bP.cell
  rw [← hV]
  clear hV hrc hrx
  have hj := jn_leaves hT
  refine (leavesT n (q + 3) (q + 1) S h1 H t hT hs V0 bT3 (InS.keep (Tk.of hB3 (fun b hb => by have := hS b hb; omega)) hin) (fun b hb => by have := hS b hb; omega)
    (fun pre V => Li g q w V rc ((k : Int) - ((jn pre).size : Int)) (ends (jn pre) : Int) ∧ (jn pre).size ≤ k) (fun pre V => Lx g q w V rx (ends (t.extract 0 k) : Int)) ?_ ?_ ?_ ⟨W0, Nat.zero_le _⟩).mono ?_
  · rintro pre Va Vb row ⟨h, hl⟩ hg hr
    exact ⟨h.grown hgq hg (fun r e => by have := hr r e; omega), hl⟩
  · intro pre Va Vb row h hg hr
    exact h.grown hgq hg (fun r e => by have := hr r e; omega)
  · rintro m pre s Va ⟨h, hl⟩ hp hsz
    rw [hVz] at hsz ⊢
    exact hBody m pre s Va h hl hp (by omega)
  · rintro e V ⟨he, ⟨h, hl⟩ | ⟨pre, _, h⟩⟩
    · rw [hj] at h hl
      exact ⟨he, .inl ⟨h, hl⟩⟩
    · exact ⟨he, .inr h⟩
end Go.Proofs.YtaipnmmlfbfcnaaDoor.Rop
