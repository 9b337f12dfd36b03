/- The place of a line, as the program finds it: the loop over the leaves. -/
import Derived.Test.YtaipnmmlfbfcnaaDoorRphP
import Derived.Test.YtaipnmmlfbfcnaaDoorRgnI
namespace Go.Proofs.YtaipnmmlfbfcnaaDoor.Rop
open Go.RowKit Go.Shelf Rwc
set_option linter.unusedVariables false
set_option linter.unusedSimpArgs false
attribute [local go_sem] Oper.semAt_some
theorem place_walk (n g q : Nat) (S : Nat → Prop) (h1 : 1 ≤ n) (H : HT) (t : ByteArray) (hT : IsTr t H.sh) (hs : t.size ≤ 65536) (k : Nat) (hk0 : 0 < k) (w w2 : World) (hin : InS S w2 H) (hS : ∀ b, S b → b ≠ g + 1 ∧ b ≠ g + 2 ∧ b < q) (hgq : g + 3 ≤ q) (hz : w2.heap.size = q + 2)
    (ba : Boxed w2 (g + 1) 2 (.int .i64 (k : Int))) (br : Boxed w2 (g + 2) 2 (.int .i64 0)) (bq : Boxed w2 q 2 (.int .i64 0)) (bP : Boxed w2 (q + 1) 51 (.pointer H.ptr)) (hB2 : Below g w w2)
    {fn : FuncId} {tm : Array Value} {ps : Array Tmp} {asg bd : Code} {d : Nat}
    (hBody : ∀ m pre s Va, Li g q w Va (.loop (lrec .ready none fn tm ps asg bd d)) ((k : Int) - (ends (jn pre) : Int)) ((jn pre).size : Int) → ends (jn pre) < k → pre ++ [s] <+: ltx H.pre → q + 7 < Va.heap.size → YieldAt Fence.wide m Tryd.prog (q + 3) #[lfv s] Va fun e Vb =>
      Kt (q + 4) S Va Vb ∧ ((e = .returned (.bool true) ∧ Li g q w Vb (.loop (lrec .ready none fn tm ps asg bd d)) ((k : Int) - (ends (jn (pre ++ [s])) : Int)) ((jn (pre ++ [s])).size : Int) ∧ ends (jn (pre ++ [s])) < k) ∨ (e = .returned (.bool false) ∧ Lx g q w Vb (.loop (lrec .done (some .ret) fn tm ps asg bd d)) (plcAns true t (k : Int))))) :
    CallsIn Fence.wide n Tryd.prog 51 #[.func (.yield (q + 3)) #[] #[], .pointer (some ⟨q + 1, 0, none⟩)] ((w2.alloc (.deferred (some []))).alloc (.loop (lrec .ready none fn tm ps asg bd d))) fun e V => (∃ v, e = .returned v) ∧
      ((Li g q w V (.loop (lrec .ready none fn tm ps asg bd d)) ((k : Int) - (ends t : Int)) (t.size : Int) ∧ ends t < k) ∨ Lx g q w V (.loop (lrec .done (some .ret) fn tm ps asg bd d)) (plcAns true t (k : Int))) := by
  generalize hrc : Obj.loop (lrec .ready none fn tm ps asg bd d) = rc at *
  generalize hrx : Obj.loop (lrec .done (some .ret) fn tm ps asg bd d) = rx at *
  obtain ⟨V0, hV⟩ : ∃ V0, V0 = (w2.alloc (.deferred (some []))).alloc rc := ⟨_, rfl⟩
  have hB3 : Below w2.heap.size w2 V0 := by rw [hV]; exact ((Below.refl _ _).alloc (Nat.le_refl _) _).alloc (by simp) _
  have hz3 : (w2.alloc (.deferred (some []))).heap.size = q + 3 := by simp [hz]
  have hVz : V0.heap.size = q + 4 := by rw [hV]; simp [hz]
  have W0 : Li g q w V0 rc ((k : Int) - (ends (jn []) : Int)) ((jn []).size : Int) := by
    refine ⟨?_, (hB3.block _ (by omega)).trans br, (hB3.block _ (by omega)).trans bq, ?_, ?_, hB2.trans (hB3.mono (by omega))⟩
    · have e : (k : Int) - (ends (jn []) : Int) = (k : Int) := by show (k : Int) - ((0 : Nat) : Int) = _; omega
      rw [e]
      exact (hB3.block _ (by omega)).trans ba
    · rw [hV, Below.heap_alloc _ _ _ (by omega), ← hz]
      exact heap_alloc_new _ _
    · rw [hV, ← hz3]
      exact heap_alloc_new _ _
  have bT3 : V0.cell? ⟨q + 1, 0, none⟩ = some (.pointer H.ptr) := (hB3.cell (p := ⟨q + 1, 0, none⟩) (by show q + 1 < _; omega)).trans bP.cell
  rw [← hV]
  clear hV hrc hrx
  have hj := jn_leaves hT
  refine (leavesT n (q + 3) (q + 1) S h1 H t hT hs V0 bT3 (InS.keep (Tk.of hB3 (fun b hb => by have := hS b hb; omega)) hin) (fun b hb => by have := hS b hb; omega)
    (fun pre V => Li g q w V rc ((k : Int) - (ends (jn pre) : Int)) ((jn pre).size : Int) ∧ ends (jn pre) < k) (fun pre V => Lx g q w V rx (plcAns true t (k : Int))) ?_ ?_ ?_ ⟨W0, hk0⟩).mono ?_
  · rintro pre Va Vb row ⟨h, hl⟩ hg hr
    exact ⟨h.grown hgq hg (fun r e => by have := hr r e; omega), hl⟩
  · intro pre Va Vb row h hg hr
    exact h.grown hgq hg (fun r e => by have := hr r e; omega)
  · rintro m pre s Va ⟨h, hl⟩ hp hsz
    rw [hVz] at hsz ⊢
    exact hBody m pre s Va h hl hp (by omega)
  · rintro e V ⟨he, ⟨h, hl⟩ | ⟨pre, _, h⟩⟩
    · rw [hj] at h hl
      exact ⟨he, .inl ⟨h, hl⟩⟩
    · exact ⟨he, .inr h⟩
end Go.Proofs.YtaipnmmlfbfcnaaDoor.Rop
