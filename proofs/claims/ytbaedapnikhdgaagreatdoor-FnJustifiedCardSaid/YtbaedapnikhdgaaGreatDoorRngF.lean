/- A range over a function, round by round: for iterators that write cells of their own between two rounds. -/
import Derived.RangeFuncKeeps
namespace Go.Proofs.YtbaedapnikhdgaaGreatDoor
open Go.RowKit
set_option linter.unusedVariables false
/-- The loop's record. -/
def lrec (st : LoopState) (pe : Option Code) (fn : FuncId) (tm : Array Value) (ps : Array Tmp) (as bd : Code) (d : Nat) : Loop :=
  { state := st, pending := pe, fn := fn, tmps := tm, params := ps, assign := as, body := bd, defers := d }
/-- What a round's way out tells yield's caller. -/
def outR (l : Nat) (rc : LoopState → Option Code → Loop) (R : Ending → World → Prop) : Exit → Act → World → Prop
  | .normal, _, W => W.heap[l]? = some (.loop (rc .busy none)) ∧ R (.returned (.bool true)) (W.putObj l (.loop (rc .ready none)))
  | .ret, _, W => W.heap[l]? = some (.loop (rc .busy none)) ∧ R (.returned (.bool false)) (W.putObj l (.loop (rc .done (some .ret))))
  | .exit id, _, W => W.heap[l]? = some (.loop (rc .busy none)) ∧ R (.returned (.bool false)) (W.putObj l (.loop (rc .done (some (.exit id)))))
  | _, _, _ => False
variable {F : Fence} {n : Nat} {P : Program}
/-- One call of yield: the body is walked from the world in which the record is busy. -/
theorem yield_round {l d : Nat} {fn : FuncId} {tm : Array Value} {ps : Array Tmp} {as bd : Code} {args : Array Value} {W : World} {R : Ending → World → Prop} (hF : F.fn fn)
    (hl : W.heap[l]? = some (.loop (lrec .ready none fn tm ps as bd d))) (hs : args.size = ps.size) (a1 : Act)
    (ha : ∀ K : Act → World → Prop, K a1 W → as.wpIn (F.inRound l) n P (Exit.then K (fun _ _ _ => False)) { tmps := (ps.zip args).foldl (fun t (p, v) => t.setIfInBounds p v) tm, defers := [] } W)
    (hb : bd.wpIn (F.inRound l) n P (outR l (fun st pe => lrec st pe fn tm ps as bd d) R) a1 (W.putObj l (.loop (lrec .busy none fn tm ps as bd d)))) :
    YieldAt F n P l args W R := by
  refine ⟨fn, _, as, bd, run_yield hl hs, roundIn_of_wpIn hF (ha _ ⟨_, run_beginRound hl rfl, wpIn_mono hb ?_⟩)⟩
  intro e a W' h
  cases e with
  | normal => exact ⟨_, _, run_endRound none h.1, h.2⟩
  | ret => exact ⟨_, _, run_endRound (some .ret) h.1, h.2⟩
  | exit id => exact ⟨_, _, run_endRound (some (.exit id)) h.1, h.2⟩
  | goto t => exact h.elim
  | panic c => exact h.elim
  | outgrown => exact h.elim
/-- The statement: what is owed is the iterator's call, at the yield of the record that the loop lays. -/
theorem range_walk {g : Operand} {ps : Array Tmp} {as bd : Code} {Q : Exit → Act → World → Prop} {a : Act} {w : World} (hro : F.round = none) (h1 : 1 ≤ n) {gf : Nat} {lb : Array Value} (hg : a.eval g = .func (.func gf) #[] lb) (hFg : F.fn gf)
    (eg : ∀ args w, (callFunc gf args).run P w = .ok (.enter gf args) w)
    (h : ∀ fn, F.fn fn → CallsIn F (n - 1) P gf (#[.func (.yield (w.heap.size + 1)) #[] #[]] ++ lb) ((w.alloc (.deferred (some []))).alloc (.loop (lrec .ready none fn a.tmps ps as bd w.heap.size))) fun e W => (∃ v, e = .returned v) ∧
      ((W.heap[w.heap.size + 1]? = some (.loop (lrec .ready none fn a.tmps ps as bd w.heap.size)) ∧ Q .normal { a with defers := { target := .collected w.heap.size, args := #[] } :: a.defers } (W.putObj (w.heap.size + 1) (.loop (lrec .exhausted none fn a.tmps ps as bd w.heap.size)))) ∨
       (∃ c, W.heap[w.heap.size + 1]? = some (.loop (lrec .done (some c) fn a.tmps ps as bd w.heap.size)) ∧ c.wpIn F n P Q { a with defers := { target := .collected w.heap.size, args := #[] } :: a.defers } (W.putObj (w.heap.size + 1) (.loop (lrec .exhausted (some c) fn a.tmps ps as bd w.heap.size)))))) :
    (Code.rangeFunc g ps as bd).wpIn F n P Q a w := by
  refine wpIn_rangeFunc ?_
  intro fn hfn
  rw [hro]
  have hc := h fn hfn
  clear h
  have he : (Instr.enterLoop fn a.tmps ps as bd none).run P w = .ok (w.heap.size + 1, [{ target := .collected w.heap.size, args := #[] }]) ((w.alloc (.deferred (some []))).alloc (.loop (lrec .ready none fn a.tmps ps as bd w.heap.size))) := run_enterLoop_outer _ _ _ _ _
  generalize (w.alloc (.deferred (some []))).alloc (.loop (lrec .ready none fn a.tmps ps as bd w.heap.size)) = W1 at *
  refine ⟨w.heap.size + 1, [{ target := .collected w.heap.size, args := #[] }], W1, { target := .fn (.func gf) lb, args := #[.func (.yield (w.heap.size + 1)) #[] #[]] }, W1, gf, #[.func (.yield (w.heap.size + 1)) #[] #[]] ++ lb, W1, he, ?_, ?_, ?_, fun _ => h1, ?_⟩
  · simp only [resolve, hg]
    simp [go_sem]
  · intro f' hf'
    simp [Target.leads] at hf'
    subst hf'
    exact hFg
  · simp [invoke, go_sem, eg]
  · refine hc.mono ?_
    rintro e W ⟨⟨v, rfl⟩, hh⟩
    rcases hh with ⟨hl, hq⟩ | ⟨c, hl, hq⟩
    · exact ⟨none, _, run_endLoop hl (by simp [lrec]), hq⟩
    · exact ⟨some c, _, run_endLoop hl (by simp [lrec]), hq⟩
end Go.Proofs.YtbaedapnikhdgaaGreatDoor
