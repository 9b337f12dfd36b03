/- The parts of a point, collected. -/
import Derived.Test.YtnfdkcphmolkiaaHndP
import Derived.Test.YtnfdkcphmolkiaaPrtS
namespace Go.Proofs.Ytnfdkcphmolkiaa
open Go.RowKit Go.Shelf
attribute [local go_sem] Oper.semAt_some
theorem round_any {m m' : Nat} {P : Program} {l : Nat} {f : FuncId} {tmps : Array Value} {assign body : Code} {w : World} {R : Ending → World → Prop}
    (h : RoundIn Fence.wide m P l f tmps assign body w R) : RoundIn Fence.wide m' P l f tmps assign body w R := ⟨h.1, fun c cs _ => h.2 c cs (fun d e => by cases e)⟩
theorem yield_any {m : Nat} (m' : Nat) {P : Program} {l : Nat} {args : Array Value} {W : World} {R : Ending → World → Prop} (h : YieldAt Fence.wide m P l args W R) : YieldAt Fence.wide m' P l args W R := by
  obtain ⟨fn, tmps, assign, body, hy, hR⟩ := h
  exact ⟨fn, tmps, assign, body, hy, round_any hR⟩
set_option maxHeartbeats 1000000 in
theorem last1_in (n : Nat) (form p : Int) (k : Bool) (hk : k = true ↔ form = 3 ∨ form = 4) (l b1 b2 : Nat) (J Jx : List Int → World → Prop) (W : World) (hA : AbidesFrom W.heap.size J)
    (hY : ∀ pre x W, J pre W → pre.length < (allF k 2 p).length → YieldAt Fence.wide (n - 1) Try.prog l #[.int .i64 x] W fun e W' =>
      (e = .returned (.bool true) ∧ J (pre ++ [x]) W' ∧ KeepP W W') ∨ (e = .returned (.bool false) ∧ Jx (pre ++ [x]) W'))
    (h1 : W.cell? ⟨b1, 0, none⟩ = some (.int .i64 form)) (h2 : W.cell? ⟨b2, 0, none⟩ = some (.int .i64 p)) (h0 : J [] W) :
    CallsIn Fence.wide n Try.prog 87 #[.func (.yield l) #[] #[], .pointer (some ⟨b1, 0, none⟩), .pointer (some ⟨b2, 0, none⟩)] W fun e W' => (∃ v, e = .returned v) ∧
      ((∃ ys, ys = allF k 2 p ∧ J ys W') ∨ (∃ pre, pre <+: allF k 2 p ∧ Jx pre W')) := by
  have hp := hand_in form k hk l (allF k 2 p).length W.heap.size J Jx hA (fun m pre x W hj hl => yield_any m (hY pre x W hj hl)) 2 (n - 1) p [] W (all_deep k p) h0 (by simp)
  clear hY hA h0 hk
  refine callsIn_of_wp Try.func87 rfl trivial ?_ rfl
  simp only [Try.ntmps87, List.size_toArray, List.length_cons, List.length_nil, Nat.reduceAdd, Nat.reduceSub, Array.replicate_succ, Array.replicate_zero, List.push_toArray, List.append_toArray, List.nil_append, List.cons_append]
  gi_wp2_with (refine ⟨trivial, (fun h => (by cases h)), ?_⟩; gi_at_call 88; refine hp.mono ?_; clear hp; rintro e W1 (⟨rfl, hJ1, _⟩ | ⟨rfl, q, hq, hx⟩))
  · go_end0
    exact ⟨⟨_, rfl⟩, .inl ⟨_, rfl, by simpa using hJ1⟩⟩
  · go_end0
    exact ⟨⟨_, rfl⟩, .inr ⟨q, hq, by simpa using hx⟩⟩
theorem last_any (form p : Int) (w : World) : Calls Try.prog 66 #[.int .i64 form, .int .i64 p] w fun e w' => e = .returned (.func (.func 87) #[] #[.pointer (some ⟨w.heap.size, 0, none⟩), .pointer (some ⟨w.heap.size + 1, 0, none⟩)]) ∧ w' = (w.alloc (.cells #[.int .i64 form] 2)).alloc (.cells #[.int .i64 p] 2) := by
  go_enter Try.func66, Try.ntmps66
  go_wp2
  go_ret
  exact ⟨rfl, rfl⟩
theorem last_stops (n : Nat) (form p : Int) (k : Bool) (hk : k = true ↔ form = 3 ∨ form = 4) (b1 b2 : Nat) (w : World) (l1 : b1 < w.heap.size) (l2 : b2 < w.heap.size)
    (h1 : w.cell? ⟨b1, 0, none⟩ = some (.int .i64 form)) (h2 : w.cell? ⟨b2, 0, none⟩ = some (.int .i64 p)) :
    SeqStopsK Fence.wide n Try.prog 87 #[.pointer (some ⟨b1, 0, none⟩), .pointer (some ⟨b2, 0, none⟩)] (fun x : Int => #[Value.int .i64 x]) KeepP (fun ys => ys = allF k 2 p) (fun pre => pre <+: allF k 2 p) (allF k 2 p).length w := fun l J Jx W hW hJ _ hY h0 =>
  last1_in n form p k hk l b1 b2 J Jx W hJ hY ((hW.cell (p := ⟨b1, 0, none⟩) l1).trans h1) ((hW.cell (p := ⟨b2, 0, none⟩) l2).trans h2) h0
theorem keepP_b {w : World} (W : World) (l : Nat) (o o' : Obj) (_ : w.heap.size ≤ l) (h : W.heap[l]? = some o) (hc : o.isCells = false) (_ : o.isWalk = false) : KeepP W (W.putObj l o') :=
  ⟨by simp [World.putObj], fun k c z e => (World.putObj_heap_other (fun hk => by subst hk; rw [h] at e; injection e with e; subst e; cases hc)).trans e⟩
theorem keepP_grown {W W' : World} {base n : Nat} {v : Value} {xs : List Value} (hg : W.grownBy W' v.ownBlock) (hr : W.ownsRow base 2 1 v n xs) : KeepP W W' :=
  ⟨hg.size, fun k c z e => (hg.block k (Array.getElem?_eq_some_iff.1 e).1 (fun hk => by
    rcases hr.2 with ⟨rfl, _⟩ | ⟨g, cap, cur, rfl, _, hh, _⟩
    · cases hk
    · simp [Value.ownBlock] at hk
      subst hk
      rw [hh] at e
      simp at e)).trans e⟩
theorem keepP_set {W : World} {B : Nat} {v u : Value} (hB : Boxed W B 24 v) : KeepP W (W.setCell ⟨B, 0, none⟩ u) :=
  ⟨by simp, fun k c z e => (heap_setCell_other W ⟨B, 0, none⟩ k u (fun hk => by
    subst hk
    have e2 : W.heap[k]? = _ := hB
    rw [e2] at e
    simp at e)).trans e⟩
end Go.Proofs.Ytnfdkcphmolkiaa
