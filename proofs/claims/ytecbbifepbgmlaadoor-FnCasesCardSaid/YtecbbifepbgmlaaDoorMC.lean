/- Several texts in one. -/
import Derived.Test.YtecbbifepbgmlaaDoorMA
import Derived.RegionTactic
import Derived.Deep.Cut
import Derived.ProofKit
import Derived.OpenShut
import Derived.ShutString
import Derived.ChangeOld
import Derived.Deep.Slices
import Derived.RangeFuncNested
import Derived.RangeFuncBound
import Derived.RangeFuncCalls
import Derived.RangeFuncLeaves
import Derived.Shelf.Abstract
import Derived.Shelf.RegionOpen
import Derived.WalkKit
import Derived.OwnWalkIn
import Derived.TacticsInMore
import Derived.LoopNIn
import Derived.LoopIn
import Derived.Maps.AppendAt
import Derived.Test.YtecbbifepbgmlaaDoorMB
/- The parts of a point, as the specification tells them. -/
namespace Go.Proofs.YtecbbifepbgmlaaDoor
open Go.RowKit
theorem row0 (w : World) {l : List Int} (h : l = []) : (w.alloc (.cells #[] 2)).ownsRow w.heap.size 2 1 (.slice (some ⟨w.heap.size, 0, none⟩) 0 0) l.length (l.map (Value.int .i64)) := by
  subst h
  exact World.ownsRow_lit w #[] 0 (Nat.le_refl _) (by unfold maxLen; omega) rfl
theorem row1 (w : World) {l : List Int} {a : Int} (h : l = [a]) : (w.alloc (.cells #[.int .i64 a] 2)).ownsRow w.heap.size 2 1 (.slice (some ⟨w.heap.size, 0, none⟩) 1 1) l.length (l.map (Value.int .i64)) := by
  subst h
  exact World.ownsRow_lit w #[.int .i64 a] 1 (Nat.le_refl _) (by unfold maxLen; omega) rfl
theorem row2 (w : World) {l : List Int} {a b : Int} (h : l = [a, b]) : (w.alloc (.cells #[.int .i64 a, .int .i64 b] 2)).ownsRow w.heap.size 2 1 (.slice (some ⟨w.heap.size, 0, none⟩) 2 2) l.length (l.map (Value.int .i64)) := by
  subst h
  exact World.ownsRow_lit w #[.int .i64 a, .int .i64 b] 2 (Nat.le_refl _) (by unfold maxLen; omega) rfl
/-- A row of numbers, new. -/
def NewRow (w w' : World) (e : Ending) (l : List Int) : Prop := ∃ v, e = .returned v ∧ w'.ownsRow w.heap.size 2 1 v l.length (l.map (Value.int .i64)) ∧ Below w.heap.size w w'
end Go.Proofs.YtecbbifepbgmlaaDoor
/- Are spans right? The program's answer and the specification's. -/
namespace Go.Proofs.YtecbbifepbgmlaaDoor
open Go.RowKit
theorem fault_long {L : List Sp} (h : 1000 < L.length) : faultOf L = 1 := by
  unfold faultOf right
  rw [decide_eq_false (by omega)]
  rfl
theorem fault_ok {L : List Sp} (h : L.length ≤ 1000) (ho : okAt L 0 = true) : faultOf L = 0 := by
  unfold faultOf right
  rw [← okAt_zero, ho, decide_eq_true h]
  rfl
theorem fault_no {L : List Sp} (ho : okAt L 0 = false) : faultOf L = 1 := by
  unfold faultOf right
  rw [← okAt_zero, ho, Bool.and_false]
  rfl
theorem endAt_pos (L : List Sp) (k : Nat) (h : 0 < k) : endAt L k = (gx L (k - 1)).2.1 := by
  match k, h with
  | k + 1, _ => rfl
end Go.Proofs.YtecbbifepbgmlaaDoor
/- Arguments that hold spans, opened. -/
namespace Go.Proofs.YtecbbifepbgmlaaDoor
open Go.ChangeShapes Go.WideShapes Go.ChangeAt Go.RowKit Go.Deep
section
variable {H : Type} {enc : TypeId × Value → H} {w : World} {base : Nat} {spare : Nat → Bool} {held : Bool}
theorem int_cells : Tryd.prog.cellsOf 2 = 1 := by kernel_rfl
theorem addr_add (b off i : Nat) : (⟨b, off, none⟩ : Addr).add i = ⟨b, off + i, none⟩ := by unfold Addr.add; split <;> simp_all
theorem add_spot {w : World} {a : Addr} {v : Value} (h : w.cell? (a.add 0) = some v) : ∃ b off, a = ⟨b, off, none⟩ := by
  obtain ⟨b, off, spot⟩ := a
  have hspot : spot = none := by simpa [Addr.add] using World.cell?_spot h
  exact ⟨b, off, by rw [hspot]⟩
end
end Go.Proofs.YtecbbifepbgmlaaDoor
/- All parts of a point, as the specification tells them. -/
namespace Go.Proofs.YtecbbifepbgmlaaDoor
open Go.RowKit
end Go.Proofs.YtecbbifepbgmlaaDoor
/- The parts of a point, handed on by an iterator. -/
namespace Go.Proofs.YtecbbifepbgmlaaDoor
open Go.RowKit Go.Shelf
attribute [local go_sem] Oper.semAt_some
/-- What a round keeps: pairs lie as they lay. -/
def KeepP (W W' : World) : Prop := W.heap.size ≤ W'.heap.size ∧ ∀ (k : Nat) (c : Array Value) (z : Nat × Nat), W.heap[k]? = some (Obj.cells c 90 z) → W'.heap[k]? = some (Obj.cells c 90 z)
theorem KeepP.refl (W : World) : KeepP W W := ⟨Nat.le_refl _, fun _ _ _ h => h⟩
theorem KeepP.trans {A B C : World} (h : KeepP A B) (g : KeepP B C) : KeepP A C := ⟨Nat.le_trans h.1 g.1, fun k c z e => g.2 k c z (h.2 k c z e)⟩
theorem KeepP.of_below {A B : World} (h : Below A.heap.size A B) : KeepP A B := ⟨h.size, fun k _ _ e => (h.block k (Array.getElem?_eq_some_iff.1 e).1).trans e⟩
theorem KeepP.alloc (W : World) (o : Obj) : KeepP W (W.alloc o) := .of_below (one_below W o)
theorem grown_of_below {A B : World} (h : Below A.heap.size A B) : A.grownBy B none := ⟨h.os, h.tape, h.output, h.size, fun k hk _ => h.block k hk⟩
theorem abides_below {β : Type} {N : Nat} {J : β → World → Prop} (hA : AbidesFrom N J) {s : β} {A B : World} (hJ : J s A) (hb : Below A.heap.size A B) : J s B :=
  hA s A B none hJ (grown_of_below hb) (fun r e => by cases e)
theorem abides_alloc {β : Type} {N : Nat} {J : β → World → Prop} (hA : AbidesFrom N J) {s : β} {A : World} (hJ : J s A) (o : Obj) : J s (A.alloc o) := abides_below hA hJ (one_below A o)
theorem pair_cells {W : World} {g : Nat} {x y : Value} {z : Nat × Nat} (h : W.heap[g]? = some (.cells #[x, y] 90 z)) : W.cell? ⟨g, 0, none⟩ = some x ∧ W.cell? ⟨g, 1, none⟩ = some y := by
  constructor <;> simp [World.cell?, h]
theorem pair_new (W : World) (x y : Value) : (W.alloc (.cells #[x, y] 90)).heap[W.heap.size]? = some (.cells #[x, y] 90 (0, 0)) := heap_alloc_new _ _
/-- What the one who takes the parts promises. -/
def Takes (l N : Nat) (J Jx : List Int → World → Prop) : Prop := ∀ (m : Nat) (pre : List Int) (x : Int) (W : World), J pre W → pre.length < N → YieldAt Fence.wide m Tryd.prog l #[.int .i64 x] W fun e W' =>
  (e = .returned (.bool true) ∧ J (pre ++ [x]) W' ∧ KeepP W W') ∨ (e = .returned (.bool false) ∧ Jx (pre ++ [x]) W')
set_option maxRecDepth 100000 in
set_option maxHeartbeats 2000000 in
theorem hand_none (form p : Int) (k : Bool) (hk : k = true ↔ form = 3 ∨ form = 4) (l N B0 : Nat) (J Jx : List Int → World → Prop) (hA : AbidesFrom B0 J) (hY : Takes l N J Jx) (n : Nat) (pre : List Int) (W : World)
    (hp : partsZ k p = []) (hJ : J pre W) (hN : pre.length < N) :
    CallsIn Fence.wide n Tryd.prog 65 #[.int .i64 form, .int .i64 p, .func (.yield l) #[] #[]] W fun e W' =>
      (e = .returned (.bool true) ∧ J (pre ++ [p]) W' ∧ KeepP W W') ∨ (e = .returned (.bool false) ∧ Jx (pre ++ [p]) W') := by
  have PI := (callsIn_wide (n := n - 1)).2 (partsI form p k W hk)
  rw [pair_none hp] at PI
  have PJ := PI.mono (R' := fun e W1 => e = .returned (.agg #[.int .i64 p, .int .i64 (-1)]) ∧ YieldAt Fence.wide (n - 1) Tryd.prog l #[.int .i64 p] (W1.alloc (.cells #[.int .i64 p, .int .i64 (-1)] 90)) fun e W' => (e = .returned (.bool true) ∧ J (pre ++ [p]) W' ∧ KeepP W W') ∨ (e = .returned (.bool false) ∧ Jx (pre ++ [p]) W'))
    (fun e W1 h => ⟨h.1, YieldAt.mono (hY (n - 1) pre p _ (abides_alloc hA (abides_below hA hJ h.2) _) hN) fun e W2 g => g.elim (fun ⟨he, hj, hkp⟩ => .inl ⟨he, hj, (KeepP.of_below h.2).trans ((KeepP.alloc _ _).trans hkp)⟩) .inr⟩)
  clear PI hY hJ hk hp
  refine callsIn_of_wp Tryd.func65 rfl trivial ?_ rfl
  simp only [Tryd.ntmps65, List.size_toArray, List.length_cons, List.length_nil, Nat.reduceAdd, Nat.reduceSub, Array.replicate_succ, Array.replicate_zero, List.push_toArray, List.append_toArray, List.nil_append, List.cons_append]
  gi_wp2_with (first
    | (refine ⟨trivial, (fun h => (by cases h)), ?_⟩; gi_at_call 73; refine PJ.mono ?_; clear PJ; rintro e W1 ⟨rfl, fn, tmps, assign, body, hy, hR⟩)
    | (first | refine hR.mono ?_ | refine ⟨(fun h => (by cases h)), hR.mono ?_⟩; clear hR; rintro e W2 (⟨rfl, hJ2, hk2⟩ | ⟨rfl, hx2⟩)))
  · go_ret
    exact .inl ⟨rfl, hJ2, hk2⟩
  · go_ret
    exact .inr ⟨rfl, hx2⟩
/-- What handing on a row of parts comes to. -/
def Handed (J Jx : List Int → World → Prop) (pre xs : List Int) (W : World) (e : Ending) (W' : World) : Prop :=
  (e = .returned (.bool true) ∧ J (pre ++ xs) W' ∧ KeepP W W') ∨ (e = .returned (.bool false) ∧ ∃ q, q <+: xs ∧ Jx (pre ++ q) W')
theorem Handed.from {J Jx : List Int → World → Prop} {pre xs : List Int} {W V : World} {e : Ending} {W' : World} (h : Handed J Jx pre xs V e W') (hk : KeepP W V) : Handed J Jx pre xs W e W' :=
  h.elim (fun ⟨he, hj, hkp⟩ => .inl ⟨he, hj, hk.trans hkp⟩) .inr
set_option maxRecDepth 100000 in
set_option maxHeartbeats 4000000 in
theorem hand_in (form : Int) (k : Bool) (hk : k = true ↔ form = 3 ∨ form = 4) (l N B0 : Nat) (J Jx : List Int → World → Prop) (hA : AbidesFrom B0 J) (hY : Takes l N J Jx) :
    ∀ (d n : Nat) (p : Int) (pre : List Int) (W : World), deep k d p → J pre W → pre.length + (allF k d p).length ≤ N →
    CallsIn Fence.wide n Tryd.prog 65 #[.int .i64 form, .int .i64 p, .func (.yield l) #[] #[]] W (Handed J Jx pre (allF k d p) W) := by
  have base : ∀ (d n : Nat) (p : Int) (pre : List Int) (W : World), partsZ k p = [] → J pre W → pre.length + (allF k d p).length ≤ N → CallsIn Fence.wide n Tryd.prog 65 #[.int .i64 form, .int .i64 p, .func (.yield l) #[] #[]] W (Handed J Jx pre (allF k d p) W) := by
    intro d n p pre W hp hJ hN
    rw [allF_none hp] at hN ⊢
    refine (hand_none form p k hk l N B0 J Jx hA hY n pre W hp hJ (by simp at hN; omega)).mono ?_
    rintro e W' (⟨he, hj, hkp⟩ | ⟨he, hx⟩)
    · exact .inl ⟨he, hj, hkp⟩
    · exact .inr ⟨he, [p], List.prefix_refl _, hx⟩
  intro d
  induction d with
  | zero =>
    intro n p pre W hd hJ hN
    exact base 0 n p pre W hd hJ hN
  | succ d ih =>
    intro n p pre W hd hJ hN
    rcases parts_cases k p with hp | ⟨a, hp, hne, ha⟩ | ⟨a, b, hp, hne, ha, hbb⟩
    · exact base (d + 1) n p pre W hp hJ hN
    · have PI := (callsIn_wide (n := n - 1)).2 (partsI form p k W hk)
      rw [pair_one hp] at PI
      rw [allF_one hp] at hN ⊢
      have da : deep k d a := hd a (by rw [hp]; simp)
      have PJ := PI.mono (R' := fun e W1 => e = .returned (.agg #[.int .i64 a, .int .i64 (-1)]) ∧ CallsIn Fence.wide (n - 1) Tryd.prog 65 #[.int .i64 form, .int .i64 a, .func (.yield l) #[] #[]] (W1.alloc (.cells #[.int .i64 a, .int .i64 (-1)] 90)) (Handed J Jx pre (allF k d a) W))
        (fun e W1 h => ⟨h.1, (ih (n - 1) a pre _ da (abides_alloc hA (abides_below hA hJ h.2) _) hN).mono fun e W2 g => g.from ((KeepP.of_below h.2).trans (KeepP.alloc _ _))⟩)
      have t1 : (a == p) = false := by simpa using hne
      clear PI hY hJ hk hp ih base hd da ha hne
      refine callsIn_of_wp Tryd.func65 rfl trivial ?_ rfl
      simp only [Tryd.ntmps65, List.size_toArray, List.length_cons, List.length_nil, Nat.reduceAdd, Nat.reduceSub, Array.replicate_succ, Array.replicate_zero, List.push_toArray, List.append_toArray, List.nil_append, List.cons_append]
      gi_wp2_with (first
        | (refine ⟨trivial, (fun h => (by cases h)), ?_⟩; gi_at_call 73; refine PJ.mono ?_; clear PJ; rintro e W1 ⟨rfl, hR⟩)
        | (refine ⟨trivial, (fun h => (by cases h)), ?_⟩; gi_at_call 65; refine hR.mono ?_; clear hR; rintro e W2 (⟨rfl, hJ2, hk2⟩ | ⟨rfl, hx2⟩)))
      · go_ret
        exact .inl ⟨rfl, hJ2, hk2⟩
      · go_ret
        exact .inr ⟨rfl, hx2⟩
    · have PI := (callsIn_wide (n := n - 1)).2 (partsI form p k W hk)
      rw [pair_two hp] at PI
      rw [allF_two hp] at hN ⊢
      rw [List.length_append] at hN
      have da : deep k d a := hd a (by rw [hp]; simp)
      have db : deep k d b := hd b (by rw [hp]; simp)
      have PJ := PI.mono (R' := fun e W1 => e = .returned (.agg #[.int .i64 a, .int .i64 b]) ∧ CallsIn Fence.wide (n - 1) Tryd.prog 65 #[.int .i64 form, .int .i64 a, .func (.yield l) #[] #[]] (W1.alloc (.cells #[.int .i64 a, .int .i64 b] 90)) (fun e W2 =>
          (e = .returned (.bool true) ∧ W2.cell? ⟨W1.heap.size, 1, none⟩ = some (.int .i64 b) ∧ CallsIn Fence.wide (n - 1) Tryd.prog 65 #[.int .i64 form, .int .i64 b, .func (.yield l) #[] #[]] W2 (Handed J Jx pre (allF k d a ++ allF k d b) W)) ∨ (e = .returned (.bool false) ∧ ∃ q, q <+: allF k d a ++ allF k d b ∧ Jx (pre ++ q) W2)))
        (fun e W1 h => ⟨h.1, (ih (n - 1) a pre _ da (abides_alloc hA (abides_below hA hJ h.2) _) (by omega)).mono fun e W2 g => g.elim
          (fun ⟨he, hj, hkp⟩ => .inl ⟨he, (pair_cells (hkp.2 _ _ _ (pair_new W1 _ _))).2, (ih (n - 1) b (pre ++ allF k d a) W2 db hj (by rw [List.length_append]; omega)).mono fun e W3 g2 => g2.elim
            (fun ⟨he2, hj2, hkp2⟩ => .inl ⟨he2, by rw [← List.append_assoc]; exact hj2, (KeepP.of_below h.2).trans ((KeepP.alloc _ _).trans (hkp.trans hkp2))⟩)
            (fun ⟨he2, q, ⟨r, hr⟩, hx⟩ => .inr ⟨he2, allF k d a ++ q, ⟨r, by rw [List.append_assoc, hr]⟩, by rw [← List.append_assoc]; exact hx⟩)⟩)
          (fun ⟨he, q, hq, hx⟩ => .inr ⟨he, q, hq.trans (List.prefix_append _ _), hx⟩)⟩)
      have t1 : (a == p) = false := by simpa using hne
      have t2 : (b == -1) = false := by have := (bare_bd hbb).1; simp; omega
      clear PI hY hJ hk hp ih base hd da db ha hbb hne
      refine callsIn_of_wp Tryd.func65 rfl trivial ?_ rfl
      simp only [Tryd.ntmps65, List.size_toArray, List.length_cons, List.length_nil, Nat.reduceAdd, Nat.reduceSub, Array.replicate_succ, Array.replicate_zero, List.push_toArray, List.append_toArray, List.nil_append, List.cons_append]
      gi_wp2_with (first
        | (refine ⟨trivial, (fun h => (by cases h)), ?_⟩; gi_at_call 73; refine PJ.mono ?_; clear PJ; rintro e W1 ⟨rfl, hR⟩)
        | (refine ⟨trivial, (fun h => (by cases h)), ?_⟩; gi_at_call 65; refine hR.mono ?_; clear hR; rintro e W2 (⟨rfl, c2, hS⟩ | ⟨rfl, hx2⟩))
        | (refine ⟨trivial, (fun h => (by cases h)), ?_⟩; gi_at_call 65; refine hS.mono ?_; clear hS; rintro e W3 (⟨rfl, hJ3, hk3⟩ | ⟨rfl, hx3⟩)))
      · go_ret
        exact .inl ⟨rfl, hJ3, hk3⟩
      · go_ret
        exact .inr ⟨rfl, hx3⟩
      · refine ⟨trivial, ?_⟩
        gi_wp2
        go_ret
        exact .inr ⟨rfl, hx2⟩
end Go.Proofs.YtecbbifepbgmlaaDoor
/- The parts of a point, collected. -/
namespace Go.Proofs.YtecbbifepbgmlaaDoor
open Go.RowKit Go.Shelf
attribute [local go_sem] Oper.semAt_some
theorem round_any {m m' : Nat} {P : Program} {l : Nat} {f : FuncId} {tmps : Array Value} {assign body : Code} {w : World} {R : Ending → World → Prop}
    (h : RoundIn Fence.wide m P l f tmps assign body w R) : RoundIn Fence.wide m' P l f tmps assign body w R := ⟨h.1, fun c cs _ => h.2 c cs (fun d e => by cases e)⟩
theorem yield_any {m : Nat} (m' : Nat) {P : Program} {l : Nat} {args : Array Value} {W : World} {R : Ending → World → Prop} (h : YieldAt Fence.wide m P l args W R) : YieldAt Fence.wide m' P l args W R := by
  obtain ⟨fn, tmps, assign, body, hy, hR⟩ := h
  exact ⟨fn, tmps, assign, body, hy, round_any hR⟩
set_option maxHeartbeats 1000000 in
theorem last1_in (n : Nat) (form p : Int) (k : Bool) (hk : k = true ↔ form = 3 ∨ form = 4) (l b1 b2 : Nat) (J Jx : List Int → World → Prop) (W : World) (hA : AbidesFrom W.heap.size J)
    (hY : ∀ pre x W, J pre W → pre.length < (allF k 2 p).length → YieldAt Fence.wide (n - 1) Tryd.prog l #[.int .i64 x] W fun e W' =>
      (e = .returned (.bool true) ∧ J (pre ++ [x]) W' ∧ KeepP W W') ∨ (e = .returned (.bool false) ∧ Jx (pre ++ [x]) W'))
    (h1 : W.cell? ⟨b1, 0, none⟩ = some (.int .i64 form)) (h2 : W.cell? ⟨b2, 0, none⟩ = some (.int .i64 p)) (h0 : J [] W) :
    CallsIn Fence.wide n Tryd.prog 64 #[.func (.yield l) #[] #[], .pointer (some ⟨b1, 0, none⟩), .pointer (some ⟨b2, 0, none⟩)] W fun e W' => (∃ v, e = .returned v) ∧
      ((∃ ys, ys = allF k 2 p ∧ J ys W') ∨ (∃ pre, pre <+: allF k 2 p ∧ Jx pre W')) := by
  have hp := hand_in form k hk l (allF k 2 p).length W.heap.size J Jx hA (fun m pre x W hj hl => yield_any m (hY pre x W hj hl)) 2 (n - 1) p [] W (all_deep k p) h0 (by simp)
  clear hY hA h0 hk
  refine callsIn_of_wp Tryd.func64 rfl trivial ?_ rfl
  simp only [Tryd.ntmps64, List.size_toArray, List.length_cons, List.length_nil, Nat.reduceAdd, Nat.reduceSub, Array.replicate_succ, Array.replicate_zero, List.push_toArray, List.append_toArray, List.nil_append, List.cons_append]
  gi_wp2_with (refine ⟨trivial, (fun h => (by cases h)), ?_⟩; gi_at_call 65; refine hp.mono ?_; clear hp; rintro e W1 (⟨rfl, hJ1, _⟩ | ⟨rfl, q, hq, hx⟩))
  · go_end0
    exact ⟨⟨_, rfl⟩, .inl ⟨_, rfl, by simpa using hJ1⟩⟩
  · go_end0
    exact ⟨⟨_, rfl⟩, .inr ⟨q, hq, by simpa using hx⟩⟩
theorem last_any (form p : Int) (w : World) : Calls Tryd.prog 54 #[.int .i64 form, .int .i64 p] w fun e w' => e = .returned (.func (.func 64) #[] #[.pointer (some ⟨w.heap.size, 0, none⟩), .pointer (some ⟨w.heap.size + 1, 0, none⟩)]) ∧ w' = (w.alloc (.cells #[.int .i64 form] 2)).alloc (.cells #[.int .i64 p] 2) := by
  go_enter Tryd.func54, Tryd.ntmps54
  go_wp2
  go_ret
  exact ⟨rfl, rfl⟩
theorem last_stops (n : Nat) (form p : Int) (k : Bool) (hk : k = true ↔ form = 3 ∨ form = 4) (b1 b2 : Nat) (w : World) (l1 : b1 < w.heap.size) (l2 : b2 < w.heap.size)
    (h1 : w.cell? ⟨b1, 0, none⟩ = some (.int .i64 form)) (h2 : w.cell? ⟨b2, 0, none⟩ = some (.int .i64 p)) :
    SeqStopsK Fence.wide n Tryd.prog 64 #[.pointer (some ⟨b1, 0, none⟩), .pointer (some ⟨b2, 0, none⟩)] (fun x : Int => #[Value.int .i64 x]) KeepP (fun ys => ys = allF k 2 p) (fun pre => pre <+: allF k 2 p) (allF k 2 p).length w := fun l J Jx W hW hJ _ hY h0 =>
  last1_in n form p k hk l b1 b2 J Jx W hJ hY ((hW.cell (p := ⟨b1, 0, none⟩) l1).trans h1) ((hW.cell (p := ⟨b2, 0, none⟩) l2).trans h2) h0
theorem keepP_b {w : World} (W : World) (l : Nat) (o o' : Obj) (_ : w.heap.size ≤ l) (h : W.heap[l]? = some o) (hc : o.isCells = false) (_ : o.isWalk = false) : KeepP W (W.putObj l o') :=
  ⟨by simp [World.putObj], fun k c z e => (World.putObj_heap_other (fun hk => by subst hk; rw [h] at e; injection e with e; subst e; cases hc)).trans e⟩
theorem keepP_grown {W W' : World} {base n : Nat} {v : Value} {xs : List Value} (hg : W.grownBy W' v.ownBlock) (hr : W.ownsRow base 2 1 v n xs) : KeepP W W' :=
  ⟨hg.size, fun k c z e => (hg.block k (Array.getElem?_eq_some_iff.1 e).1 (fun hk => by
    rcases hr.2 with ⟨rfl, _⟩ | ⟨g, cap, cur, rfl, _, hh, _⟩
    · cases hk
    · simp [Value.ownBlock] at hk
      subst hk
      rw [hh] at e
      simp at e)).trans e⟩
theorem keepP_set {W : World} {B : Nat} {v u : Value} (hB : Boxed W B 24 v) : KeepP W (W.setCell ⟨B, 0, none⟩ u) :=
  ⟨by simp, fun k c z e => (heap_setCell_other W ⟨B, 0, none⟩ k u (fun hk => by
    subst hk
    have e2 : W.heap[k]? = _ := hB
    rw [e2] at e
    simp at e)).trans e⟩
end Go.Proofs.YtecbbifepbgmlaaDoor
/- The parts of a point, collected: slices.Collect, and Decompose of the program. -/
namespace Go.Proofs.YtecbbifepbgmlaaDoor
open Go.RowKit Go.Shelf
attribute [local go_sem] Oper.semAt_some
end Go.Proofs.YtecbbifepbgmlaaDoor
/- Decompose of the program. -/
namespace Go.Proofs.YtecbbifepbgmlaaDoor
open Go.RowKit Go.Shelf
/-- A point. -/
def isP (p : Int) : Bool := decide (0 ≤ p ∧ p ≤ 1114111 ∧ (p < 55296 ∨ 57343 < p))
def isF (f : Int) : Bool := decide (1 ≤ f ∧ f ≤ 4)
def isK (f : Int) : Bool := decide (f = 3 ∨ f = 4)
/-- What Decompose answers. -/
def decL (p form : Int) : List Int := if isP p = true ∧ isF form = true then allF (isK form) 2 p else []
theorem isPointD (p : Int) (w : World) : Calls Tryd.prog 12 #[.int .i64 p] w fun e w' => e = .returned (.bool (isP p)) ∧ w' = w := by
  by_cases h1 : 0 ≤ p
  · by_cases h2 : p ≤ 1114111
    · by_cases h3 : p < 55296
      · have HP : Hid (isP p = true) := hide (decide_eq_true (by omega))
        go_enter Tryd.func12, Tryd.ntmps12
        go_wp2
        go_ret
        exact ⟨ret_bool (unhide HP).symm, rfl⟩
      · by_cases h4 : 57343 < p
        · have HP : Hid (isP p = true) := hide (decide_eq_true (by omega))
          go_enter Tryd.func12, Tryd.ntmps12
          go_wp2
          go_ret
          exact ⟨ret_bool (unhide HP).symm, rfl⟩
        · have HP : Hid (isP p = false) := hide (decide_eq_false (by omega))
          go_enter Tryd.func12, Tryd.ntmps12
          go_wp2
          go_ret
          exact ⟨ret_bool (unhide HP).symm, rfl⟩
    · have HP : Hid (isP p = false) := hide (decide_eq_false (by omega))
      go_enter Tryd.func12, Tryd.ntmps12
      go_wp2
      go_ret
      exact ⟨ret_bool (unhide HP).symm, rfl⟩
  · have HP : Hid (isP p = false) := hide (decide_eq_false (by omega))
    go_enter Tryd.func12, Tryd.ntmps12
    go_wp2
    go_ret
    exact ⟨ret_bool (unhide HP).symm, rfl⟩
theorem form_ownI {w : World} {B n : Nat} {v : Value} {xs : List Value} (h : w.ownsRow B 2 1 v n xs) : ∃ a cap, v = .slice a n cap := by
  rcases h.2 with ⟨rfl, rfl⟩ | ⟨g, cap, cur, rfl, _⟩
  · exact ⟨_, _, rfl⟩
  · exact ⟨_, _, rfl⟩
theorem newRow_from {w w0 w' : World} {e : Ending} {l : List Int} (h : NewRow w0 w' e l) (hb : Below w.heap.size w w0) : NewRow w w' e l := by
  obtain ⟨v, he, ho, hb2⟩ := h
  have hs := hb.size
  refine ⟨v, he, ⟨ho.1, ?_⟩, hb.trans (hb2.mono hs)⟩
  rcases ho.2 with h' | ⟨g, cap, cur, hv, hg, r⟩
  · exact .inl h'
  · exact .inr ⟨g, cap, cur, hv, Nat.le_trans hs hg, r⟩
end Go.Proofs.YtecbbifepbgmlaaDoor
/- All parts of a point to the last, as the specification tells them; Decompose of the specification. -/
namespace Go.Proofs.YtecbbifepbgmlaaDoor
open Go.RowKit
theorem flat_take (k : Bool) (d : Nat) (l : List Int) (j : Nat) (h : j < l.length) : (l.take (j + 1)).flatMap (allF k d) = (l.take j).flatMap (allF k d) ++ allF k d (nth l j) := by
  have e : nth l j = l[j] := by simp [nth, List.getD, h]
  rw [List.take_succ_eq_append_getElem h, List.flatMap_append, e]
  simp
theorem parts_len (k : Bool) (p : Int) : (partsZ k p).length ≤ 2 := by
  rcases parts_cases k p with e | ⟨a, e, _⟩ | ⟨a, b, e, _⟩ <;> rw [e] <;> simp
theorem flat_len4 (k : Bool) (d : Nat) (hd : d ≤ 2) (l : List Int) (hl : l.length ≤ 2) (j : Nat) : ((l.take j).flatMap (allF k d)).length ≤ 16 := by
  have h4 : ∀ x, (allF k d x).length ≤ 4 := fun x => by
    have h1 := (allF_len k d x).2
    have h2 : 2 ^ d ≤ 2 ^ 2 := Nat.pow_le_pow_right (by omega) hd
    omega
  have : ∀ (m : List Int), m.length ≤ 2 → (m.flatMap (allF k d)).length ≤ 16 := fun m hm => by
    match m, hm with
    | [], _ => simp
    | [a], _ => have := h4 a; simp; omega
    | [a, b], _ => have := h4 a; have := h4 b; simp; omega
  exact this _ (by rw [List.length_take]; omega)
end Go.Proofs.YtecbbifepbgmlaaDoor
/- The specification's order of marks. -/
namespace Go.Proofs.YtecbbifepbgmlaaDoor
open Go.RowKit
theorem own_seg {w : World} {B0 n g cap : Nat} {X : List Int} (h : w.ownsRow B0 2 1 (.slice (some ⟨g, 0, none⟩) n cap) n (X.map (Value.int .i64))) : ∃ Bq : List Value, Seg w w g [] X Bq ∧ B0 ≤ g ∧ n ≤ cap ∧ cap ≤ maxLen ∧ n = X.length ∧ n + Bq.length = cap := by
  have hn : n = X.length := by have := h.1; simp at this; exact this.symm
  rcases h.2 with ⟨h1, _⟩ | ⟨g', cap', cur, hv, hg, hf, h1, h2, h3, h4⟩
  · cases h1
  · cases hv
    rw [Nat.mul_one] at h3 h4
    refine ⟨cur.toList.drop n, ⟨?_, grown_refl _ _⟩, hg, h1, h2, hn, ?_⟩
    · rw [hf]
      congr 2
      rw [List.nil_append, ← h4, List.take_append_drop]
    · rw [List.length_drop, Array.length_toList]
      omega
theorem seg_own {w0 w : World} {B0 n g cap : Nat} {X : List Int} {Bq : List Value} (S : Seg w0 w g [] X Bq) (hB : B0 ≤ g) (hn : n = X.length) (hc : n + Bq.length = cap) (hm : cap ≤ maxLen) : w.ownsRow B0 2 1 (.slice (some ⟨g, 0, none⟩) n cap) n (X.map (Value.int .i64)) := by
  refine ⟨by simp [hn], .inr ⟨g, cap, _, rfl, hB, S.fu, by omega, hm, ?_, ?_⟩⟩
  · simp; omega
  · simp [hn]
theorem Seg.below {w0 w : World} {g B0 : Nat} {A B : List Value} {X : List Int} (S : Seg w0 w g A X B) (h0 : B0 ≤ w0.heap.size) (hB : B0 ≤ g) : Below B0 w0 w := (Below.refl _ _).grown S.gr h0 (fun m hm => by cases hm; exact hB)
theorem Seg.cell0 {w0 w : World} {g : Nat} {B : List Value} {X : List Int} (h : Seg w0 w g [] X B) (i : Nat) (hi : i < X.length) : w.cell? ⟨g, i, none⟩ = some (.int .i64 (nth X i)) := by simpa using h.cell i hi
theorem Seg.frozen0 {w0 w : World} {g : Nat} {B : List Value} {X : List Int} (h : Seg w0 w g [] X B) (i : Nat) : w.frozen? ⟨g, i, none⟩ = false := by simpa using h.frozen i
theorem Seg.set0 {w0 w : World} {g : Nat} {B : List Value} {X : List Int} (h : Seg w0 w g [] X B) (i : Nat) (hi : i < X.length) (x : Int) : Seg w0 (w.setCell ⟨g, i, none⟩ (.int .i64 x)) g [] (X.set i x) B := by simpa using h.set i hi x
/-- The first i points are in order. -/
def OSs (w0 w : World) (g : Nat) (B : List Value) (L : List Int) (i : Nat) : Prop := Seg w0 w g [] (ordL (L.take i) ++ L.drop i) B
theorem ord_take {L : List Int} {i : Nat} (hi : i < L.length) : L.take (i + 1) = L.take i ++ [nth L i] ∧ L.drop i = nth L i :: L.drop (i + 1) := by
  have e : nth L i = L[i] := by simp [nth, List.getD, hi]
  rw [e]
  exact ⟨List.take_succ_eq_append_getElem hi, List.drop_eq_getElem_cons hi⟩
theorem OSs.cell {w0 w : World} {g : Nat} {B : List Value} {L : List Int} {i : Nat} (h : OSs w0 w g B L i) (hi : i < L.length) : w.cell? ⟨g, i, none⟩ = some (.int .i64 (nth L i)) := by
  unfold OSs at h
  have hl : (ordL (L.take i)).length = i := by rw [ordL_len, List.length_take]; omega
  rw [(ord_take hi).2] at h
  have c := h.cell0 i (by simp [hl])
  rw [nth_at _ _ _ _ hl.symm] at c
  exact c
theorem OSs.zero {w0 w : World} {g : Nat} {B : List Value} {L : List Int} {i : Nat} (h : OSs w0 w g B L i) (hi : i < L.length) (hz : clsZ (nth L i) = 0) : OSs w0 w g B L (i + 1) := by
  unfold OSs at h ⊢
  rw [(ord_take hi).2] at h
  rw [(ord_take hi).1, ord_zero _ hz]
  simpa using h
end Go.Proofs.YtecbbifepbgmlaaDoor
