/- The parts of a point, handed on by an iterator. -/
import Derived.RangeFuncNested
import Derived.RangeFuncBound
import Derived.RangeFuncCalls
import Derived.RangeFuncLeaves
import Derived.Shelf.Abstract
import Derived.Shelf.RegionOpen
import Derived.WalkKit
import Derived.OwnWalkIn
import Derived.TacticsInMore
import Derived.LoopNIn
import Derived.LoopIn
import Derived.Maps.AppendAt
import Derived.Test.YtnfdkcphmolkiaaPrtJ
namespace Go.Proofs.Ytnfdkcphmolkiaa
open Go.RowKit Go.Shelf
attribute [local go_sem] Oper.semAt_some
/-- What a round keeps: pairs lie as they lay. -/
def KeepP (W W' : World) : Prop := W.heap.size ≤ W'.heap.size ∧ ∀ (k : Nat) (c : Array Value) (z : Nat × Nat), W.heap[k]? = some (Obj.cells c 93 z) → W'.heap[k]? = some (Obj.cells c 93 z)
theorem KeepP.refl (W : World) : KeepP W W := ⟨Nat.le_refl _, fun _ _ _ h => h⟩
theorem KeepP.trans {A B C : World} (h : KeepP A B) (g : KeepP B C) : KeepP A C := ⟨Nat.le_trans h.1 g.1, fun k c z e => g.2 k c z (h.2 k c z e)⟩
theorem KeepP.of_below {A B : World} (h : Below A.heap.size A B) : KeepP A B := ⟨h.size, fun k _ _ e => (h.block k (Array.getElem?_eq_some_iff.1 e).1).trans e⟩
theorem KeepP.alloc (W : World) (o : Obj) : KeepP W (W.alloc o) := .of_below (one_below W o)
theorem grown_of_below {A B : World} (h : Below A.heap.size A B) : A.grownBy B none := ⟨h.os, h.tape, h.output, h.size, fun k hk _ => h.block k hk⟩
theorem abides_below {β : Type} {N : Nat} {J : β → World → Prop} (hA : AbidesFrom N J) {s : β} {A B : World} (hJ : J s A) (hb : Below A.heap.size A B) : J s B :=
  hA s A B none hJ (grown_of_below hb) (fun r e => by cases e)
theorem abides_alloc {β : Type} {N : Nat} {J : β → World → Prop} (hA : AbidesFrom N J) {s : β} {A : World} (hJ : J s A) (o : Obj) : J s (A.alloc o) := abides_below hA hJ (one_below A o)
theorem pair_cells {W : World} {g : Nat} {x y : Value} {z : Nat × Nat} (h : W.heap[g]? = some (.cells #[x, y] 93 z)) : W.cell? ⟨g, 0, none⟩ = some x ∧ W.cell? ⟨g, 1, none⟩ = some y := by
  constructor <;> simp [World.cell?, h]
theorem pair_new (W : World) (x y : Value) : (W.alloc (.cells #[x, y] 93)).heap[W.heap.size]? = some (.cells #[x, y] 93 (0, 0)) := heap_alloc_new _ _
/-- What the one who takes the parts promises. -/
def Takes (l N : Nat) (J Jx : List Int → World → Prop) : Prop := ∀ (m : Nat) (pre : List Int) (x : Int) (W : World), J pre W → pre.length < N → YieldAt Fence.wide m Try.prog l #[.int .i64 x] W fun e W' =>
  (e = .returned (.bool true) ∧ J (pre ++ [x]) W' ∧ KeepP W W') ∨ (e = .returned (.bool false) ∧ Jx (pre ++ [x]) W')
set_option maxRecDepth 100000 in
set_option maxHeartbeats 2000000 in
theorem hand_none (form p : Int) (k : Bool) (hk : k = true ↔ form = 3 ∨ form = 4) (l N B0 : Nat) (J Jx : List Int → World → Prop) (hA : AbidesFrom B0 J) (hY : Takes l N J Jx) (n : Nat) (pre : List Int) (W : World)
    (hp : partsZ k p = []) (hJ : J pre W) (hN : pre.length < N) :
    CallsIn Fence.wide n Try.prog 88 #[.int .i64 form, .int .i64 p, .func (.yield l) #[] #[]] W fun e W' =>
      (e = .returned (.bool true) ∧ J (pre ++ [p]) W' ∧ KeepP W W') ∨ (e = .returned (.bool false) ∧ Jx (pre ++ [p]) W') := by
  have PI := (callsIn_wide (n := n - 1)).2 (partsI form p k W hk)
  rw [pair_none hp] at PI
  have PJ := PI.mono (R' := fun e W1 => e = .returned (.agg #[.int .i64 p, .int .i64 (-1)]) ∧ YieldAt Fence.wide (n - 1) Try.prog l #[.int .i64 p] (W1.alloc (.cells #[.int .i64 p, .int .i64 (-1)] 93)) fun e W' => (e = .returned (.bool true) ∧ J (pre ++ [p]) W' ∧ KeepP W W') ∨ (e = .returned (.bool false) ∧ Jx (pre ++ [p]) W'))
    (fun e W1 h => ⟨h.1, YieldAt.mono (hY (n - 1) pre p _ (abides_alloc hA (abides_below hA hJ h.2) _) hN) fun e W2 g => g.elim (fun ⟨he, hj, hkp⟩ => .inl ⟨he, hj, (KeepP.of_below h.2).trans ((KeepP.alloc _ _).trans hkp)⟩) .inr⟩)
  clear PI hY hJ hk hp
  refine callsIn_of_wp Try.func88 rfl trivial ?_ rfl
  simp only [Try.ntmps88, List.size_toArray, List.length_cons, List.length_nil, Nat.reduceAdd, Nat.reduceSub, Array.replicate_succ, Array.replicate_zero, List.push_toArray, List.append_toArray, List.nil_append, List.cons_append]
  gi_wp2_with (first
    | (refine ⟨trivial, (fun h => (by cases h)), ?_⟩; gi_at_call 92; refine PJ.mono ?_; clear PJ; rintro e W1 ⟨rfl, fn, tmps, assign, body, hy, hR⟩)
    | (first | refine hR.mono ?_ | refine ⟨(fun h => (by cases h)), hR.mono ?_⟩; clear hR; rintro e W2 (⟨rfl, hJ2, hk2⟩ | ⟨rfl, hx2⟩)))
  · go_ret
    exact .inl ⟨rfl, hJ2, hk2⟩
  · go_ret
    exact .inr ⟨rfl, hx2⟩
/-- What handing on a row of parts comes to. -/
def Handed (J Jx : List Int → World → Prop) (pre xs : List Int) (W : World) (e : Ending) (W' : World) : Prop :=
  (e = .returned (.bool true) ∧ J (pre ++ xs) W' ∧ KeepP W W') ∨ (e = .returned (.bool false) ∧ ∃ q, q <+: xs ∧ Jx (pre ++ q) W')
theorem Handed.from {J Jx : List Int → World → Prop} {pre xs : List Int} {W V : World} {e : Ending} {W' : World} (h : Handed J Jx pre xs V e W') (hk : KeepP W V) : Handed J Jx pre xs W e W' :=
  h.elim (fun ⟨he, hj, hkp⟩ => .inl ⟨he, hj, hk.trans hkp⟩) .inr
set_option maxRecDepth 100000 in
set_option maxHeartbeats 4000000 in
theorem hand_in (form : Int) (k : Bool) (hk : k = true ↔ form = 3 ∨ form = 4) (l N B0 : Nat) (J Jx : List Int → World → Prop) (hA : AbidesFrom B0 J) (hY : Takes l N J Jx) :
    ∀ (d n : Nat) (p : Int) (pre : List Int) (W : World), deep k d p → J pre W → pre.length + (allF k d p).length ≤ N →
    CallsIn Fence.wide n Try.prog 88 #[.int .i64 form, .int .i64 p, .func (.yield l) #[] #[]] W (Handed J Jx pre (allF k d p) W) := by
  have base : ∀ (d n : Nat) (p : Int) (pre : List Int) (W : World), partsZ k p = [] → J pre W → pre.length + (allF k d p).length ≤ N → CallsIn Fence.wide n Try.prog 88 #[.int .i64 form, .int .i64 p, .func (.yield l) #[] #[]] W (Handed J Jx pre (allF k d p) W) := by
    intro d n p pre W hp hJ hN
    rw [allF_none hp] at hN ⊢
    refine (hand_none form p k hk l N B0 J Jx hA hY n pre W hp hJ (by simp at hN; omega)).mono ?_
    rintro e W' (⟨he, hj, hkp⟩ | ⟨he, hx⟩)
    · exact .inl ⟨he, hj, hkp⟩
    · exact .inr ⟨he, [p], List.prefix_refl _, hx⟩
  intro d
  induction d with
  | zero =>
    intro n p pre W hd hJ hN
    exact base 0 n p pre W hd hJ hN
  | succ d ih =>
    intro n p pre W hd hJ hN
    rcases parts_cases k p with hp | ⟨a, hp, hne, ha⟩ | ⟨a, b, hp, hne, ha, hbb⟩
    · exact base (d + 1) n p pre W hp hJ hN
    · have PI := (callsIn_wide (n := n - 1)).2 (partsI form p k W hk)
      rw [pair_one hp] at PI
      rw [allF_one hp] at hN ⊢
      have da : deep k d a := hd a (by rw [hp]; simp)
      have PJ := PI.mono (R' := fun e W1 => e = .returned (.agg #[.int .i64 a, .int .i64 (-1)]) ∧ CallsIn Fence.wide (n - 1) Try.prog 88 #[.int .i64 form, .int .i64 a, .func (.yield l) #[] #[]] (W1.alloc (.cells #[.int .i64 a, .int .i64 (-1)] 93)) (Handed J Jx pre (allF k d a) W))
        (fun e W1 h => ⟨h.1, (ih (n - 1) a pre _ da (abides_alloc hA (abides_below hA hJ h.2) _) hN).mono fun e W2 g => g.from ((KeepP.of_below h.2).trans (KeepP.alloc _ _))⟩)
      have t1 : (a == p) = false := by simpa using hne
      clear PI hY hJ hk hp ih base hd da ha hne
      refine callsIn_of_wp Try.func88 rfl trivial ?_ rfl
      simp only [Try.ntmps88, List.size_toArray, List.length_cons, List.length_nil, Nat.reduceAdd, Nat.reduceSub, Array.replicate_succ, Array.replicate_zero, List.push_toArray, List.append_toArray, List.nil_append, List.cons_append]
      gi_wp2_with (first
        | (refine ⟨trivial, (fun h => (by cases h)), ?_⟩; gi_at_call 92; refine PJ.mono ?_; clear PJ; rintro e W1 ⟨rfl, hR⟩)
        | (refine ⟨trivial, (fun h => (by cases h)), ?_⟩; gi_at_call 88; refine hR.mono ?_; clear hR; rintro e W2 (⟨rfl, hJ2, hk2⟩ | ⟨rfl, hx2⟩)))
      · go_ret
        exact .inl ⟨rfl, hJ2, hk2⟩
      · go_ret
        exact .inr ⟨rfl, hx2⟩
    · have PI := (callsIn_wide (n := n - 1)).2 (partsI form p k W hk)
      rw [pair_two hp] at PI
      rw [allF_two hp] at hN ⊢
      rw [List.length_append] at hN
      have da : deep k d a := hd a (by rw [hp]; simp)
      have db : deep k d b := hd b (by rw [hp]; simp)
      have PJ := PI.mono (R' := fun e W1 => e = .returned (.agg #[.int .i64 a, .int .i64 b]) ∧ CallsIn Fence.wide (n - 1) Try.prog 88 #[.int .i64 form, .int .i64 a, .func (.yield l) #[] #[]] (W1.alloc (.cells #[.int .i64 a, .int .i64 b] 93)) (fun e W2 =>
          (e = .returned (.bool true) ∧ W2.cell? ⟨W1.heap.size, 1, none⟩ = some (.int .i64 b) ∧ CallsIn Fence.wide (n - 1) Try.prog 88 #[.int .i64 form, .int .i64 b, .func (.yield l) #[] #[]] W2 (Handed J Jx pre (allF k d a ++ allF k d b) W)) ∨ (e = .returned (.bool false) ∧ ∃ q, q <+: allF k d a ++ allF k d b ∧ Jx (pre ++ q) W2)))
        (fun e W1 h => ⟨h.1, (ih (n - 1) a pre _ da (abides_alloc hA (abides_below hA hJ h.2) _) (by omega)).mono fun e W2 g => g.elim
          (fun ⟨he, hj, hkp⟩ => .inl ⟨he, (pair_cells (hkp.2 _ _ _ (pair_new W1 _ _))).2, (ih (n - 1) b (pre ++ allF k d a) W2 db hj (by rw [List.length_append]; omega)).mono fun e W3 g2 => g2.elim
            (fun ⟨he2, hj2, hkp2⟩ => .inl ⟨he2, by rw [← List.append_assoc]; exact hj2, (KeepP.of_below h.2).trans ((KeepP.alloc _ _).trans (hkp.trans hkp2))⟩)
            (fun ⟨he2, q, ⟨r, hr⟩, hx⟩ => .inr ⟨he2, allF k d a ++ q, ⟨r, by rw [List.append_assoc, hr]⟩, by rw [← List.append_assoc]; exact hx⟩)⟩)
          (fun ⟨he, q, hq, hx⟩ => .inr ⟨he, q, hq.trans (List.prefix_append _ _), hx⟩)⟩)
      have t1 : (a == p) = false := by simpa using hne
      have t2 : (b == -1) = false := by have := (bare_bd hbb).1; simp; omega
      clear PI hY hJ hk hp ih base hd da db ha hbb hne
      refine callsIn_of_wp Try.func88 rfl trivial ?_ rfl
      simp only [Try.ntmps88, List.size_toArray, List.length_cons, List.length_nil, Nat.reduceAdd, Nat.reduceSub, Array.replicate_succ, Array.replicate_zero, List.push_toArray, List.append_toArray, List.nil_append, List.cons_append]
      gi_wp2_with (first
        | (refine ⟨trivial, (fun h => (by cases h)), ?_⟩; gi_at_call 92; refine PJ.mono ?_; clear PJ; rintro e W1 ⟨rfl, hR⟩)
        | (refine ⟨trivial, (fun h => (by cases h)), ?_⟩; gi_at_call 88; refine hR.mono ?_; clear hR; rintro e W2 (⟨rfl, c2, hS⟩ | ⟨rfl, hx2⟩))
        | (refine ⟨trivial, (fun h => (by cases h)), ?_⟩; gi_at_call 88; refine hS.mono ?_; clear hS; rintro e W3 (⟨rfl, hJ3, hk3⟩ | ⟨rfl, hx3⟩)))
      · go_ret
        exact .inl ⟨rfl, hJ3, hk3⟩
      · go_ret
        exact .inr ⟨rfl, hx3⟩
      · refine ⟨trivial, ?_⟩
        gi_wp2
        go_ret
        exact .inr ⟨rfl, hx2⟩
end Go.Proofs.Ytnfdkcphmolkiaa
