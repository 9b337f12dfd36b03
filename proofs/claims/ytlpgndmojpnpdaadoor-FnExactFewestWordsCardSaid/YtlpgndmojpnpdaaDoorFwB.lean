/- slices.Backward over numbers: what it hands out, one behind the other. -/
import Derived.Test.YtlpgndmojpnpdaaDoorFwR
import Derived.RangeFuncNested
import Derived.RangeFuncBound
import Derived.RangeFuncCalls
import Derived.RangeFuncLeaves
import Derived.Shelf.Abstract
import Derived.Shelf.RegionOpen
import Derived.OwnWalkIn
import Derived.TacticsInMore
import Derived.LoopNIn
import Derived.LoopIn
namespace Go.Proofs.YtlpgndmojpnpdaaDoor
namespace Fw
open Go.RowKit Go.Shelf
set_option linter.unusedVariables false
attribute [local go_sem] Oper.semAt_some
/-- A place of a pass. -/
abbrev Pl (n : Nat) := { i : Nat // i < n }
def dnS {n : Nat} (hn : 0 < n) (m : Nat) : List (Pl n) := (List.range m).map fun j => ⟨n - 1 - j, by omega⟩
theorem dnS_len {n : Nat} (hn : 0 < n) (m : Nat) : (dnS hn m).length = m := by simp [dnS]
theorem dnS_succ {n : Nat} (hn : 0 < n) (m i : Nat) (hi : i < n) (e : n - 1 - m = i) : dnS hn (m + 1) = dnS hn m ++ [⟨i, hi⟩] := by
  subst e
  simp [dnS, List.range_succ]
def down (n m : Nat) : List Nat := (List.range m).map fun j => n - 1 - j
theorem dnS_val {n : Nat} (hn : 0 < n) (m : Nat) : (dnS hn m).map (·.1) = down n m := by simp [dnS, down, Function.comp_def]
/-- What a round keeps: the row that is gone through, and its box. -/
def Kq (N Bs : Nat) (W W' : World) : Prop := W'.heap[N]? = W.heap[N]? ∧ W'.heap[Bs]? = W.heap[Bs]?
theorem Kq.trans {N Bs : Nat} {A B C : World} (h : Kq N Bs A B) (k : Kq N Bs B C) : Kq N Bs A C := ⟨k.1.trans h.1, k.2.trans h.2⟩
theorem Kq.refl (N Bs : Nat) (W : World) : Kq N Bs W W := ⟨rfl, rfl⟩
theorem kq_b {N Bs : Nat} {w : World} (hN : N < w.heap.size) (hBs : Bs < w.heap.size) (W : World) (l : Nat) (o o' : Obj) (hl : w.heap.size ≤ l) (h : W.heap[l]? = some o) (hc : o.isCells = false) (hw : o.isWalk = false) : Kq N Bs W (W.putObj l o') :=
  ⟨World.putObj_heap_other (by omega), World.putObj_heap_other (by omega)⟩
theorem keeps_of {B : Nat} {W W' : World} (h : Below W.heap.size W W') : KeepsFrom B W W' := ⟨h.size, fun k o _ hk _ => (h.block k (Array.getElem?_eq_some_iff.1 hk).1).trans hk⟩
/-- A row of numbers. -/
def Us (w : World) (b off n : Nat) (gs : Nat → Int) : Prop := ∀ i, i < n → w.cell? ⟨b, off + i, none⟩ = some (.int .i64 (gs i))
def encP {n : Nat} (gs : Nat → Int) (x : Pl n) : Array Value := #[.int .i64 (x.1 : Int), .int .i64 (gs x.1)]
theorem backward_any (a : Option Addr) (n cap : Nat) (w : World) : Calls Tryd.prog 31 #[.slice a n cap] w fun e w' => e = .returned (.func (.func 37) #[] #[.pointer (some ⟨w.heap.size, 0, none⟩)]) ∧ w' = w.alloc (.cells #[.slice a n cap] 39) := by
  go_enter Tryd.func31, Tryd.ntmps31
  go_wp2
  go_ret
  exact ⟨rfl, rfl⟩
set_option maxRecDepth 100000 in
set_option maxHeartbeats 4000000 in
theorem back_in (n' l Bs b off n cap : Nat) (hn : 0 < n) (hnm : n ≤ 1048576) (gs : Nat → Int) (J Jx : List (Pl n) → World → Prop)
    (hY : ∀ pre x W, J pre W → pre.length < n → YieldAt Fence.wide (n' - 1) Tryd.prog l (encP gs x) W fun e W' => (e = .returned (.bool true) ∧ J (pre ++ [x]) W' ∧ Kq b Bs W W') ∨ (e = .returned (.bool false) ∧ Jx (pre ++ [x]) W'))
    (W : World) (hBs : W.cell? ⟨Bs, 0, none⟩ = some (.slice (some ⟨b, off, none⟩) n cap)) (hc : Us W b off n gs) (h0 : J [] W) :
    CallsIn Fence.wide n' Tryd.prog 37 #[.func (.yield l) #[] #[], .pointer (some ⟨Bs, 0, none⟩)] W fun e W' => (∃ v, e = .returned v) ∧
      ((∃ ys, ys.map (·.1) = down n n ∧ J ys W') ∨ (∃ pre, True ∧ Jx pre W')) := by
  refine callsIn_of_wp Tryd.func37 rfl trivial ?_ rfl
  simp only [Tryd.ntmps37, List.size_toArray, List.length_cons, List.length_nil, Nat.reduceAdd, Nat.reduceSub, Array.replicate_succ, Array.replicate_zero, List.push_toArray, List.append_toArray, List.nil_append, List.cons_append]
  gi_wp2
  gi_loopw [3] (fun iv wr => ∃ (z : Int) (m : Nat), m ≤ n ∧ iv = .int .i64 z ∧ Hid (z = (n : Int) - 1 - m) ∧ J (dnS hn m) wr ∧ Kq b Bs W wr) (fun iv _ => (intOf iv + 1).toNat)
  case atStart => exact ⟨_, 0, Nat.zero_le _, rfl, hide (by simp), h0, Kq.refl _ _ _⟩
  case round =>
    obtain ⟨z, m, hm, rfl, HZ, hJ, hK⟩ := hrel
    by_cases hlt : m < n
    · obtain ⟨i, hi⟩ : ∃ i : Nat, z = (i : Int) := ⟨n - 1 - m, by have := unhide HZ; omega⟩
      have hz := unhide HZ
      have hil : i < n := by omega
      have him : n - 1 - m = i := by omega
      have HS := hide (dnS_succ hn m i hil him)
      have HI := hide hi
      subst hi
      have c0 := (World.cell?_of_block (a := ⟨Bs, 0, none⟩) hK.2).trans hBs
      have e1 := (World.cell?_of_block (a := ⟨b, off + i, none⟩) hK.1).trans (hc i hil)
      have hge : (0 : Int) ≤ (i : Int) := by omega
      have hil' : (i : Int) < (n : Int) := by omega
      obtain ⟨fn, tmps, assign, body, hy, hR⟩ := hY _ ⟨i, hil⟩ wr hJ (by rw [dnS_len]; exact hlt)
      unfold encP at hy
      dsimp only at hy
      have HZ2 := hide hz
      clear hz him HZ
      gi_wp2
      refine ⟨(fun h => (by cases h)), ?_⟩
      refine hR.mono ?_
      rintro e W3 (⟨rfl, hJ3, hk3⟩ | ⟨rfl, hJx3⟩)
      · gi_wp2
        go_roundw
        case rel => exact ⟨_, m + 1, by omega, rfl, hide (by have := unhide HZ2; omega), by rw [unhide HS]; exact hJ3, hK.trans hk3⟩
        case measure => simp [intOf] <;> omega
      · gi_wp2
        refine bodyPost_ret (results_none rfl _ _ _) rfl ?_
        exact ⟨⟨_, rfl⟩, .inr ⟨_, trivial, hJx3⟩⟩
    · obtain rfl : m = n := by omega
      obtain rfl : z = -1 := by have := unhide HZ; omega
      gi_wp2
      go_end0
      exact ⟨⟨_, rfl⟩, .inl ⟨_, dnS_val hn m, hJ⟩⟩
theorem back_stops (n' Bs b off n cap : Nat) (hn : 0 < n) (hnm : n ≤ 1048576) (gs : Nat → Int) (w : World) (hb : b < w.heap.size) (hBl : Bs < w.heap.size)
    (hBs : w.cell? ⟨Bs, 0, none⟩ = some (.slice (some ⟨b, off, none⟩) n cap)) (hc : Us w b off n gs) :
    SeqStopsK Fence.wide n' Tryd.prog 37 #[.pointer (some ⟨Bs, 0, none⟩)] (encP (n := n) gs) (Kq b Bs) (fun (ys : List (Pl n)) => ys.map (·.1) = down n n) (fun _ => True) n w := fun l J Jx W hW _ _ hY h0 =>
  back_in n' l Bs b off n cap hn hnm gs J Jx hY W ((hW.cell (p := ⟨Bs, 0, none⟩) hBl).trans hBs) (fun i hi => (hW.cell (p := ⟨b, off + i, none⟩) hb).trans (hc i hi)) h0
end Fw
end Go.Proofs.YtlpgndmojpnpdaaDoor
