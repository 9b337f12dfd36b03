/- slices.Backward over passes: what it hands out, one behind the other. -/
import Derived.Test.YtaebmajaefpcfaaDoorPasW
import Derived.RangeFuncNested
import Derived.RangeFuncBound
import Derived.RangeFuncCalls
import Derived.RangeFuncLeaves
import Derived.Shelf.Abstract
import Derived.Shelf.RegionOpen
import Derived.OwnWalkIn
import Derived.TacticsInMore
import Derived.LoopNIn
import Derived.LoopIn
namespace Go.Proofs.YtaebmajaefpcfaaDoor.Pas
open Go.RowKit Go.Shelf
set_option linter.unusedVariables false
attribute [local go_sem] Oper.semAt_some
/-- A place of a pass. -/
abbrev Pl (n : Nat) := { i : Nat // i < n }
def dnS {n : Nat} (hn : 0 < n) (m : Nat) : List (Pl n) := (List.range m).map fun j => ⟨n - 1 - j, by omega⟩
theorem dnS_len {n : Nat} (hn : 0 < n) (m : Nat) : (dnS hn m).length = m := by simp [dnS]
theorem dnS_succ {n : Nat} (hn : 0 < n) (m i : Nat) (hi : i < n) (e : n - 1 - m = i) : dnS hn (m + 1) = dnS hn m ++ [⟨i, hi⟩] := by
  subst e
  simp [dnS, List.range_succ]
theorem dnS_val {n : Nat} (hn : 0 < n) (m : Nat) : (dnS hn m).map (·.1) = down n m := by simp [dnS, down, Function.comp_def]
/-- What a round keeps: all that was there at first, and the box of the passes. -/
def Kq (N Bs : Nat) (W W' : World) : Prop := Below N W W' ∧ W'.heap[Bs]? = W.heap[Bs]?
theorem Kq.trans {N Bs : Nat} {A B C : World} (h : Kq N Bs A B) (k : Kq N Bs B C) : Kq N Bs A C := ⟨h.1.trans k.1, k.2.trans h.2⟩
theorem Kq.refl (N Bs : Nat) (W : World) : Kq N Bs W W := ⟨Below.refl _ _, rfl⟩
/-- The passes, their rows named. -/
def Us (w : World) (b off n : Nat) (us : Nat → Value) (gs : Nat → Int) : Prop := ∀ i, i < n → w.cell? ⟨b, off + i * 2, none⟩ = some (us i) ∧ w.cell? ⟨b, off + i * 2 + 1, none⟩ = some (.int .i64 (gs i))
def encP {n : Nat} (us : Nat → Value) (gs : Nat → Int) (x : Pl n) : Array Value := #[.int .i64 (x.1 : Int), .agg #[us x.1, .int .i64 (gs x.1)]]
theorem backward_any (a : Option Addr) (n cap : Nat) (w : World) : Calls Tryd.prog 34 #[.slice a n cap] w fun e w' => e = .returned (.func (.func 43) #[] #[.pointer (some ⟨w.heap.size, 0, none⟩)]) ∧ w' = w.alloc (.cells #[.slice a n cap] 25) := by
  go_enter Tryd.func34, Tryd.ntmps34
  go_wp2
  go_ret
  exact ⟨rfl, rfl⟩
set_option maxRecDepth 100000 in
set_option maxHeartbeats 4000000 in
theorem back_in (n' l Bs N b off n cap : Nat) (hn : 0 < n) (hnm : n ≤ 1048576) (hb : b < N) (us : Nat → Value) (gs : Nat → Int) (hus : ∀ i, i < n → ∃ a k c, us i = .slice a k c) (J Jx : List (Pl n) → World → Prop)
    (hY : ∀ pre x W, J pre W → pre.length < n → YieldAt Fence.wide (n' - 1) Tryd.prog l (encP us gs x) W fun e W' => (e = .returned (.bool true) ∧ J (pre ++ [x]) W' ∧ Kq N Bs W W') ∨ (e = .returned (.bool false) ∧ Jx (pre ++ [x]) W'))
    (W : World) (hBs : W.cell? ⟨Bs, 0, none⟩ = some (.slice (some ⟨b, off, none⟩) n cap)) (hc : Us W b off n us gs) (h0 : J [] W) :
    CallsIn Fence.wide n' Tryd.prog 43 #[.func (.yield l) #[] #[], .pointer (some ⟨Bs, 0, none⟩)] W fun e W' => (∃ v, e = .returned v) ∧
      ((∃ ys, ys.map (·.1) = down n n ∧ J ys W') ∨ (∃ pre, True ∧ Jx pre W')) := by
  refine callsIn_of_wp Tryd.func43 rfl trivial ?_ rfl
  simp only [Tryd.ntmps43, List.size_toArray, List.length_cons, List.length_nil, Nat.reduceAdd, Nat.reduceSub, Array.replicate_succ, Array.replicate_zero, List.push_toArray, List.append_toArray, List.nil_append, List.cons_append]
  gi_wp2
  gi_loopw [3] (fun iv wr => ∃ (z : Int) (m : Nat), m ≤ n ∧ iv = .int .i64 z ∧ Hid (z = (n : Int) - 1 - m) ∧ J (dnS hn m) wr ∧ Kq N Bs W wr) (fun iv _ => (intOf iv + 1).toNat)
  case atStart => exact ⟨_, 0, Nat.zero_le _, rfl, hide (by simp), h0, Kq.refl _ _ _⟩
  case round =>
    obtain ⟨z, m, hm, rfl, HZ, hJ, hK⟩ := hrel
    by_cases hlt : m < n
    · obtain ⟨i, hi⟩ : ∃ i : Nat, z = (i : Int) := ⟨n - 1 - m, by have := unhide HZ; omega⟩
      have hz := unhide HZ
      have hil : i < n := by omega
      have him : n - 1 - m = i := by omega
      have HS := hide (dnS_succ hn m i hil him)
      have HI := hide hi
      subst hi
      have c0 := (World.cell?_of_block (a := ⟨Bs, 0, none⟩) hK.2).trans hBs
      obtain ⟨d1, d2⟩ := hc i hil
      have e1 := (hK.1.cell (p := ⟨b, off + i * 2, none⟩) hb).trans d1
      have e2 := (hK.1.cell (p := ⟨b, off + i * 2 + 1, none⟩) hb).trans d2
      have hge : (0 : Int) ≤ (i : Int) := by omega
      have hil' : (i : Int) < (n : Int) := by omega
      obtain ⟨fn, tmps, assign, body, hy, hR⟩ := hY _ ⟨i, hil⟩ wr hJ (by rw [dnS_len]; exact hlt)
      obtain ⟨ua, uk, uc, hu⟩ := hus i hil
      unfold encP at hy
      dsimp only at hy
      rw [hu] at hy e1
      have HZ2 := hide hz
      clear hz him d1 d2 HZ
      gi_wp2
      refine ⟨(fun h => (by cases h)), ?_⟩
      refine hR.mono ?_
      rintro e W3 (⟨rfl, hJ3, hk3⟩ | ⟨rfl, hJx3⟩)
      · gi_wp2
        go_roundw
        case rel => exact ⟨_, m + 1, by omega, rfl, hide (by have := unhide HZ2; omega), by rw [unhide HS]; exact hJ3, hK.trans hk3⟩
        case measure => simp [intOf] <;> omega
      · gi_wp2
        refine bodyPost_ret (results_none rfl _ _ _) rfl ?_
        exact ⟨⟨_, rfl⟩, .inr ⟨_, trivial, hJx3⟩⟩
    · obtain rfl : m = n := by omega
      obtain rfl : z = -1 := by have := unhide HZ; omega
      gi_wp2
      go_end0
      exact ⟨⟨_, rfl⟩, .inl ⟨_, dnS_val hn m, hJ⟩⟩
set_option maxRecDepth 100000 in
theorem back_nil (n' l Bs cap : Nat) (a : Option Addr) (J : List (Pl 0) → World → Prop) (W : World) (hBs : W.cell? ⟨Bs, 0, none⟩ = some (.slice a 0 cap)) (h0 : J [] W) :
    CallsIn Fence.wide n' Tryd.prog 43 #[.func (.yield l) #[] #[], .pointer (some ⟨Bs, 0, none⟩)] W fun e W' => (∃ v, e = .returned v) ∧ J [] W' := by
  refine callsIn_of_wp Tryd.func43 rfl trivial ?_ rfl
  simp only [Tryd.ntmps43, List.size_toArray, List.length_cons, List.length_nil, Nat.reduceAdd, Nat.reduceSub, Array.replicate_succ, Array.replicate_zero, List.push_toArray, List.append_toArray, List.nil_append, List.cons_append]
  gi_wp2
  gi_loopw [3] (fun iv wr => iv = .int .i64 (-1) ∧ J [] wr) (fun _ _ => 0)
  case atStart => exact ⟨rfl, h0⟩
  case round =>
    obtain ⟨rfl, hJ⟩ := hrel
    gi_wp2
    go_end0
    exact ⟨⟨_, rfl⟩, hJ⟩
theorem back_stops (n' Bs N n cap : Nat) (a : Option Addr) (hnm : n ≤ 1048576) (us : Nat → Value) (gs : Nat → Int) (hus : ∀ i, i < n → ∃ a k c, us i = .slice a k c) (w : World) (hN : N ≤ w.heap.size) (hBl : Bs < w.heap.size)
    (hBs : w.cell? ⟨Bs, 0, none⟩ = some (.slice a n cap)) (hc : n = 0 ∨ ∃ b off, a = some ⟨b, off, none⟩ ∧ b < N ∧ Us w b off n us gs) :
    SeqStopsK Fence.wide n' Tryd.prog 43 #[.pointer (some ⟨Bs, 0, none⟩)] (encP (n := n) us gs) (Kq N Bs) (fun (ys : List (Pl n)) => ys.map (·.1) = down n n) (fun _ => True) n w := fun l J Jx W hW _ _ hY h0 => by
  by_cases hn : 0 < n
  · rcases hc with h | ⟨b, off, rfl, hb, hc⟩
    · omega
    · exact back_in n' l Bs N b off n cap hn hnm hb us gs hus J Jx hY W ((hW.cell (p := ⟨Bs, 0, none⟩) hBl).trans hBs) (fun i hi => ⟨(hW.cell (p := ⟨b, off + i * 2, none⟩) (by show b < w.heap.size; omega)).trans (hc i hi).1, (hW.cell (p := ⟨b, off + i * 2 + 1, none⟩) (by show b < w.heap.size; omega)).trans (hc i hi).2⟩) h0
  · obtain rfl : n = 0 := by omega
    refine (back_nil n' l Bs cap a J W ((hW.cell (p := ⟨Bs, 0, none⟩) hBl).trans hBs) h0).mono ?_
    rintro e W' ⟨he, hj⟩
    exact ⟨he, .inl ⟨[], rfl, hj⟩⟩
/-- The rows of passes, named. -/
theorem us_of {B : Nat} {w : World} {v : Value} {P : List Pa} (h : PaAt B w v P) : ∃ a cap us, v = .slice a P.length cap ∧ (∀ i, i < P.length → RuAt B w (us i) (gp P i).1) ∧ (P.length = 0 ∨ ∃ b off, a = some ⟨b, off, none⟩ ∧ b < w.heap.size ∧ Us w b off P.length us (fun i => (gp P i).2)) := by
  obtain ⟨a, cap, rfl, h⟩ := h
  rcases h with rfl | ⟨b, off, rfl, _, hb, hc⟩
  · exact ⟨a, cap, fun _ => .slice none 0 0, rfl, fun i hi => by simp at hi, .inl rfl⟩
  · have hh : ∀ i, ∃ u, i < P.length → (w.cell? ⟨b, off + i * 2, none⟩ = some u ∧ RuAt B w u (gp P i).1 ∧ w.cell? ⟨b, off + i * 2 + 1, none⟩ = some (.int .i64 (gp P i).2)) := fun i => by
      by_cases hi : i < P.length
      · obtain ⟨u, hu⟩ := hc i hi
        exact ⟨u, fun _ => hu⟩
      · exact ⟨.slice none 0 0, fun h => absurd h hi⟩
    obtain ⟨us, hus⟩ := Classical.axiomOfChoice hh
    exact ⟨_, _, us, rfl, fun i hi => (hus i hi).2.1, .inr ⟨b, off, rfl, hb, fun i hi => ⟨(hus i hi).1, (hus i hi).2.2⟩⟩⟩
end Go.Proofs.YtaebmajaefpcfaaDoor.Pas
