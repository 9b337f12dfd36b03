/- Several texts in one. -/
import Derived.Test.YtjcgchmncgihbaaDoorFwT
import Derived.OrdersIn
import Derived.RangeFuncNested
import Derived.RangeFuncBound
import Derived.RangeFuncCalls
import Derived.RangeFuncLeaves
import Derived.Shelf.Abstract
import Derived.Shelf.RegionOpen
import Derived.OwnWalkIn
import Derived.TacticsInMore
import Derived.LoopNIn
import Derived.LoopIn
import Derived.Test.YtjcgchmncgihbaaDoorMFP
/- A drawn region by one invariant over what has been done already: one step an operation, whatever the order. -/
namespace Go.Proofs.YtjcgchmncgihbaaDoor
namespace Fw
section
variable {F : Fence} {n : Nat} {P : Program} {ops : Array Oper} {Q : Exit → Act → World → Prop}
theorem cnt_set : ∀ (l : List Bool) (i : Nat), l[i]? = some false → (l.set i true).count false + 1 = l.count false
  | [], i, h => by simp at h
  | b :: l, 0, h => by
    simp at h
    subst h
    simp
  | b :: l, i + 1, h => by
    have ih := cnt_set l i (by simpa using h)
    rw [List.set_cons_succ, List.count_cons, List.count_cons]
    omega
/-- Each operation waits for earlier ones alone. -/
def backs (ops : Array Oper) : Bool := (List.range ops.size).all fun i => ((ops[i]?).map (·.after.all fun e => !Region.binds .any e || decide (e.on < i))).getD true
theorem ready_nil {l : Array Bool} (hb : backs ops = true) (hl : l.size = ops.size) (hr : Region.ready .any ops l = []) (i : Nat) : i < ops.size → l[i]? = some true := by
  induction i using Nat.strongRecOn with
  | _ i ih =>
    intro hi
    have hil : i < l.size := by omega
    cases e : l[i] with
    | true => rw [Array.getElem?_eq_getElem hil, e]
    | false =>
      have hm : i ∈ Region.ready .any ops l := by
        refine mem_ready.2 ⟨by simp [hil, e], ops[i], Array.getElem?_eq_getElem hi, fun d hd hbd => ?_⟩
        have h1 := List.all_eq_true.1 hb i (List.mem_range.2 hi)
        rw [Array.getElem?_eq_getElem hi] at h1
        simp only [Option.map_some, Option.getD_some] at h1
        rw [Array.all_eq_true_iff_forall_mem] at h1
        have h2 := h1 d hd
        rw [hbd] at h2
        have h3 : d.on < i := by simpa using h2
        have h4 := ih d.on h3 (by omega)
        rw [Array.getD_eq_getD_getElem?, h4]
        rfl
      rw [hr] at hm
      cases hm
theorem wpAnyIn_inv (Inv : Array Bool → Act → World → Prop) (hb : backs ops = true) (hz : ∀ l a w, Inv l a w → l.size = ops.size)
    (hs : ∀ i l a w, Inv l a w → i ∈ Region.ready .any ops l → wpOpIn F n P ops Q i (fun a' w' => Inv (l.setIfInBounds i true) a' w') a w)
    (he : ∀ a w, Inv (Array.replicate ops.size true) a w → Q .normal a w) :
    ∀ (fuel : Nat) (l : Array Bool) (a : Act) (w : World), l.toList.count false ≤ fuel → Inv l a w → wpAnyIn F n P .any ops Q fuel l a w := by
  have hend : ∀ l a w, Inv l a w → Region.ready .any ops l = [] → Q .normal a w := fun l a w h hr => by
    have h1 := ready_nil hb (hz l a w h) hr
    have e : l = Array.replicate ops.size true := by
      apply Array.ext
      · rw [hz l a w h]; simp
      · intro i h2 h3
        have := h1 i (by rw [← hz l a w h]; exact h2)
        rw [Array.getElem?_eq_getElem h2] at this
        rw [Option.some.inj this]
        simp
    rw [e] at h
    exact he a w h
  intro fuel
  induction fuel with
  | zero =>
    intro l a w hc h
    have hr : Region.ready .any ops l = [] := by
      cases e : Region.ready .any ops l with
      | nil => rfl
      | cons i t =>
        have hi := (mem_ready.1 (show i ∈ Region.ready .any ops l by rw [e]; simp)).1
        rcases Nat.lt_or_ge i l.size with h' | h'
        · have h0 : false ∈ l.toList := by
            rw [← Array.mem_def]
            simp [h'] at hi
            rw [← hi]
            exact Array.getElem_mem h'
          have := List.count_pos_iff.2 h0
          omega
        · rw [Array.getD_eq_getD_getElem?, Array.getElem?_eq_none h'] at hi
          cases hi
    exact ⟨hr, hend l a w h hr⟩
  | succ fuel ih =>
    intro l a w hc h
    refine ⟨fun hr => hend l a w h hr, fun i hi => wpOpIn_mono (fun a' w' h' => ih _ a' w' ?_ h') (hs i l a w h hi)⟩
    have h1 := (mem_ready.1 hi).1
    rcases Nat.lt_or_ge i l.size with h' | h'
    · have h2 : l.toList[i]? = some false := by
        simp [h'] at h1
        rw [Array.getElem?_toList, Array.getElem?_eq_getElem h', h1]
      have := cnt_set l.toList i h2
      rw [Array.toList_setIfInBounds]
      omega
    · rw [Array.getD_eq_getD_getElem?, Array.getElem?_eq_none h'] at h1
      cases h1
theorem region_inv {id : Nat} {a : Act} {w : World} (hm : P.follows .mixedOrders = true) (Inv : Array Bool → Act → World → Prop) (hb : backs ops = true) (hz : ∀ l a w, Inv l a w → l.size = ops.size)
    (h0 : Inv (Array.replicate ops.size false) a w.drew)
    (hs : ∀ i l a w, Inv l a w → i ∈ Region.ready .any ops l → wpOpIn F n P ops Q i (fun a' w' => Inv (l.setIfInBounds i true) a' w') a w)
    (he : ∀ a w, Inv (Array.replicate ops.size true) a w → Q .normal a w) : (Code.region id ops true).wpIn F n P Q a w :=
  wpIn_region_any hm (wpAnyIn_inv Inv hb hz hs he ops.size _ a _ (by simp) h0)
end
end Fw
end Go.Proofs.YtjcgchmncgihbaaDoor
/- slices.Backward over numbers: what it hands out, one behind the other. -/
namespace Go.Proofs.YtjcgchmncgihbaaDoor
namespace Fw
open Go.RowKit Go.Shelf
set_option linter.unusedVariables false
attribute [local go_sem] Oper.semAt_some
/-- A place of a pass. -/
abbrev Pl (n : Nat) := { i : Nat // i < n }
def dnS {n : Nat} (hn : 0 < n) (m : Nat) : List (Pl n) := (List.range m).map fun j => ⟨n - 1 - j, by omega⟩
theorem dnS_len {n : Nat} (hn : 0 < n) (m : Nat) : (dnS hn m).length = m := by simp [dnS]
theorem dnS_succ {n : Nat} (hn : 0 < n) (m i : Nat) (hi : i < n) (e : n - 1 - m = i) : dnS hn (m + 1) = dnS hn m ++ [⟨i, hi⟩] := by
  subst e
  simp [dnS, List.range_succ]
def down (n m : Nat) : List Nat := (List.range m).map fun j => n - 1 - j
theorem dnS_val {n : Nat} (hn : 0 < n) (m : Nat) : (dnS hn m).map (·.1) = down n m := by simp [dnS, down, Function.comp_def]
/-- What a round keeps: the row that is gone through, and its box. -/
def Kq (N Bs : Nat) (W W' : World) : Prop := W'.heap[N]? = W.heap[N]? ∧ W'.heap[Bs]? = W.heap[Bs]?
theorem Kq.trans {N Bs : Nat} {A B C : World} (h : Kq N Bs A B) (k : Kq N Bs B C) : Kq N Bs A C := ⟨k.1.trans h.1, k.2.trans h.2⟩
theorem Kq.refl (N Bs : Nat) (W : World) : Kq N Bs W W := ⟨rfl, rfl⟩
theorem kq_b {N Bs : Nat} {w : World} (hN : N < w.heap.size) (hBs : Bs < w.heap.size) (W : World) (l : Nat) (o o' : Obj) (hl : w.heap.size ≤ l) (h : W.heap[l]? = some o) (hc : o.isCells = false) (hw : o.isWalk = false) : Kq N Bs W (W.putObj l o') :=
  ⟨World.putObj_heap_other (by omega), World.putObj_heap_other (by omega)⟩
theorem keeps_of {B : Nat} {W W' : World} (h : Below W.heap.size W W') : KeepsFrom B W W' := ⟨h.size, fun k o _ hk _ => (h.block k (Array.getElem?_eq_some_iff.1 hk).1).trans hk⟩
/-- A row of numbers. -/
def Us (w : World) (b off n : Nat) (gs : Nat → Int) : Prop := ∀ i, i < n → w.cell? ⟨b, off + i, none⟩ = some (.int .i64 (gs i))
def encP {n : Nat} (gs : Nat → Int) (x : Pl n) : Array Value := #[.int .i64 (x.1 : Int), .int .i64 (gs x.1)]
theorem backward_any (a : Option Addr) (n cap : Nat) (w : World) : Calls Tryd.prog 36 #[.slice a n cap] w fun e w' => e = .returned (.func (.func 42) #[] #[.pointer (some ⟨w.heap.size, 0, none⟩)]) ∧ w' = w.alloc (.cells #[.slice a n cap] 50) := by
  go_enter Tryd.func36, Tryd.ntmps36
  go_wp2
  go_ret
  exact ⟨rfl, rfl⟩
set_option maxRecDepth 100000 in
set_option maxHeartbeats 4000000 in
theorem back_in (n' l Bs b off n cap : Nat) (hn : 0 < n) (hnm : n ≤ 1048576) (gs : Nat → Int) (J Jx : List (Pl n) → World → Prop)
    (hY : ∀ pre x W, J pre W → pre.length < n → YieldAt Fence.wide (n' - 1) Tryd.prog l (encP gs x) W fun e W' => (e = .returned (.bool true) ∧ J (pre ++ [x]) W' ∧ Kq b Bs W W') ∨ (e = .returned (.bool false) ∧ Jx (pre ++ [x]) W'))
    (W : World) (hBs : W.cell? ⟨Bs, 0, none⟩ = some (.slice (some ⟨b, off, none⟩) n cap)) (hc : Us W b off n gs) (h0 : J [] W) :
    CallsIn Fence.wide n' Tryd.prog 42 #[.func (.yield l) #[] #[], .pointer (some ⟨Bs, 0, none⟩)] W fun e W' => (∃ v, e = .returned v) ∧
      ((∃ ys, ys.map (·.1) = down n n ∧ J ys W') ∨ (∃ pre, True ∧ Jx pre W')) := by
  refine callsIn_of_wp Tryd.func42 rfl trivial ?_ rfl
  simp only [Tryd.ntmps42, List.size_toArray, List.length_cons, List.length_nil, Nat.reduceAdd, Nat.reduceSub, Array.replicate_succ, Array.replicate_zero, List.push_toArray, List.append_toArray, List.nil_append, List.cons_append]
  gi_wp2
  gi_loopw [3] (fun iv wr => ∃ (z : Int) (m : Nat), m ≤ n ∧ iv = .int .i64 z ∧ Hid (z = (n : Int) - 1 - m) ∧ J (dnS hn m) wr ∧ Kq b Bs W wr) (fun iv _ => (intOf iv + 1).toNat)
  case atStart => exact ⟨_, 0, Nat.zero_le _, rfl, hide (by simp), h0, Kq.refl _ _ _⟩
  case round =>
    obtain ⟨z, m, hm, rfl, HZ, hJ, hK⟩ := hrel
    by_cases hlt : m < n
    · obtain ⟨i, hi⟩ : ∃ i : Nat, z = (i : Int) := ⟨n - 1 - m, by have := unhide HZ; omega⟩
      have hz := unhide HZ
      have hil : i < n := by omega
      have him : n - 1 - m = i := by omega
      have HS := hide (dnS_succ hn m i hil him)
      have HI := hide hi
      subst hi
      have c0 := (World.cell?_of_block (a := ⟨Bs, 0, none⟩) hK.2).trans hBs
      have e1 := (World.cell?_of_block (a := ⟨b, off + i, none⟩) hK.1).trans (hc i hil)
      have hge : (0 : Int) ≤ (i : Int) := by omega
      have hil' : (i : Int) < (n : Int) := by omega
      obtain ⟨fn, tmps, assign, body, hy, hR⟩ := hY _ ⟨i, hil⟩ wr hJ (by rw [dnS_len]; exact hlt)
      unfold encP at hy
      dsimp only at hy
      have HZ2 := hide hz
      clear hz him HZ
      gi_wp2
      refine ⟨(fun h => (by cases h)), ?_⟩
      refine hR.mono ?_
      rintro e W3 (⟨rfl, hJ3, hk3⟩ | ⟨rfl, hJx3⟩)
      · gi_wp2
        go_roundw
        case rel => exact ⟨_, m + 1, by omega, rfl, hide (by have := unhide HZ2; omega), by rw [unhide HS]; exact hJ3, hK.trans hk3⟩
        case measure => simp [intOf] <;> omega
      · gi_wp2
        refine bodyPost_ret (results_none rfl _ _ _) rfl ?_
        exact ⟨⟨_, rfl⟩, .inr ⟨_, trivial, hJx3⟩⟩
    · obtain rfl : m = n := by omega
      obtain rfl : z = -1 := by have := unhide HZ; omega
      gi_wp2
      go_end0
      exact ⟨⟨_, rfl⟩, .inl ⟨_, dnS_val hn m, hJ⟩⟩
theorem back_stops (n' Bs b off n cap : Nat) (hn : 0 < n) (hnm : n ≤ 1048576) (gs : Nat → Int) (w : World) (hb : b < w.heap.size) (hBl : Bs < w.heap.size)
    (hBs : w.cell? ⟨Bs, 0, none⟩ = some (.slice (some ⟨b, off, none⟩) n cap)) (hc : Us w b off n gs) :
    SeqStopsK Fence.wide n' Tryd.prog 42 #[.pointer (some ⟨Bs, 0, none⟩)] (encP (n := n) gs) (Kq b Bs) (fun (ys : List (Pl n)) => ys.map (·.1) = down n n) (fun _ => True) n w := fun l J Jx W hW _ _ hY h0 =>
  back_in n' l Bs b off n cap hn hnm gs J Jx hY W ((hW.cell (p := ⟨Bs, 0, none⟩) hBl).trans hBs) (fun i hi => (hW.cell (p := ⟨b, off + i, none⟩) hb).trans (hc i hi)) h0
end Fw
end Go.Proofs.YtjcgchmncgihbaaDoor
/- What one round of the program's table does, and what all of them come to: in plain numbers. -/
namespace Go.Proofs.YtjcgchmncgihbaaDoor
namespace Fw
open Go.RowKit
set_option linter.unusedVariables false
def wr64 (x : Int) : Int := IntKind.i64.wrap x
theorem nthS_set (L : List Int) (i : Nat) (x : Int) (j : Nat) : nth (L.set i x) j = if j = i ∧ i < L.length then x else nth L j := by
  unfold nth
  rw [List.getD_eq_getElem?_getD, List.getD_eq_getElem?_getD, List.getElem?_set]
  by_cases h : i = j
  · subst h
    by_cases h2 : i < L.length
    · simp [h2]
    · simp [h2]
  · rw [if_neg h, if_neg (fun e => h e.1.symm)]
/-- One end of a word more. -/
def stI (C : List Int) (a : Int × Int) (e : Int) : Int × Int := if wr64 (nth C e.toNat + 2) ≤ a.1 then (wr64 (nth C e.toNat + 2), e) else a
def bsI (C : List Int) (z : Nat) (L : List Int) : Int × Int := L.foldl (stI C) (wr64 (nth C z + 3), (z : Int))
/-- One round. -/
def tr1 (s : ByteArray) (W : List ByteArray) (S : List Int × List Int × Nat) (i : Nat) : List Int × List Int × Nat :=
  (S.1.set (pl s i) (bsI S.1 S.2.2 (eL s W (pl s i) 60)).1, S.2.1.set (pl s i) (bsI S.1 S.2.2 (eL s W (pl s i) 60)).2, pl s i)
def rn (s : ByteArray) (W : List ByteArray) (is : List Nat) : List Int × List Int × Nat := is.foldl (tr1 s W) (List.replicate (s.size + 1) 0, List.replicate s.size 0, s.size)
theorem rn_snoc (s : ByteArray) (W : List ByteArray) (is : List Nat) (i : Nat) : rn s W (is ++ [i]) = tr1 s W (rn s W is) i := by simp [rn]
theorem rn_ok (s : ByteArray) (W : List ByteArray) (is : List Nat) : (rn s W is).1.length = s.size + 1 ∧ (rn s W is).2.1.length = s.size ∧ (rn s W is).2.2 ≤ s.size := by
  have key : ∀ (is : List Nat) (S : List Int × List Int × Nat), S.1.length = s.size + 1 ∧ S.2.1.length = s.size ∧ S.2.2 ≤ s.size → (is.foldl (tr1 s W) S).1.length = s.size + 1 ∧ (is.foldl (tr1 s W) S).2.1.length = s.size ∧ (is.foldl (tr1 s W) S).2.2 ≤ s.size := by
    intro is
    induction is with
    | nil => intro S h; exact h
    | cons i t ih =>
      intro S h
      refine ih _ ⟨?_, ?_, pl_le s i⟩
      · show (S.1.set _ _).length = _; rw [List.length_set]; exact h.1
      · show (S.2.1.set _ _).length = _; rw [List.length_set]; exact h.2.1
  exact key is _ ⟨by simp, by simp, Nat.le_refl _⟩
/-- Ends of words are within the text, behind the place. -/
theorem eL_in {s : ByteArray} {W : List ByteArray} {a : Nat} {e : Int} (h : e ∈ eL s W a 60) : ∃ z : Nat, e = (z : Int) ∧ a < z ∧ z ≤ s.size := by
  unfold eL at h
  obtain ⟨k, hk, rfl⟩ := List.mem_map.1 h
  have h1 := ek_mem hk
  have h2 := h1.2.2
  unfold qq at h2
  rw [Bool.and_eq_true, decide_eq_true_eq] at h2
  exact ⟨_, rfl, by omega, h2.1⟩
/-- The first t ends. -/
theorem bsI_take (C : List Int) (z : Nat) {L : List Int} {t : Nat} (h : t < L.length) : bsI C z (L.take (t + 1)) = stI C (bsI C z (L.take t)) (nth L t) := by
  unfold bsI
  rw [List.take_add_one, List.getElem?_eq_getElem h, List.foldl_append]
  have : nth L t = L[t] := by unfold nth; rw [List.getD_eq_getElem?_getD, List.getElem?_eq_getElem h]; rfl
  rw [this]
  rfl
/-- The program's table is right from place i on. -/
structure Gp (s : ByteArray) (q : Nat → Nat → Bool) (i : Nat) (S : List Int × List Int × Nat) : Prop where
  cs : ∀ j, i ≤ j → j ≤ (pts s).length → nth S.1 (pl s j) = ((be q (pts s).length j).1 : Int)
  es : ∀ j, i ≤ j → j < (pts s).length → nth S.2.1 (pl s j) = ((pl s (j + (be q (pts s).length j).2) : Nat) : Int)
  nx : S.2.2 = pl s i
theorem wr_nat (k : Nat) (h : k ≤ 9223372036854775807) : wr64 (k : Int) = (k : Int) := wrapN k h
/-- A fold over ends is the fold over lengths. -/
theorem fold_same {s : ByteArray} {W : List ByteArray} {q : Nat → Nat → Bool} {C : List Int} {i : Nat} (hs : s.size ≤ 65536) (hC : ∀ j, i < j → j ≤ (pts s).length → nth C (pl s j) = ((be q (pts s).length j).1 : Int)) :
    ∀ (L : List Nat) (a : Nat × Nat), (∀ k ∈ L, 1 ≤ k ∧ i + k ≤ (pts s).length ∧ pl s (i + k) = pl s i + 3 * k) →
      (L.map fun j => ((pl s i + 3 * j : Nat) : Int)).foldl (stI C) ((a.1 : Int), ((pl s (i + a.2) : Nat) : Int)) =
        (((L.foldl (st (fun k => (be q (pts s).length (i + k)).1)) a).1 : Int), ((pl s (i + (L.foldl (st (fun k => (be q (pts s).length (i + k)).1)) a).2) : Nat) : Int))
  | [], a, _ => rfl
  | k :: L, a, h => by
    have hk := h k (by simp)
    have ih := fun b => fold_same (W := W) hs hC L b (fun j hj => h j (by simp [hj]))
    rw [List.map_cons, List.foldl_cons, List.foldl_cons]
    have hn := Nat.le_trans (pts_le s) hs
    have hb := be_cost q (pts s).length ((pts s).length - (i + k)) (i + k) rfl hk.2.1
    have e1 : nth C (((pl s i + 3 * k : Nat) : Int)).toNat = ((be q (pts s).length (i + k)).1 : Int) := by
      rw [Int.toNat_natCast, ← hk.2.2]
      exact hC (i + k) (by omega) hk.2.1
    have e2 : wr64 (((be q (pts s).length (i + k)).1 : Int) + 2) = (((be q (pts s).length (i + k)).1 + 2 : Nat) : Int) := wr_nat ((be q (pts s).length (i + k)).1 + 2) (by omega)
    have e3 : stI C ((a.1 : Int), ((pl s (i + a.2) : Nat) : Int)) ((pl s i + 3 * k : Nat) : Int) = (((st (fun k => (be q (pts s).length (i + k)).1) a k).1 : Int), ((pl s (i + (st (fun k => (be q (pts s).length (i + k)).1) a k).2) : Nat) : Int)) := by
      unfold stI st
      rw [e1, e2]
      by_cases hc : (be q (pts s).length (i + k)).1 + 2 ≤ a.1
      · rw [if_pos (by omega), if_pos hc]
        simp only
        rw [hk.2.2]
      · rw [if_neg (by omega), if_neg hc]
    rw [e3]
    exact ih _
theorem Gp.step {s : ByteArray} {W : List ByteArray} (hW : Wr W) (hs : s.size ≤ 65536) {i : Nat} (hi : i < (pts s).length) {S : List Int × List Int × Nat} (hl : S.1.length = s.size + 1 ∧ S.2.1.length = s.size) (h : Gp s (iw s W) (i + 1) S) : Gp s (iw s W) i (tr1 s W S i) := by
  have hn := Nat.le_trans (pts_le s) hs
  have hb := be_cost (iw s W) (pts s).length ((pts s).length - (i + 1)) (i + 1) rfl hi
  have hp := pl_in hi
  have hst : wr64 (nth S.1 S.2.2 + 3) = (((be (iw s W) (pts s).length (i + 1)).1 + 3 : Nat) : Int) := by
    rw [h.nx, h.cs (i + 1) (Nat.le_refl _) hi]
    exact wr_nat ((be (iw s W) (pts s).length (i + 1)).1 + 3) (by omega)
  have hf := fold_same (W := W) (q := iw s W) (C := S.1) (i := i) hs (fun j h1 h2 => h.cs j h1 h2) (ek (qq s W (pl s i)) 60) ((be (iw s W) (pts s).length (i + 1)).1 + 3, 1) (fun k hk => by
    have h1 := ek_mem hk
    have h2 := word_at hW hi h1.1
    have h3 := (h2.1.1 h1.2.2).1
    exact ⟨h1.1, by omega, h2.2 h1.2.2⟩)
  rw [← best_at hW hi] at hf
  have hbs : bsI S.1 S.2.2 (eL s W (pl s i) 60) = (((be (iw s W) (pts s).length i).1 : Int), ((pl s (i + (be (iw s W) (pts s).length i).2) : Nat) : Int)) := by
    unfold bsI eL
    rw [hst, h.nx]
    exact hf
  refine ⟨fun j h1 h2 => ?_, fun j h1 h2 => ?_, rfl⟩
  · show nth (S.1.set _ _) _ = _
    rw [hbs, nthS_set]
    by_cases e : j = i
    · subst e
      rw [if_pos ⟨rfl, by omega⟩]
    · have := pl_lt (s := s) (show i < j by omega) h2
      rw [if_neg (fun x => by omega)]
      exact h.cs j (by omega) h2
  · show nth (S.2.1.set _ _) _ = _
    rw [hbs, nthS_set]
    by_cases e : j = i
    · subst e
      rw [if_pos ⟨rfl, by omega⟩]
    · have := pl_lt (s := s) (show i < j by omega) (by omega)
      rw [if_neg (fun x => by omega)]
      exact h.es j (by omega) h2
theorem rn_good {s : ByteArray} {W : List ByteArray} (hW : Wr W) (hs : s.size ≤ 65536) : ∀ m, m ≤ (pts s).length → Gp s (iw s W) ((pts s).length - m) (rn s W ((List.range m).map fun j => (pts s).length - 1 - j))
  | 0, _ => by
    have hz : ∀ k j, nth (List.replicate k (0 : Int)) j = 0 := fun k j => by
      unfold nth
      rw [List.getD_eq_getElem?_getD, List.getElem?_replicate]
      split <;> rfl
    refine ⟨fun j h1 h2 => ?_, fun j h1 h2 => absurd h2 (by omega), ?_⟩
    · obtain rfl : j = (pts s).length := by omega
      rw [be_end]
      exact hz _ _
    · rw [Nat.sub_zero, pl_end]
      rfl
  | m + 1, h => by
    have ih := rn_good hW hs m (by omega)
    rw [List.range_succ, List.map_append, List.map_cons, List.map_nil, rn_snoc]
    have hl := rn_ok s W ((List.range m).map fun j => (pts s).length - 1 - j)
    have := Gp.step hW hs (i := (pts s).length - 1 - m) (by omega) ⟨hl.1, hl.2.1⟩ (by rw [show (pts s).length - 1 - m + 1 = (pts s).length - m by omega]; exact ih)
    rw [show (pts s).length - (m + 1) = (pts s).length - 1 - m by omega]
    exact this
end Fw
end Go.Proofs.YtjcgchmncgihbaaDoor
