/- Several texts in one. -/
import Derived.Test.YtamigjljgepfiaaGreatDoorMA
import Derived.RegionTactic
import Derived.Deep.Cut
import Derived.ProofKit
import Derived.OpenShut
import Derived.ShutString
import Derived.ChangeOld
import Derived.Deep.Slices
import Derived.RangeFuncNested
import Derived.RangeFuncBound
import Derived.RangeFuncCalls
import Derived.RangeFuncLeaves
import Derived.Shelf.Abstract
import Derived.Shelf.RegionOpen
import Derived.WalkKit
import Derived.OwnWalkIn
import Derived.TacticsInMore
import Derived.LoopNIn
import Derived.LoopIn
import Derived.Maps.AppendAt
import Derived.Test.YtamigjljgepfiaaGreatDoorMB
/- The parts of a point, as the specification tells them. -/
namespace Go.Proofs.YtamigjljgepfiaaGreatDoor
open Go.RowKit
theorem row0 (w : World) {l : List Int} (h : l = []) : (w.alloc (.cells #[] 2)).ownsRow w.heap.size 2 1 (.slice (some ⟨w.heap.size, 0, none⟩) 0 0) l.length (l.map (Value.int .i64)) := by
  subst h
  exact World.ownsRow_lit w #[] 0 (Nat.le_refl _) (by unfold maxLen; omega) rfl
theorem row1 (w : World) {l : List Int} {a : Int} (h : l = [a]) : (w.alloc (.cells #[.int .i64 a] 2)).ownsRow w.heap.size 2 1 (.slice (some ⟨w.heap.size, 0, none⟩) 1 1) l.length (l.map (Value.int .i64)) := by
  subst h
  exact World.ownsRow_lit w #[.int .i64 a] 1 (Nat.le_refl _) (by unfold maxLen; omega) rfl
theorem row2 (w : World) {l : List Int} {a b : Int} (h : l = [a, b]) : (w.alloc (.cells #[.int .i64 a, .int .i64 b] 2)).ownsRow w.heap.size 2 1 (.slice (some ⟨w.heap.size, 0, none⟩) 2 2) l.length (l.map (Value.int .i64)) := by
  subst h
  exact World.ownsRow_lit w #[.int .i64 a, .int .i64 b] 2 (Nat.le_refl _) (by unfold maxLen; omega) rfl
theorem letterS (i : Int) (w : World) (h : 0 ≤ i ∧ i ≤ 51) : Calls Tryz.prog 72 #[.int .i64 i] w fun e w' => e = .returned (.int .i64 (letterZ i)) ∧ w' = w := by
  by_cases hi : i < 26
  · have e : letterZ i = 65 + i := if_pos hi
    rw [e]
    go_enter Tryz.func72, Tryz.ntmps72
    go_wp2
    go_ret
    exact ⟨rfl, rfl⟩
  · have e : letterZ i = 97 + i - 26 := if_neg hi
    rw [e]
    go_enter Tryz.func72, Tryz.ntmps72
    go_wp2
    go_ret
    exact ⟨rfl, rfl⟩
/-- A row of numbers, new. -/
def NewRow (w w' : World) (e : Ending) (l : List Int) : Prop := ∃ v, e = .returned v ∧ w'.ownsRow w.heap.size 2 1 v l.length (l.map (Value.int .i64)) ∧ Below w.heap.size w w'
set_option maxHeartbeats 2000000 in
set_option maxRecDepth 100000 in
theorem wideS (p : Int) (w : World) (hb : 0 ≤ p ∧ p ≤ 1114111) : Calls Tryz.prog 73 #[.int .i64 p] w fun e w' => NewRow w w' e (wideZ p) := by
  by_cases c1 : 9984 ≤ p ∧ p ≤ 10009
  · have HP : Hid (wideZ p = [p - 9984 + 65]) := hide (by unfold wideZ; rw [if_pos c1])
    go_enter Tryz.func73, Tryz.ntmps73
    go_wp2
    go_ret
    exact ⟨_, rfl, row1 w (unhide HP), one_below _ _⟩
  by_cases c2 : 10016 ≤ p ∧ p ≤ 10025
  · have HP : Hid (wideZ p = [p - 10016 + 48]) := hide (by unfold wideZ; rw [if_neg c1, if_pos c2])
    have n1 : ¬ p ≤ 10009 := by omega
    go_enter Tryz.func73, Tryz.ntmps73
    go_wp2
    go_ret
    exact ⟨_, rfl, row1 w (unhide HP), one_below _ _⟩
  by_cases d1 : p = 8064
  · subst d1
    go_enter Tryz.func73, Tryz.ntmps73
    go_wp2
    go_ret
    exact ⟨_, rfl, row1 w (by decide), one_below _ _⟩
  by_cases d2 : p = 160
  · subst d2
    go_enter Tryz.func73, Tryz.ntmps73
    go_wp2
    go_ret
    exact ⟨_, rfl, row1 w (by decide), one_below _ _⟩
  by_cases d3 : p = 10032
  · subst d3
    go_enter Tryz.func73, Tryz.ntmps73
    go_upto_region 9 with fail
    go_region
    all_goals
      go_wp2
      go_ret
      exact ⟨_, rfl, row2 _ (by kernel_rfl), (one_below _ _).trans ⟨rfl, rfl, rfl, Nat.le_refl _, fun _ _ => rfl⟩⟩
  by_cases d4 : p = 10033
  · subst d4
    go_enter Tryz.func73, Tryz.ntmps73
    go_upto_region 9 with fail
    go_region
    all_goals
      go_wp2
      go_ret
      exact ⟨_, rfl, row2 _ (by kernel_rfl), (one_below _ _).trans ⟨rfl, rfl, rfl, Nat.le_refl _, fun _ _ => rfl⟩⟩
  by_cases d5 : p = 10034
  · subst d5
    go_enter Tryz.func73, Tryz.ntmps73
    go_upto_region 9 with fail
    go_region
    all_goals
      go_wp2
      go_ret
      exact ⟨_, rfl, row2 _ (by kernel_rfl), (one_below _ _).trans ⟨rfl, rfl, rfl, Nat.le_refl _, fun _ _ => rfl⟩⟩
  by_cases d6 : p = 10035
  · subst d6
    go_enter Tryz.func73, Tryz.ntmps73
    go_upto_region 9 with fail
    go_region
    all_goals
      go_wp2
      go_ret
      exact ⟨_, rfl, row2 _ (by kernel_rfl), (one_below _ _).trans ⟨rfl, rfl, rfl, Nat.le_refl _, fun _ _ => rfl⟩⟩
  have HP : Hid (wideZ p = []) := hide (by
    unfold wideZ
    rw [if_neg c1, if_neg c2, if_neg (by omega), if_neg d3, if_neg d4, if_neg d5, if_neg d6])
  have t1 : (p == 8064) = false := by simpa using d1
  have t2 : (p == 160) = false := by simpa using d2
  by_cases a1 : 9984 ≤ p
  · have n1 : ¬ p ≤ 10009 := by omega
    by_cases a2 : 10016 ≤ p
    · have n2 : ¬ p ≤ 10025 := by omega
      by_cases a3 : 10032 ≤ p
      · have n3 : ¬ p ≤ 10035 := by omega
        go_enter Tryz.func73, Tryz.ntmps73
        go_wp2
        go_ret
        exact ⟨_, rfl, row0 w (unhide HP), one_below _ _⟩
      · go_enter Tryz.func73, Tryz.ntmps73
        go_wp2
        go_ret
        exact ⟨_, rfl, row0 w (unhide HP), one_below _ _⟩
    · have a3 : ¬ 10032 ≤ p := by omega
      go_enter Tryz.func73, Tryz.ntmps73
      go_wp2
      go_ret
      exact ⟨_, rfl, row0 w (unhide HP), one_below _ _⟩
  · have a2 : ¬ 10016 ≤ p := by omega
    have a3 : ¬ 10032 ≤ p := by omega
    go_enter Tryz.func73, Tryz.ntmps73
    go_wp2
    go_ret
    exact ⟨_, rfl, row0 w (unhide HP), one_below _ _⟩
end Go.Proofs.YtamigjljgepfiaaGreatDoor
/- Are spans right? The program's answer and the specification's. -/
namespace Go.Proofs.YtamigjljgepfiaaGreatDoor
open Go.RowKit
theorem fault_long {L : List Sp} (h : 1000 < L.length) : faultOf L = 1 := by
  unfold faultOf right
  rw [decide_eq_false (by omega)]
  rfl
theorem fault_ok {L : List Sp} (h : L.length ≤ 1000) (ho : okAt L 0 = true) : faultOf L = 0 := by
  unfold faultOf right
  rw [← okAt_zero, ho, decide_eq_true h]
  rfl
theorem fault_no {L : List Sp} (ho : okAt L 0 = false) : faultOf L = 1 := by
  unfold faultOf right
  rw [← okAt_zero, ho, Bool.and_false]
  rfl
theorem endAt_pos (L : List Sp) (k : Nat) (h : 0 < k) : endAt L k = (gx L (k - 1)).2.1 := by
  match k, h with
  | k + 1, _ => rfl
end Go.Proofs.YtamigjljgepfiaaGreatDoor
/- Arguments that hold spans, opened. -/
namespace Go.Proofs.YtamigjljgepfiaaGreatDoor
open Go.ChangeShapes Go.WideShapes Go.ChangeAt Go.RowKit Go.Deep
section
variable {H : Type} {enc : TypeId × Value → H} {w : World} {base : Nat} {spare : Nat → Bool} {held : Bool}
theorem int_cells : Tryz.prog.cellsOf 2 = 1 := by kernel_rfl
theorem addr_add (b off i : Nat) : (⟨b, off, none⟩ : Addr).add i = ⟨b, off + i, none⟩ := by unfold Addr.add; split <;> simp_all
theorem add_spot {w : World} {a : Addr} {v : Value} (h : w.cell? (a.add 0) = some v) : ∃ b off, a = ⟨b, off, none⟩ := by
  obtain ⟨b, off, spot⟩ := a
  have hspot : spot = none := by simpa [Addr.add] using World.cell?_spot h
  exact ⟨b, off, by rw [hspot]⟩
end
end Go.Proofs.YtamigjljgepfiaaGreatDoor
/- All parts of a point, as the specification tells them. -/
namespace Go.Proofs.YtamigjljgepfiaaGreatDoor
open Go.RowKit
set_option maxHeartbeats 4000000 in
set_option maxRecDepth 100000 in
theorem partsS (p : Int) (k : Bool) (w : World) (hb : 0 ≤ p ∧ p ≤ 1114111) : Calls Tryz.prog 43 #[.int .i64 p, .bool k] w fun e w' => NewRow w w' e (partsZ k p) := by
  obtain ⟨n, hn⟩ : ∃ n, p % 512 = n := ⟨_, rfl⟩
  obtain ⟨m, hm⟩ : ∃ m, p / 512 = m := ⟨_, rfl⟩
  have e1 : p.tmod 512 = n := by rw [Int.tmod_eq_emod_of_nonneg (by omega)]; exact hn
  have e2 : p.tdiv 512 = m := by rw [Int.tdiv_eq_ediv_of_nonneg (by omega)]; exact hm
  have n0 : 0 ≤ n ∧ n ≤ 511 := by omega
  by_cases c1 : 8192 ≤ p ∧ p ≤ 8607
  · obtain ⟨q, hq⟩ : ∃ q, (p - 8192) / 8 = q := ⟨_, rfl⟩
    obtain ⟨r, hr⟩ : ∃ r, (p - 8192) % 8 = r := ⟨_, rfl⟩
    have e3 : n.tdiv 8 = q := by rw [Int.tdiv_eq_ediv_of_nonneg (by omega)]; omega
    have e4 : n.tmod 8 = r := by rw [Int.tmod_eq_emod_of_nonneg (by omega)]; omega
    have b1 : 0 ≤ q ∧ q ≤ 51 := by omega
    have b2 : 0 ≤ r ∧ r ≤ 7 := by omega
    have b3 : n < 416 := by omega
    have b4 : p < 9728 := by omega
    have hm16 : m = 16 := by omega
    have HP : Hid (partsZ k p = [letterZ q, 4096 + r]) := hide (by unfold partsZ; rw [if_pos c1, hq, hr])
    subst hm16
    clear hq hr hn hm
    go_enter Tryz.func43, Tryz.ntmps43
    go_wp2_with (go_at_call 72; refine (letterS _ _ (by omega)).mono ?_; rintro e w' ⟨rfl, rfl⟩)
    go_ret
    exact ⟨_, rfl, row2 _ (unhide HP), one_below _ _⟩
  by_cases c2 : 8704 ≤ p ∧ p ≤ 9119
  · obtain ⟨q, hq⟩ : ∃ q, (p - 8704) / 8 = q := ⟨_, rfl⟩
    obtain ⟨r, hr⟩ : ∃ r, (p - 8704) % 8 = r := ⟨_, rfl⟩
    have e3 : n.tdiv 8 = q := by rw [Int.tdiv_eq_ediv_of_nonneg (by omega)]; omega
    have e4 : n.tmod 8 = r := by rw [Int.tmod_eq_emod_of_nonneg (by omega)]; omega
    have b1 : 0 ≤ q ∧ q ≤ 51 := by omega
    have b2 : 0 ≤ r ∧ r ≤ 7 := by omega
    have b3 : n < 416 := by omega
    have b4 : p < 9728 := by omega
    have hm17 : m = 17 := by omega
    have HP : Hid (partsZ k p = [letterZ q, 4112 + r]) := hide (by unfold partsZ; rw [if_neg c1, if_pos c2, hq, hr])
    subst hm17
    clear hq hr hn hm
    go_enter Tryz.func43, Tryz.ntmps43
    go_wp2_with (go_at_call 72; refine (letterS _ _ (by omega)).mono ?_; rintro e w' ⟨rfl, rfl⟩)
    go_ret
    exact ⟨_, rfl, row2 _ (unhide HP), one_below _ _⟩
  by_cases c3 : 9216 ≤ p ∧ p ≤ 9631
  · have b3 : n < 416 := by omega
    have b4 : p < 9728 := by omega
    have hm18 : m = 18 := by omega
    have HP : Hid (partsZ k p = [8704 + n, 4096]) := hide (by
      unfold partsZ
      rw [if_neg c1, if_neg c2, if_pos c3]
      congr 1
      omega)
    subst hm18
    clear hn hm
    go_enter Tryz.func43, Tryz.ntmps43
    go_wp2
    go_ret
    exact ⟨_, rfl, row2 _ (unhide HP), one_below _ _⟩
  have T1 : (decide (8192 ≤ p) && decide (p < 9728) && decide (n < 416)) = false := by
    by_cases a1 : 8192 ≤ p
    · by_cases a2 : p < 9728
      · have : ¬ n < 416 := by omega
        simp [this]
      · simp [a2]
    · simp [a1]
  by_cases c4 : 9728 ≤ p ∧ p ≤ 9753
  · have HP : Hid (partsZ k p = [p - 9728 + 65]) := hide (by unfold partsZ; rw [if_neg c1, if_neg c2, if_neg c3, if_pos c4])
    have b4 : ¬ p < 9728 := by omega
    clear hn hm T1
    go_enter Tryz.func43, Tryz.ntmps43
    go_wp2
    go_ret
    exact ⟨_, rfl, row1 _ (unhide HP), one_below _ _⟩
  by_cases c5 : 12288 ≤ p ∧ p ≤ 23459
  · have b4 : ¬ p < 9728 := by omega
    have b5 : ¬ p ≤ 9753 := by omega
    obtain ⟨r, hr⟩ : ∃ r, (p - 12288) % 28 = r := ⟨_, rfl⟩
    have e3 : (p - 12288).tmod 28 = r := by rw [Int.tmod_eq_emod_of_nonneg (by omega)]; exact hr
    have b2 : 0 ≤ r ∧ r ≤ 27 := by omega
    by_cases h0 : 0 < r
    · have HP : Hid (partsZ k p = [p - r, 1856 + r]) := hide (by unfold partsZ; rw [if_neg c1, if_neg c2, if_neg c3, if_neg c4, if_pos c5, hr, if_pos h0])
      clear hn hm hr T1
      go_enter Tryz.func43, Tryz.ntmps43
      go_wp2
      go_ret
      exact ⟨_, rfl, row2 _ (unhide HP), one_below _ _⟩
    · obtain ⟨a, ha⟩ : ∃ a, (p - 12288) / 588 = a := ⟨_, rfl⟩
      obtain ⟨q, hq⟩ : ∃ q, (p - 12288) / 28 = q := ⟨_, rfl⟩
      obtain ⟨b, hbb⟩ : ∃ b, q % 21 = b := ⟨_, rfl⟩
      have e4 : (p - 12288).tdiv 588 = a := by rw [Int.tdiv_eq_ediv_of_nonneg (by omega)]; exact ha
      have e5 : (p - 12288).tdiv 28 = q := by rw [Int.tdiv_eq_ediv_of_nonneg (by omega)]; exact hq
      have e6 : q.tmod 21 = b := by rw [Int.tmod_eq_emod_of_nonneg (by omega)]; exact hbb
      have b6 : 0 ≤ a ∧ a ≤ 18 := by omega
      have b8 : 0 ≤ q ∧ q ≤ 398 := by omega
      have b7 : 0 ≤ b ∧ b ≤ 20 := by omega
      have HP : Hid (partsZ k p = [1792 + a, 1824 + b]) := hide (by unfold partsZ; rw [if_neg c1, if_neg c2, if_neg c3, if_neg c4, if_pos c5, if_neg (by omega), ha, hq, hbb])
      clear hn hm hr T1 ha hq hbb
      go_enter Tryz.func43, Tryz.ntmps43
      go_wp2
      go_ret
      exact ⟨_, rfl, row2 _ (unhide HP), one_below _ _⟩
  cases k with
  | true =>
    have hz : wideZ p = partsZ true p := by unfold partsZ; rw [if_neg c1, if_neg c2, if_neg c3, if_neg c4, if_neg c5, if_pos rfl]
    have SW := hide (fun W => wideS p W hb)
    rw [hz] at SW
    clear hz
    by_cases g0 : p < 8192
    · have f0 : ¬ 8192 ≤ p := by omega
      have f1 : ¬ 9728 ≤ p := by omega
      have f2 : ¬ 12288 ≤ p := by omega
      clear hn hm T1
      go_enter Tryz.func43, Tryz.ntmps43
      go_wp2_with (go_at_call 73; refine ((unhide SW) _).mono ?_; rintro e w1 ⟨v, rfl, ho, hb2⟩)
      go_ret
      exact ⟨v, rfl, ho, hb2⟩
    by_cases g1 : p < 9728
    · have f0 : 8192 ≤ p := by omega
      have f1 : ¬ n < 416 := by omega
      have f2 : ¬ 9728 ≤ p := by omega
      have f3 : ¬ 12288 ≤ p := by omega
      clear hn hm T1
      go_enter Tryz.func43, Tryz.ntmps43
      go_wp2_with (go_at_call 73; refine ((unhide SW) _).mono ?_; rintro e w1 ⟨v, rfl, ho, hb2⟩)
      go_ret
      exact ⟨v, rfl, ho, hb2⟩
    by_cases g2 : p < 12288
    · have f0 : 8192 ≤ p := by omega
      have f1 : ¬ p < 9728 := by omega
      have f2 : 9728 ≤ p := by omega
      have f3 : ¬ p ≤ 9753 := by omega
      have f4 : ¬ 12288 ≤ p := by omega
      clear hn hm T1
      go_enter Tryz.func43, Tryz.ntmps43
      go_wp2_with (go_at_call 73; refine ((unhide SW) _).mono ?_; rintro e w1 ⟨v, rfl, ho, hb2⟩)
      go_ret
      exact ⟨v, rfl, ho, hb2⟩
    have f0 : 8192 ≤ p := by omega
    have f1 : ¬ p < 9728 := by omega
    have f2 : 9728 ≤ p := by omega
    have f3 : ¬ p ≤ 9753 := by omega
    have f4 : 12288 ≤ p := by omega
    have f5 : ¬ p ≤ 23459 := by omega
    clear hn hm T1
    go_enter Tryz.func43, Tryz.ntmps43
    go_wp2_with (go_at_call 73; refine ((unhide SW) _).mono ?_; rintro e w1 ⟨v, rfl, ho, hb2⟩)
    go_ret
    exact ⟨v, rfl, ho, hb2⟩
  | false =>
    have HP : Hid (partsZ false p = []) := hide (by unfold partsZ; rw [if_neg c1, if_neg c2, if_neg c3, if_neg c4, if_neg c5, if_neg (by simp)])
    by_cases g0 : p < 8192
    · have f0 : ¬ 8192 ≤ p := by omega
      have f1 : ¬ 9728 ≤ p := by omega
      have f2 : ¬ 12288 ≤ p := by omega
      clear hn hm T1
      go_enter Tryz.func43, Tryz.ntmps43
      go_wp2
      go_ret
      exact ⟨_, rfl, row0 _ (unhide HP), one_below _ _⟩
    by_cases g1 : p < 9728
    · have f0 : 8192 ≤ p := by omega
      have f1 : ¬ n < 416 := by omega
      have f2 : ¬ 9728 ≤ p := by omega
      have f3 : ¬ 12288 ≤ p := by omega
      clear hn hm T1
      go_enter Tryz.func43, Tryz.ntmps43
      go_wp2
      go_ret
      exact ⟨_, rfl, row0 _ (unhide HP), one_below _ _⟩
    by_cases g2 : p < 12288
    · have f0 : 8192 ≤ p := by omega
      have f1 : ¬ p < 9728 := by omega
      have f2 : 9728 ≤ p := by omega
      have f3 : ¬ p ≤ 9753 := by omega
      have f4 : ¬ 12288 ≤ p := by omega
      clear hn hm T1
      go_enter Tryz.func43, Tryz.ntmps43
      go_wp2
      go_ret
      exact ⟨_, rfl, row0 _ (unhide HP), one_below _ _⟩
    have f0 : 8192 ≤ p := by omega
    have f1 : ¬ p < 9728 := by omega
    have f2 : 9728 ≤ p := by omega
    have f3 : ¬ p ≤ 9753 := by omega
    have f4 : 12288 ≤ p := by omega
    have f5 : ¬ p ≤ 23459 := by omega
    clear hn hm T1
    go_enter Tryz.func43, Tryz.ntmps43
    go_wp2
    go_ret
    exact ⟨_, rfl, row0 _ (unhide HP), one_below _ _⟩
end Go.Proofs.YtamigjljgepfiaaGreatDoor
/- The parts of a point, handed on by an iterator. -/
namespace Go.Proofs.YtamigjljgepfiaaGreatDoor
open Go.RowKit Go.Shelf
attribute [local go_sem] Oper.semAt_some
/-- What a round keeps: pairs lie as they lay. -/
def KeepP (W W' : World) : Prop := W.heap.size ≤ W'.heap.size ∧ ∀ (k : Nat) (c : Array Value) (z : Nat × Nat), W.heap[k]? = some (Obj.cells c 98 z) → W'.heap[k]? = some (Obj.cells c 98 z)
theorem KeepP.refl (W : World) : KeepP W W := ⟨Nat.le_refl _, fun _ _ _ h => h⟩
theorem KeepP.trans {A B C : World} (h : KeepP A B) (g : KeepP B C) : KeepP A C := ⟨Nat.le_trans h.1 g.1, fun k c z e => g.2 k c z (h.2 k c z e)⟩
theorem KeepP.of_below {A B : World} (h : Below A.heap.size A B) : KeepP A B := ⟨h.size, fun k _ _ e => (h.block k (Array.getElem?_eq_some_iff.1 e).1).trans e⟩
theorem KeepP.alloc (W : World) (o : Obj) : KeepP W (W.alloc o) := .of_below (one_below W o)
theorem grown_of_below {A B : World} (h : Below A.heap.size A B) : A.grownBy B none := ⟨h.os, h.tape, h.output, h.size, fun k hk _ => h.block k hk⟩
theorem abides_below {β : Type} {N : Nat} {J : β → World → Prop} (hA : AbidesFrom N J) {s : β} {A B : World} (hJ : J s A) (hb : Below A.heap.size A B) : J s B :=
  hA s A B none hJ (grown_of_below hb) (fun r e => by cases e)
theorem abides_alloc {β : Type} {N : Nat} {J : β → World → Prop} (hA : AbidesFrom N J) {s : β} {A : World} (hJ : J s A) (o : Obj) : J s (A.alloc o) := abides_below hA hJ (one_below A o)
theorem pair_cells {W : World} {g : Nat} {x y : Value} {z : Nat × Nat} (h : W.heap[g]? = some (.cells #[x, y] 98 z)) : W.cell? ⟨g, 0, none⟩ = some x ∧ W.cell? ⟨g, 1, none⟩ = some y := by
  constructor <;> simp [World.cell?, h]
theorem pair_new (W : World) (x y : Value) : (W.alloc (.cells #[x, y] 98)).heap[W.heap.size]? = some (.cells #[x, y] 98 (0, 0)) := heap_alloc_new _ _
/-- What the one who takes the parts promises. -/
def Takes (l N : Nat) (J Jx : List Int → World → Prop) : Prop := ∀ (m : Nat) (pre : List Int) (x : Int) (W : World), J pre W → pre.length < N → YieldAt Fence.wide m Tryz.prog l #[.int .i64 x] W fun e W' =>
  (e = .returned (.bool true) ∧ J (pre ++ [x]) W' ∧ KeepP W W') ∨ (e = .returned (.bool false) ∧ Jx (pre ++ [x]) W')
set_option maxRecDepth 100000 in
set_option maxHeartbeats 2000000 in
theorem hand_none (form p : Int) (k : Bool) (hk : k = true ↔ form = 3 ∨ form = 4) (l N B0 : Nat) (J Jx : List Int → World → Prop) (hA : AbidesFrom B0 J) (hY : Takes l N J Jx) (n : Nat) (pre : List Int) (W : World)
    (hp : partsZ k p = []) (hJ : J pre W) (hN : pre.length < N) :
    CallsIn Fence.wide n Tryz.prog 52 #[.int .i64 form, .int .i64 p, .func (.yield l) #[] #[]] W fun e W' =>
      (e = .returned (.bool true) ∧ J (pre ++ [p]) W' ∧ KeepP W W') ∨ (e = .returned (.bool false) ∧ Jx (pre ++ [p]) W') := by
  have PI := (callsIn_wide (n := n - 1)).2 (partsI form p k W hk)
  rw [pair_none hp] at PI
  have PJ := PI.mono (R' := fun e W1 => e = .returned (.agg #[.int .i64 p, .int .i64 (-1)]) ∧ YieldAt Fence.wide (n - 1) Tryz.prog l #[.int .i64 p] (W1.alloc (.cells #[.int .i64 p, .int .i64 (-1)] 98)) fun e W' => (e = .returned (.bool true) ∧ J (pre ++ [p]) W' ∧ KeepP W W') ∨ (e = .returned (.bool false) ∧ Jx (pre ++ [p]) W'))
    (fun e W1 h => ⟨h.1, YieldAt.mono (hY (n - 1) pre p _ (abides_alloc hA (abides_below hA hJ h.2) _) hN) fun e W2 g => g.elim (fun ⟨he, hj, hkp⟩ => .inl ⟨he, hj, (KeepP.of_below h.2).trans ((KeepP.alloc _ _).trans hkp)⟩) .inr⟩)
  clear PI hY hJ hk hp
  refine callsIn_of_wp Tryz.func52 rfl trivial ?_ rfl
  simp only [Tryz.ntmps52, List.size_toArray, List.length_cons, List.length_nil, Nat.reduceAdd, Nat.reduceSub, Array.replicate_succ, Array.replicate_zero, List.push_toArray, List.append_toArray, List.nil_append, List.cons_append]
  gi_wp2_with (first
    | (refine ⟨trivial, (fun h => (by cases h)), ?_⟩; gi_at_call 79; refine PJ.mono ?_; clear PJ; rintro e W1 ⟨rfl, fn, tmps, assign, body, hy, hR⟩)
    | (first | refine hR.mono ?_ | refine ⟨(fun h => (by cases h)), hR.mono ?_⟩; clear hR; rintro e W2 (⟨rfl, hJ2, hk2⟩ | ⟨rfl, hx2⟩)))
  · go_ret
    exact .inl ⟨rfl, hJ2, hk2⟩
  · go_ret
    exact .inr ⟨rfl, hx2⟩
/-- What handing on a row of parts comes to. -/
def Handed (J Jx : List Int → World → Prop) (pre xs : List Int) (W : World) (e : Ending) (W' : World) : Prop :=
  (e = .returned (.bool true) ∧ J (pre ++ xs) W' ∧ KeepP W W') ∨ (e = .returned (.bool false) ∧ ∃ q, q <+: xs ∧ Jx (pre ++ q) W')
theorem Handed.from {J Jx : List Int → World → Prop} {pre xs : List Int} {W V : World} {e : Ending} {W' : World} (h : Handed J Jx pre xs V e W') (hk : KeepP W V) : Handed J Jx pre xs W e W' :=
  h.elim (fun ⟨he, hj, hkp⟩ => .inl ⟨he, hj, hk.trans hkp⟩) .inr
set_option maxRecDepth 100000 in
set_option maxHeartbeats 4000000 in
theorem hand_in (form : Int) (k : Bool) (hk : k = true ↔ form = 3 ∨ form = 4) (l N B0 : Nat) (J Jx : List Int → World → Prop) (hA : AbidesFrom B0 J) (hY : Takes l N J Jx) :
    ∀ (d n : Nat) (p : Int) (pre : List Int) (W : World), deep k d p → J pre W → pre.length + (allF k d p).length ≤ N →
    CallsIn Fence.wide n Tryz.prog 52 #[.int .i64 form, .int .i64 p, .func (.yield l) #[] #[]] W (Handed J Jx pre (allF k d p) W) := by
  have base : ∀ (d n : Nat) (p : Int) (pre : List Int) (W : World), partsZ k p = [] → J pre W → pre.length + (allF k d p).length ≤ N → CallsIn Fence.wide n Tryz.prog 52 #[.int .i64 form, .int .i64 p, .func (.yield l) #[] #[]] W (Handed J Jx pre (allF k d p) W) := by
    intro d n p pre W hp hJ hN
    rw [allF_none hp] at hN ⊢
    refine (hand_none form p k hk l N B0 J Jx hA hY n pre W hp hJ (by simp at hN; omega)).mono ?_
    rintro e W' (⟨he, hj, hkp⟩ | ⟨he, hx⟩)
    · exact .inl ⟨he, hj, hkp⟩
    · exact .inr ⟨he, [p], List.prefix_refl _, hx⟩
  intro d
  induction d with
  | zero =>
    intro n p pre W hd hJ hN
    exact base 0 n p pre W hd hJ hN
  | succ d ih =>
    intro n p pre W hd hJ hN
    rcases parts_cases k p with hp | ⟨a, hp, hne, ha⟩ | ⟨a, b, hp, hne, ha, hbb⟩
    · exact base (d + 1) n p pre W hp hJ hN
    · have PI := (callsIn_wide (n := n - 1)).2 (partsI form p k W hk)
      rw [pair_one hp] at PI
      rw [allF_one hp] at hN ⊢
      have da : deep k d a := hd a (by rw [hp]; simp)
      have PJ := PI.mono (R' := fun e W1 => e = .returned (.agg #[.int .i64 a, .int .i64 (-1)]) ∧ CallsIn Fence.wide (n - 1) Tryz.prog 52 #[.int .i64 form, .int .i64 a, .func (.yield l) #[] #[]] (W1.alloc (.cells #[.int .i64 a, .int .i64 (-1)] 98)) (Handed J Jx pre (allF k d a) W))
        (fun e W1 h => ⟨h.1, (ih (n - 1) a pre _ da (abides_alloc hA (abides_below hA hJ h.2) _) hN).mono fun e W2 g => g.from ((KeepP.of_below h.2).trans (KeepP.alloc _ _))⟩)
      have t1 : (a == p) = false := by simpa using hne
      clear PI hY hJ hk hp ih base hd da ha hne
      refine callsIn_of_wp Tryz.func52 rfl trivial ?_ rfl
      simp only [Tryz.ntmps52, List.size_toArray, List.length_cons, List.length_nil, Nat.reduceAdd, Nat.reduceSub, Array.replicate_succ, Array.replicate_zero, List.push_toArray, List.append_toArray, List.nil_append, List.cons_append]
      gi_wp2_with (first
        | (refine ⟨trivial, (fun h => (by cases h)), ?_⟩; gi_at_call 79; refine PJ.mono ?_; clear PJ; rintro e W1 ⟨rfl, hR⟩)
        | (refine ⟨trivial, (fun h => (by cases h)), ?_⟩; gi_at_call 52; refine hR.mono ?_; clear hR; rintro e W2 (⟨rfl, hJ2, hk2⟩ | ⟨rfl, hx2⟩)))
      · go_ret
        exact .inl ⟨rfl, hJ2, hk2⟩
      · go_ret
        exact .inr ⟨rfl, hx2⟩
    · have PI := (callsIn_wide (n := n - 1)).2 (partsI form p k W hk)
      rw [pair_two hp] at PI
      rw [allF_two hp] at hN ⊢
      rw [List.length_append] at hN
      have da : deep k d a := hd a (by rw [hp]; simp)
      have db : deep k d b := hd b (by rw [hp]; simp)
      have PJ := PI.mono (R' := fun e W1 => e = .returned (.agg #[.int .i64 a, .int .i64 b]) ∧ CallsIn Fence.wide (n - 1) Tryz.prog 52 #[.int .i64 form, .int .i64 a, .func (.yield l) #[] #[]] (W1.alloc (.cells #[.int .i64 a, .int .i64 b] 98)) (fun e W2 =>
          (e = .returned (.bool true) ∧ W2.cell? ⟨W1.heap.size, 1, none⟩ = some (.int .i64 b) ∧ CallsIn Fence.wide (n - 1) Tryz.prog 52 #[.int .i64 form, .int .i64 b, .func (.yield l) #[] #[]] W2 (Handed J Jx pre (allF k d a ++ allF k d b) W)) ∨ (e = .returned (.bool false) ∧ ∃ q, q <+: allF k d a ++ allF k d b ∧ Jx (pre ++ q) W2)))
        (fun e W1 h => ⟨h.1, (ih (n - 1) a pre _ da (abides_alloc hA (abides_below hA hJ h.2) _) (by omega)).mono fun e W2 g => g.elim
          (fun ⟨he, hj, hkp⟩ => .inl ⟨he, (pair_cells (hkp.2 _ _ _ (pair_new W1 _ _))).2, (ih (n - 1) b (pre ++ allF k d a) W2 db hj (by rw [List.length_append]; omega)).mono fun e W3 g2 => g2.elim
            (fun ⟨he2, hj2, hkp2⟩ => .inl ⟨he2, by rw [← List.append_assoc]; exact hj2, (KeepP.of_below h.2).trans ((KeepP.alloc _ _).trans (hkp.trans hkp2))⟩)
            (fun ⟨he2, q, ⟨r, hr⟩, hx⟩ => .inr ⟨he2, allF k d a ++ q, ⟨r, by rw [List.append_assoc, hr]⟩, by rw [← List.append_assoc]; exact hx⟩)⟩)
          (fun ⟨he, q, hq, hx⟩ => .inr ⟨he, q, hq.trans (List.prefix_append _ _), hx⟩)⟩)
      have t1 : (a == p) = false := by simpa using hne
      have t2 : (b == -1) = false := by have := (bare_bd hbb).1; simp; omega
      clear PI hY hJ hk hp ih base hd da db ha hbb hne
      refine callsIn_of_wp Tryz.func52 rfl trivial ?_ rfl
      simp only [Tryz.ntmps52, List.size_toArray, List.length_cons, List.length_nil, Nat.reduceAdd, Nat.reduceSub, Array.replicate_succ, Array.replicate_zero, List.push_toArray, List.append_toArray, List.nil_append, List.cons_append]
      gi_wp2_with (first
        | (refine ⟨trivial, (fun h => (by cases h)), ?_⟩; gi_at_call 79; refine PJ.mono ?_; clear PJ; rintro e W1 ⟨rfl, hR⟩)
        | (refine ⟨trivial, (fun h => (by cases h)), ?_⟩; gi_at_call 52; refine hR.mono ?_; clear hR; rintro e W2 (⟨rfl, c2, hS⟩ | ⟨rfl, hx2⟩))
        | (refine ⟨trivial, (fun h => (by cases h)), ?_⟩; gi_at_call 52; refine hS.mono ?_; clear hS; rintro e W3 (⟨rfl, hJ3, hk3⟩ | ⟨rfl, hx3⟩)))
      · go_ret
        exact .inl ⟨rfl, hJ3, hk3⟩
      · go_ret
        exact .inr ⟨rfl, hx3⟩
      · refine ⟨trivial, ?_⟩
        gi_wp2
        go_ret
        exact .inr ⟨rfl, hx2⟩
end Go.Proofs.YtamigjljgepfiaaGreatDoor
/- The parts of a point, collected. -/
namespace Go.Proofs.YtamigjljgepfiaaGreatDoor
open Go.RowKit Go.Shelf
attribute [local go_sem] Oper.semAt_some
theorem round_any {m m' : Nat} {P : Program} {l : Nat} {f : FuncId} {tmps : Array Value} {assign body : Code} {w : World} {R : Ending → World → Prop}
    (h : RoundIn Fence.wide m P l f tmps assign body w R) : RoundIn Fence.wide m' P l f tmps assign body w R := ⟨h.1, fun c cs _ => h.2 c cs (fun d e => by cases e)⟩
theorem yield_any {m : Nat} (m' : Nat) {P : Program} {l : Nat} {args : Array Value} {W : World} {R : Ending → World → Prop} (h : YieldAt Fence.wide m P l args W R) : YieldAt Fence.wide m' P l args W R := by
  obtain ⟨fn, tmps, assign, body, hy, hR⟩ := h
  exact ⟨fn, tmps, assign, body, hy, round_any hR⟩
set_option maxHeartbeats 1000000 in
theorem last1_in (n : Nat) (form p : Int) (k : Bool) (hk : k = true ↔ form = 3 ∨ form = 4) (l b1 b2 : Nat) (J Jx : List Int → World → Prop) (W : World) (hA : AbidesFrom W.heap.size J)
    (hY : ∀ pre x W, J pre W → pre.length < (allF k 2 p).length → YieldAt Fence.wide (n - 1) Tryz.prog l #[.int .i64 x] W fun e W' =>
      (e = .returned (.bool true) ∧ J (pre ++ [x]) W' ∧ KeepP W W') ∨ (e = .returned (.bool false) ∧ Jx (pre ++ [x]) W'))
    (h1 : W.cell? ⟨b1, 0, none⟩ = some (.int .i64 form)) (h2 : W.cell? ⟨b2, 0, none⟩ = some (.int .i64 p)) (h0 : J [] W) :
    CallsIn Fence.wide n Tryz.prog 51 #[.func (.yield l) #[] #[], .pointer (some ⟨b1, 0, none⟩), .pointer (some ⟨b2, 0, none⟩)] W fun e W' => (∃ v, e = .returned v) ∧
      ((∃ ys, ys = allF k 2 p ∧ J ys W') ∨ (∃ pre, pre <+: allF k 2 p ∧ Jx pre W')) := by
  have hp := hand_in form k hk l (allF k 2 p).length W.heap.size J Jx hA (fun m pre x W hj hl => yield_any m (hY pre x W hj hl)) 2 (n - 1) p [] W (all_deep k p) h0 (by simp)
  clear hY hA h0 hk
  refine callsIn_of_wp Tryz.func51 rfl trivial ?_ rfl
  simp only [Tryz.ntmps51, List.size_toArray, List.length_cons, List.length_nil, Nat.reduceAdd, Nat.reduceSub, Array.replicate_succ, Array.replicate_zero, List.push_toArray, List.append_toArray, List.nil_append, List.cons_append]
  gi_wp2_with (refine ⟨trivial, (fun h => (by cases h)), ?_⟩; gi_at_call 52; refine hp.mono ?_; clear hp; rintro e W1 (⟨rfl, hJ1, _⟩ | ⟨rfl, q, hq, hx⟩))
  · go_end0
    exact ⟨⟨_, rfl⟩, .inl ⟨_, rfl, by simpa using hJ1⟩⟩
  · go_end0
    exact ⟨⟨_, rfl⟩, .inr ⟨q, hq, by simpa using hx⟩⟩
theorem last_any (form p : Int) (w : World) : Calls Tryz.prog 28 #[.int .i64 form, .int .i64 p] w fun e w' => e = .returned (.func (.func 51) #[] #[.pointer (some ⟨w.heap.size, 0, none⟩), .pointer (some ⟨w.heap.size + 1, 0, none⟩)]) ∧ w' = (w.alloc (.cells #[.int .i64 form] 2)).alloc (.cells #[.int .i64 p] 2) := by
  go_enter Tryz.func28, Tryz.ntmps28
  go_wp2
  go_ret
  exact ⟨rfl, rfl⟩
theorem last_stops (n : Nat) (form p : Int) (k : Bool) (hk : k = true ↔ form = 3 ∨ form = 4) (b1 b2 : Nat) (w : World) (l1 : b1 < w.heap.size) (l2 : b2 < w.heap.size)
    (h1 : w.cell? ⟨b1, 0, none⟩ = some (.int .i64 form)) (h2 : w.cell? ⟨b2, 0, none⟩ = some (.int .i64 p)) :
    SeqStopsK Fence.wide n Tryz.prog 51 #[.pointer (some ⟨b1, 0, none⟩), .pointer (some ⟨b2, 0, none⟩)] (fun x : Int => #[Value.int .i64 x]) KeepP (fun ys => ys = allF k 2 p) (fun pre => pre <+: allF k 2 p) (allF k 2 p).length w := fun l J Jx W hW hJ _ hY h0 =>
  last1_in n form p k hk l b1 b2 J Jx W hJ hY ((hW.cell (p := ⟨b1, 0, none⟩) l1).trans h1) ((hW.cell (p := ⟨b2, 0, none⟩) l2).trans h2) h0
theorem keepP_b {w : World} (W : World) (l : Nat) (o o' : Obj) (_ : w.heap.size ≤ l) (h : W.heap[l]? = some o) (hc : o.isCells = false) (_ : o.isWalk = false) : KeepP W (W.putObj l o') :=
  ⟨by simp [World.putObj], fun k c z e => (World.putObj_heap_other (fun hk => by subst hk; rw [h] at e; injection e with e; subst e; cases hc)).trans e⟩
theorem keepP_grown {W W' : World} {base n : Nat} {v : Value} {xs : List Value} (hg : W.grownBy W' v.ownBlock) (hr : W.ownsRow base 2 1 v n xs) : KeepP W W' :=
  ⟨hg.size, fun k c z e => (hg.block k (Array.getElem?_eq_some_iff.1 e).1 (fun hk => by
    rcases hr.2 with ⟨rfl, _⟩ | ⟨g, cap, cur, rfl, _, hh, _⟩
    · cases hk
    · simp [Value.ownBlock] at hk
      subst hk
      rw [hh] at e
      simp at e)).trans e⟩
theorem keepP_set {W : World} {B : Nat} {v u : Value} (hB : Boxed W B 27 v) : KeepP W (W.setCell ⟨B, 0, none⟩ u) :=
  ⟨by simp, fun k c z e => (heap_setCell_other W ⟨B, 0, none⟩ k u (fun hk => by
    subst hk
    have e2 : W.heap[k]? = _ := hB
    rw [e2] at e
    simp at e)).trans e⟩
end Go.Proofs.YtamigjljgepfiaaGreatDoor
/- The parts of a point, collected: slices.Collect, and Decompose of the program. -/
namespace Go.Proofs.YtamigjljgepfiaaGreatDoor
open Go.RowKit Go.Shelf
attribute [local go_sem] Oper.semAt_some
end Go.Proofs.YtamigjljgepfiaaGreatDoor
/- Decompose of the program. -/
namespace Go.Proofs.YtamigjljgepfiaaGreatDoor
open Go.RowKit Go.Shelf
/-- A point. -/
def isP (p : Int) : Bool := decide (0 ≤ p ∧ p ≤ 1114111 ∧ (p < 55296 ∨ 57343 < p))
def isF (f : Int) : Bool := decide (1 ≤ f ∧ f ≤ 4)
def isK (f : Int) : Bool := decide (f = 3 ∨ f = 4)
/-- What Decompose answers. -/
def decL (p form : Int) : List Int := if isP p = true ∧ isF form = true then allF (isK form) 2 p else []
theorem isPointD (p : Int) (w : World) : Calls Tryz.prog 84 #[.int .i64 p] w fun e w' => e = .returned (.bool (isP p)) ∧ w' = w := by
  by_cases h1 : 0 ≤ p
  · by_cases h2 : p ≤ 1114111
    · by_cases h3 : p < 55296
      · have HP : Hid (isP p = true) := hide (decide_eq_true (by omega))
        go_enter Tryz.func84, Tryz.ntmps84
        go_wp2
        go_ret
        exact ⟨ret_bool (unhide HP).symm, rfl⟩
      · by_cases h4 : 57343 < p
        · have HP : Hid (isP p = true) := hide (decide_eq_true (by omega))
          go_enter Tryz.func84, Tryz.ntmps84
          go_wp2
          go_ret
          exact ⟨ret_bool (unhide HP).symm, rfl⟩
        · have HP : Hid (isP p = false) := hide (decide_eq_false (by omega))
          go_enter Tryz.func84, Tryz.ntmps84
          go_wp2
          go_ret
          exact ⟨ret_bool (unhide HP).symm, rfl⟩
    · have HP : Hid (isP p = false) := hide (decide_eq_false (by omega))
      go_enter Tryz.func84, Tryz.ntmps84
      go_wp2
      go_ret
      exact ⟨ret_bool (unhide HP).symm, rfl⟩
  · have HP : Hid (isP p = false) := hide (decide_eq_false (by omega))
    go_enter Tryz.func84, Tryz.ntmps84
    go_wp2
    go_ret
    exact ⟨ret_bool (unhide HP).symm, rfl⟩
theorem form_ownI {w : World} {B n : Nat} {v : Value} {xs : List Value} (h : w.ownsRow B 2 1 v n xs) : ∃ a cap, v = .slice a n cap := by
  rcases h.2 with ⟨rfl, rfl⟩ | ⟨g, cap, cur, rfl, _⟩
  · exact ⟨_, _, rfl⟩
  · exact ⟨_, _, rfl⟩
theorem newRow_from {w w0 w' : World} {e : Ending} {l : List Int} (h : NewRow w0 w' e l) (hb : Below w.heap.size w w0) : NewRow w w' e l := by
  obtain ⟨v, he, ho, hb2⟩ := h
  have hs := hb.size
  refine ⟨v, he, ⟨ho.1, ?_⟩, hb.trans (hb2.mono hs)⟩
  rcases ho.2 with h' | ⟨g, cap, cur, hv, hg, r⟩
  · exact .inl h'
  · exact .inr ⟨g, cap, cur, hv, Nat.le_trans hs hg, r⟩
end Go.Proofs.YtamigjljgepfiaaGreatDoor
/- All parts of a point to the last, as the specification tells them; Decompose of the specification. -/
namespace Go.Proofs.YtamigjljgepfiaaGreatDoor
open Go.RowKit
theorem flat_take (k : Bool) (d : Nat) (l : List Int) (j : Nat) (h : j < l.length) : (l.take (j + 1)).flatMap (allF k d) = (l.take j).flatMap (allF k d) ++ allF k d (nth l j) := by
  have e : nth l j = l[j] := by simp [nth, List.getD, h]
  rw [List.take_succ_eq_append_getElem h, List.flatMap_append, e]
  simp
theorem parts_len (k : Bool) (p : Int) : (partsZ k p).length ≤ 2 := by
  rcases parts_cases k p with e | ⟨a, e, _⟩ | ⟨a, b, e, _⟩ <;> rw [e] <;> simp
theorem flat_len4 (k : Bool) (d : Nat) (hd : d ≤ 2) (l : List Int) (hl : l.length ≤ 2) (j : Nat) : ((l.take j).flatMap (allF k d)).length ≤ 16 := by
  have h4 : ∀ x, (allF k d x).length ≤ 4 := fun x => by
    have h1 := (allF_len k d x).2
    have h2 : 2 ^ d ≤ 2 ^ 2 := Nat.pow_le_pow_right (by omega) hd
    omega
  have : ∀ (m : List Int), m.length ≤ 2 → (m.flatMap (allF k d)).length ≤ 16 := fun m hm => by
    match m, hm with
    | [], _ => simp
    | [a], _ => have := h4 a; simp; omega
    | [a, b], _ => have := h4 a; have := h4 b; simp; omega
  exact this _ (by rw [List.length_take]; omega)
set_option maxHeartbeats 4000000 in
set_option maxRecDepth 100000 in
theorem allS (k : Bool) : ∀ (d : Nat), d ≤ 2 → ∀ (p : Int) (w : World), deep k d p → 0 ≤ p ∧ p ≤ 1114111 → Calls Tryz.prog 18 #[.int .i64 p, .bool k] w fun e w' => NewRow w w' e (allF k d p) := by
  have base : ∀ (d : Nat) (p : Int) (w : World), partsZ k p = [] → 0 ≤ p ∧ p ≤ 1114111 → Calls Tryz.prog 18 #[.int .i64 p, .bool k] w fun e w' => NewRow w w' e (allF k d p) := by
    intro d p w hp hb
    have PS := hide (fun W => partsS p k W hb)
    rw [hp] at PS
    have HE : Hid (allF k d p = [p]) := hide (allF_none hp d)
    clear hp
    go_enter Tryz.func18, Tryz.ntmps18
    go_wp2_with fail
    refine ((unhide PS) _).mono ?_
    rintro e w1 ⟨v, rfl, ho, hb1⟩
    obtain ⟨a, cap, rfl⟩ := form_ownI ho
    have B1 := hide hb1
    have z1 := hb1.size
    clear ho hb1
    go_wp2
    go_ret
    exact newRow_from ⟨_, rfl, row1 w1 (unhide HE), one_below _ _⟩ (unhide B1)
  intro d
  induction d with
  | zero => exact fun _ p w hd hb => base 0 p w hd hb
  | succ d ih =>
    intro hd2 p w hd hb
    by_cases hp : partsZ k p = []
    · exact base (d + 1) p w hp hb
    · obtain ⟨i0, hi, hz0, hz1, hz2⟩ := info_parts info2
      have PS := hide (fun W => partsS p k W hb)
      have HE : Hid (allF k (d + 1) p = (partsZ k p).flatMap (allF k d)) := hide (by rw [allF, if_neg hp])
      have IH : Hid (∀ j, j < (partsZ k p).length → ∀ W, Calls Tryz.prog 18 #[.int .i64 (nth (partsZ k p) j), .bool k] W fun e w' => NewRow W w' e (allF k d (nth (partsZ k p) j))) := hide (fun j hj W => by
        have hm : nth (partsZ k p) j ∈ partsZ k p := by
          have e : nth (partsZ k p) j = (partsZ k p)[j] := by simp [nth, List.getD, hj]
          rw [e]
          exact List.getElem_mem hj
        exact ih (by omega) _ W (hd _ hm) (parts_bd hm))
      have hl2 := parts_len k p
      have hl0 : 0 < (partsZ k p).length := List.length_pos_iff.2 hp
      have HL : Hid (∀ j, (((partsZ k p).take j).flatMap (allF k d)).length ≤ 16) := hide (fun j => flat_len4 k d (by omega) _ hl2 j)
      clear ih hd base hp
      generalize partsZ k p = l at *
      have hne : ((l.length : Int) == 0) = false := by rw [beq_eq_false_iff_ne]; omega
      go_enter Tryz.func18, Tryz.ntmps18
      go_wp2_with fail
      refine ((unhide PS) _).mono ?_
      rintro e w1 ⟨v, rfl, ho, hb1⟩
      obtain ⟨gp, cp, hv⟩ := own_pos ho hl0
      subst hv
      have hgp := (ho.lt gp rfl).2
      have HC : Hid (∀ j, j < l.length → w1.cell? ⟨gp, j, none⟩ = some (.int .i64 (nth l j))) := hide (fun j hj => by
        rw [ho.cellAt j (by omega), List.getElem?_map]
        simp [nth, List.getD, hj])
      have B1 := hide hb1
      have O0 : Hid ((w1.alloc (.cells #[] 2)).ownsRow w1.heap.size 2 1 (.slice (some ⟨w1.heap.size, 0, none⟩) 0 0) ((l.take 0).flatMap (allF k d)).length (((l.take 0).flatMap (allF k d)).map (Value.int .i64))) := hide (World.ownsRow_lit w1 #[] 0 (Nat.le_refl _) (by unfold maxLen; omega) rfl)
      have W0 : Hid (Below w1.heap.size w1 (w1.alloc (.cells #[] 2))) := hide (one_below _ _)
      clear ho hb1 PS
      go_wp2
      go_loopw [6, 7] (fun s i wr => ∃ j : Nat, j ≤ l.length ∧ i = .int .i64 j ∧ Hid (wr.ownsRow w1.heap.size 2 1 s ((l.take j).flatMap (allF k d)).length (((l.take j).flatMap (allF k d)).map (Value.int .i64))) ∧ Hid (Below w1.heap.size w1 wr)) (fun _ i _ => l.length - (intOf i).toNat)
      case atStart => exact ⟨0, Nat.zero_le _, rfl, O0, W0⟩
      case round =>
        obtain ⟨j, hj, rfl, HO, HB⟩ := hrel
        clear O0 W0
        by_cases hlt : j < l.length
        · have hlt' : (j : Int) < (l.length : Int) := by omega
          have c0 := ((unhide HB).cell (p := ⟨gp, j, none⟩) hgp).trans ((unhide HC) j hlt)
          have CA := hide ((unhide IH) j hlt)
          have HT := hide (flat_take k d l j hlt)
          have h16 := (unhide HL) j
          have h16' := (unhide HL) (j + 1)
          rw [unhide HT, List.length_append] at h16'
          have hbs := (unhide HB).size
          have hpos := (allF_len k d (nth l j)).1
          generalize allF k d (nth l j) = xs at *
          generalize nth l j = y at *
          generalize (l.take j).flatMap (allF k d) = ys at *
          go_wp2_with (first | (go_at_call 18; refine ((unhide CA) _).mono ?_; rintro e w2 ⟨u, rfl, ho2, hb2⟩; obtain ⟨g2, c2, hu⟩ := own_pos ho2 hpos; subst hu; have HU := hide ho2; have HO2 := hide (ownsRow_below (unhide HO) hb2); have B2 := hide ((unhide HB).trans (hb2.mono hbs)); have hs2 := hb2.size; clear ho2 hb2) | (at_builtin; refine wpList_append_own _ rfl _ _ 27 rfl w1.heap.size 2 i0 (.int .i64 0) 1 8 Tryz.underlying27 hi hz0 hz1 hz2 rfl (by decide) _ _ _ rfl (unhide HO2) ⟨g2, 0, none⟩ xs.length c2 (xs.map (Value.int .i64)) rfl (by simp) ?c1 ?c2 ?c3 ?c4 ?c5 ?_))
          case c1 =>
            intro m x hx
            rw [addr_add, Nat.zero_add]
            have hm : m < xs.length := by
              have := (List.getElem?_eq_some_iff.1 hx).1
              simpa using this
            rw [(unhide HU).cellAt m (by omega)]
            exact hx
          case c2 =>
            intro x hx
            obtain ⟨z, _, rfl⟩ := List.mem_map.1 hx
            rfl
          case c3 => unfold maxLen; omega
          case c4 => omega
          case c5 => omega
          intro v' w3 hown' hgrow _
          have O3 : Hid (w3.ownsRow w1.heap.size 2 1 v' ((l.take (j + 1)).flatMap (allF k d)).length (((l.take (j + 1)).flatMap (allF k d)).map (Value.int .i64))) := hide (by
            rw [unhide HT, List.length_append, List.map_append]
            exact hown')
          have B3 := hide ((unhide B2).grown hgrow (by omega) (fun m hm => ((unhide HO2).lt m hm).1))
          clear hown' hgrow HO2 B2 HU
          go_wp2
          go_roundw
          case rel => exact ⟨j + 1, by omega, by go_num, O3, B3⟩
          case measure => simp [intOf]; omega
        · obtain rfl : j = l.length := by omega
          have HO' := unhide HO
          rw [List.take_length] at HO'
          have HO2 := hide HO'
          clear HO HO'
          go_wp2
          go_ret
          rw [unhide HE]
          exact newRow_from ⟨_, rfl, unhide HO2, unhide HB⟩ (unhide B1)
end Go.Proofs.YtamigjljgepfiaaGreatDoor
/- The specification's order of marks. -/
namespace Go.Proofs.YtamigjljgepfiaaGreatDoor
open Go.RowKit
set_option maxHeartbeats 1000000 in
theorem clsS (p : Int) (w : World) : Calls Tryz.prog 44 #[.int .i64 p] w fun e w' => e = .returned (.int .i64 (clsZ p)) ∧ w' = w := by
  by_cases h1 : p = 1584
  · subst h1
    go_enter Tryz.func44, Tryz.ntmps44
    go_wp2
    go_ret
    exact ⟨rfl, rfl⟩
  by_cases h2 : p = 1585
  · subst h2
    go_enter Tryz.func44, Tryz.ntmps44
    go_wp2
    go_ret
    exact ⟨rfl, rfl⟩
  have t1 : (p == 1584) = false := by simpa using h1
  have t2 : (p == 1585) = false := by simpa using h2
  obtain ⟨z, hz⟩ : ∃ z, clsZ p = z := ⟨_, rfl⟩
  have hz' := hz
  unfold clsZ at hz'
  rw [if_neg h1, if_neg h2] at hz'
  rw [hz]
  clear hz
  by_cases h3 : p < 4096
  · rw [if_pos h3] at hz'
    have HE := hide hz'
    clear hz'
    go_enter Tryz.func44, Tryz.ntmps44
    go_wp2
    go_ret
    exact ⟨ret_int (unhide HE), rfl⟩
  rw [if_neg h3] at hz'
  by_cases h0 : 4159 < p
  · rw [if_neg (by omega), if_neg (by omega), if_neg (by omega), if_neg (by omega), if_neg (by omega)] at hz'
    have HE := hide hz'
    clear hz'
    go_enter Tryz.func44, Tryz.ntmps44
    go_wp2
    go_ret
    exact ⟨ret_int (unhide HE), rfl⟩
  obtain ⟨q, rfl⟩ : ∃ q, p = q + 4096 := ⟨p - 4096, by omega⟩
  have e0 : q + 4096 - 4096 = q := by omega
  have s1 : q + 4096 < 4112 ↔ q < 16 := by omega
  have s2 : q + 4096 < 4128 ↔ q < 32 := by omega
  have s3 : q + 4096 < 4136 ↔ q < 40 := by omega
  have s4 : q + 4096 < 4144 ↔ q < 48 := by omega
  have s5 : q + 4096 < 4152 ↔ q < 56 := by omega
  simp only [s1, s2, s3, s4, s5] at hz'
  clear s1 s2 s3 s4 s5
  have h0' : q + 4096 ≤ 4159 := by omega
  by_cases h4 : q < 16
  · rw [if_pos h4] at hz'
    have HE := hide hz'
    clear hz'
    go_enter Tryz.func44, Tryz.ntmps44
    go_wp2
    go_ret
    exact ⟨ret_int (unhide HE), rfl⟩
  rw [if_neg h4] at hz'
  by_cases h5 : q < 32
  · rw [if_pos h5] at hz'
    have HE := hide hz'
    clear hz'
    go_enter Tryz.func44, Tryz.ntmps44
    go_wp2
    go_ret
    exact ⟨ret_int (unhide HE), rfl⟩
  rw [if_neg h5] at hz'
  by_cases h6 : q < 40
  · rw [if_pos h6] at hz'
    have HE := hide hz'
    clear hz'
    go_enter Tryz.func44, Tryz.ntmps44
    go_wp2
    go_ret
    exact ⟨ret_int (unhide HE), rfl⟩
  rw [if_neg h6] at hz'
  by_cases h7 : q < 48
  · rw [if_pos h7] at hz'
    have HE := hide hz'
    clear hz'
    go_enter Tryz.func44, Tryz.ntmps44
    go_wp2
    go_ret
    exact ⟨ret_int (unhide HE), rfl⟩
  rw [if_neg h7] at hz'
  by_cases h8 : q < 56
  · rw [if_pos h8] at hz'
    have HE := hide hz'
    clear hz'
    go_enter Tryz.func44, Tryz.ntmps44
    go_wp2
    go_ret
    exact ⟨ret_int (unhide HE), rfl⟩
  rw [if_neg h8] at hz'
  have HE := hide hz'
  clear hz'
  go_enter Tryz.func44, Tryz.ntmps44
  go_wp2
  go_ret
  exact ⟨ret_int (unhide HE), rfl⟩
theorem own_seg {w : World} {B0 n g cap : Nat} {X : List Int} (h : w.ownsRow B0 2 1 (.slice (some ⟨g, 0, none⟩) n cap) n (X.map (Value.int .i64))) : ∃ Bq : List Value, Seg w w g [] X Bq ∧ B0 ≤ g ∧ n ≤ cap ∧ cap ≤ maxLen ∧ n = X.length ∧ n + Bq.length = cap := by
  have hn : n = X.length := by have := h.1; simp at this; exact this.symm
  rcases h.2 with ⟨h1, _⟩ | ⟨g', cap', cur, hv, hg, hf, h1, h2, h3, h4⟩
  · cases h1
  · cases hv
    rw [Nat.mul_one] at h3 h4
    refine ⟨cur.toList.drop n, ⟨?_, grown_refl _ _⟩, hg, h1, h2, hn, ?_⟩
    · rw [hf]
      congr 2
      rw [List.nil_append, ← h4, List.take_append_drop]
    · rw [List.length_drop, Array.length_toList]
      omega
theorem seg_own {w0 w : World} {B0 n g cap : Nat} {X : List Int} {Bq : List Value} (S : Seg w0 w g [] X Bq) (hB : B0 ≤ g) (hn : n = X.length) (hc : n + Bq.length = cap) (hm : cap ≤ maxLen) : w.ownsRow B0 2 1 (.slice (some ⟨g, 0, none⟩) n cap) n (X.map (Value.int .i64)) := by
  refine ⟨by simp [hn], .inr ⟨g, cap, _, rfl, hB, S.fu, by omega, hm, ?_, ?_⟩⟩
  · simp; omega
  · simp [hn]
theorem Seg.below {w0 w : World} {g B0 : Nat} {A B : List Value} {X : List Int} (S : Seg w0 w g A X B) (h0 : B0 ≤ w0.heap.size) (hB : B0 ≤ g) : Below B0 w0 w := (Below.refl _ _).grown S.gr h0 (fun m hm => by cases hm; exact hB)
theorem Seg.cell0 {w0 w : World} {g : Nat} {B : List Value} {X : List Int} (h : Seg w0 w g [] X B) (i : Nat) (hi : i < X.length) : w.cell? ⟨g, i, none⟩ = some (.int .i64 (nth X i)) := by simpa using h.cell i hi
theorem Seg.frozen0 {w0 w : World} {g : Nat} {B : List Value} {X : List Int} (h : Seg w0 w g [] X B) (i : Nat) : w.frozen? ⟨g, i, none⟩ = false := by simpa using h.frozen i
theorem Seg.set0 {w0 w : World} {g : Nat} {B : List Value} {X : List Int} (h : Seg w0 w g [] X B) (i : Nat) (hi : i < X.length) (x : Int) : Seg w0 (w.setCell ⟨g, i, none⟩ (.int .i64 x)) g [] (X.set i x) B := by simpa using h.set i hi x
/-- The first i points are in order. -/
def OSs (w0 w : World) (g : Nat) (B : List Value) (L : List Int) (i : Nat) : Prop := Seg w0 w g [] (ordL (L.take i) ++ L.drop i) B
theorem ord_take {L : List Int} {i : Nat} (hi : i < L.length) : L.take (i + 1) = L.take i ++ [nth L i] ∧ L.drop i = nth L i :: L.drop (i + 1) := by
  have e : nth L i = L[i] := by simp [nth, List.getD, hi]
  rw [e]
  exact ⟨List.take_succ_eq_append_getElem hi, List.drop_eq_getElem_cons hi⟩
theorem OSs.cell {w0 w : World} {g : Nat} {B : List Value} {L : List Int} {i : Nat} (h : OSs w0 w g B L i) (hi : i < L.length) : w.cell? ⟨g, i, none⟩ = some (.int .i64 (nth L i)) := by
  unfold OSs at h
  have hl : (ordL (L.take i)).length = i := by rw [ordL_len, List.length_take]; omega
  rw [(ord_take hi).2] at h
  have c := h.cell0 i (by simp [hl])
  rw [nth_at _ _ _ _ hl.symm] at c
  exact c
theorem OSs.zero {w0 w : World} {g : Nat} {B : List Value} {L : List Int} {i : Nat} (h : OSs w0 w g B L i) (hi : i < L.length) (hz : clsZ (nth L i) = 0) : OSs w0 w g B L (i + 1) := by
  unfold OSs at h ⊢
  rw [(ord_take hi).2] at h
  rw [(ord_take hi).1, ord_zero _ hz]
  simpa using h
set_option maxHeartbeats 4000000 in
set_option maxRecDepth 100000 in
theorem orderedS (B0 n g cap : Nat) (L : List Int) (w : World) (ho : w.ownsRow B0 2 1 (.slice (some ⟨g, 0, none⟩) n cap) n (L.map (Value.int .i64))) (hbd : n ≤ 1000000000) :
    Calls Tryz.prog 20 #[.slice (some ⟨g, 0, none⟩) n cap] w fun e w' => NewRow w w' e (ordL L) := by
  have mixed := mixedO
  obtain ⟨i0, hi, hz0, hz1, hz2⟩ := info_parts info2
  have hn : n = L.length := by have := ho.1; simp at this; exact this.symm
  have HO := hide (ownsRow_below ho (one_below w (.cells #[] 2)))
  have D0 : Hid ((w.alloc (.cells #[] 2)).ownsRow w.heap.size 2 1 (.slice (some ⟨w.heap.size, 0, none⟩) 0 0) 0 []) := hide (World.ownsRow_lit w #[] 0 (Nat.le_refl _) (by unfold maxLen; omega) rfl)
  have HN := hide hn
  clear ho hn
  go_enter Tryz.func20, Tryz.ntmps20
  go_wp2_with (at_builtin; refine wpList_append_own _ rfl _ _ 27 rfl w.heap.size 2 i0 (.int .i64 0) 1 8 Tryz.underlying27 hi hz0 hz1 hz2 rfl (by decide) _ _ _ rfl (unhide D0) ⟨g, 0, none⟩ n cap (L.map (Value.int .i64)) rfl ?c0 ?c1 ?c2 ?c3 ?c4 ?c5 ?_)
  case c0 => simp; exact (unhide HN).symm
  case c1 =>
    intro m x hx
    rw [addr_add, Nat.zero_add]
    have hm : m < L.length := by
      have := (List.getElem?_eq_some_iff.1 hx).1
      simpa using this
    rw [(unhide HO).cellAt m (by have := unhide HN; omega)]
    exact hx
  case c2 =>
    intro x hx
    obtain ⟨z, _, rfl⟩ := List.mem_map.1 hx
    rfl
  case c3 => unfold maxLen; omega
  case c4 => omega
  case c5 => simp
  intro v' w1 hown' hgrow hnone
  have B1 : Hid (Below w.heap.size w w1) := hide ((one_below w (.cells #[] 2)).grown hgrow (by simp) (fun m hm => by cases hm; exact Nat.le_refl _))
  obtain ⟨g1, c1, rfl⟩ : ∃ g1 c1, v' = .slice (some ⟨g1, 0, none⟩) n c1 := by
    rcases hown'.2 with ⟨h1, _⟩ | ⟨g1, c1, _, hv, _⟩
    · exact (hnone h1).elim
    · exact ⟨g1, c1, hv⟩
  obtain ⟨Bq, sg, hg1, hc1, hc2, hc3, hc4⟩ := own_seg hown'
  have I0 : Hid (OSs w1 w1 g1 Bq L 0) := hide sg
  have HF : Hid (∀ W, OSs w1 W g1 Bq L n → NewRow w W (.returned (.slice (some ⟨g1, 0, none⟩) n c1)) (ordL L)) := hide (fun W h => by
    unfold OSs at h
    rw [unhide HN, List.take_length, List.drop_length, List.append_nil] at h
    refine ⟨_, rfl, ?_, (unhide B1).trans (h.below (unhide B1).size hg1)⟩
    rw [ordL_len, ← unhide HN]
    exact seg_own h hg1 (by rw [ordL_len]; exact unhide HN) hc4 hc2)
  clear hown' hgrow hnone sg hc1 hc2 hc3 hc4 HO D0 hg1 B1
  go_wp2
  go_loopw [4] (fun iv wr => ∃ i : Nat, i ≤ n ∧ iv = .int .i64 i ∧ Hid (OSs w1 wr g1 Bq L i)) (fun iv _ => n - (intOf iv).toNat)
  case atStart => exact ⟨0, Nat.zero_le _, rfl, I0⟩
  case round =>
    obtain ⟨i, hin, rfl, I1⟩ := hrel
    clear I0
    by_cases hlt : i < n
    · have hlt' : (i : Int) < (n : Int) := by omega
      have hiL : i < L.length := by have := unhide HN; omega
      have c := (unhide I1).cell hiL
      have CM := hide (fun x W => clsS x W)
      by_cases hz : clsZ (nth L i) = 0
      · have F2 := hide ((unhide I1).zero hiL hz)
        have CM0 := hide (fun W => clsS (nth L i) W)
        rw [hz] at CM0
        clear I1 hz hiL CM
        generalize nth L i = x at *
        go_wp2_with fail
        refine ((unhide CM0) _).mono ?_
        rintro e' w2 ⟨rfl, rfl⟩
        clear CM0 c
        go_wp2
        go_roundw
        case rel => exact ⟨i + 1, by omega, by go_num, F2⟩
        case measure => simp [intOf]; omega
      · have hz' : (clsZ (nth L i) == 0) = false := by rw [beq_eq_false_iff_ne]; exact hz
        have hlo : (ordL (L.take i)).length = i := by rw [ordL_len, List.length_take]; omega
        have J0 : Hid (∃ Z1 Z2 : List Int, Z1.length = i ∧ Z1 ++ Z2 = ordL (L.take i) ∧ (∀ z ∈ Z2, clsLt (nth L i) z = true) ∧ Seg w1 wr g1 [] (Z1 ++ nth L i :: (Z2 ++ L.drop (i + 1))) Bq) := hide ⟨ordL (L.take i), [], hlo, by simp, by simp, by
          have := unhide I1
          unfold OSs at this
          rw [(ord_take hiL).2] at this
          simpa using this⟩
        have HF2 : Hid (∀ W (Z1 Z2 : List Int), Z1 ++ Z2 = ordL (L.take i) → (∀ z ∈ Z2, clsLt (nth L i) z = true) → (Z1 = [] ∨ ∃ Z z, Z1 = Z ++ [z] ∧ clsLt (nth L i) z = false) → Seg w1 W g1 [] (Z1 ++ nth L i :: (Z2 ++ L.drop (i + 1))) Bq → OSs w1 W g1 Bq L (i + 1)) := hide (fun W Z1 Z2 e h2 h1 s => by
          unfold OSs
          rw [(ord_take hiL).1, ordL_snoc, ← e, insO_at hz h2 h1]
          simpa [List.append_assoc] using s)
        have HLen : Hid (∀ Z1 Z2 : List Int, Z1 ++ Z2 = ordL (L.take i) → (Z1 ++ nth L i :: (Z2 ++ L.drop (i + 1))).length = n) := hide (fun Z1 Z2 e => by
          have e1 := congrArg List.length e
          rw [hlo] at e1
          have := unhide HN
          simp only [List.length_append, List.length_cons, List.length_drop] at e1 ⊢
          omega)
        have CM0 := hide (fun W => clsS (nth L i) W)
        have HE : Hid (clsZ (nth L i) = clsZ (nth L i)) := hide rfl
        obtain ⟨zx, hzx⟩ : ∃ zx, clsZ (nth L i) = zx := ⟨_, rfl⟩
        rw [hzx] at CM0 hz'
        have HZ := hide hzx
        clear I1 hz hiL hlo HE hzx
        generalize nth L i = x at *
        generalize L.drop (i + 1) = R at *
        generalize ordL (L.take i) = Z at *
        go_wp2_with fail
        refine ((unhide CM0) _).mono ?_
        rintro e' w2 ⟨rfl, rfl⟩
        clear CM0 c
        go_wp2
        go_loopw [5] (fun kv wr => ∃ q : Nat, q ≤ i ∧ kv = .int .i64 q ∧ Hid (∃ Z1 Z2 : List Int, Z1.length = q ∧ Z1 ++ Z2 = Z ∧ (∀ z ∈ Z2, clsLt x z = true) ∧ Seg w1 wr g1 [] (Z1 ++ x :: (Z2 ++ R)) Bq)) (fun kv _ => (intOf kv).toNat)
        case atStart => exact ⟨i, Nat.le_refl _, rfl, J0⟩
        case round =>
          obtain ⟨q, hq, rfl, HJ⟩ := hrel
          clear J0
          obtain ⟨Z1, Z2, l1, e1, h2, s1⟩ := unhide HJ
          by_cases hq0 : q = 0
          · have z0 : Z1 = [] := List.length_eq_zero_iff.1 (by omega)
            have G2 := hide (fun m => (unhide HF2) (wr.drewN m) Z1 Z2 e1 h2 (.inl z0) (s1.drewN m))
            subst hq0
            clear HJ s1 h2 e1 l1 HF2 HLen
            go_wp2_with fail
            go_quiet (first | (go_at_call 44; refine Calls.quiet_of_same ((unhide CM) _ _)))
            have G3 := hide ((unhide G2) nq)
            clear G2
            generalize wr.drewN nq = w2 at *
            go_wp2
            go_roundw
            case rel => exact ⟨i + 1, by omega, by go_num, G3⟩
            case measure => simp [intOf]; omega
          · obtain ⟨Z1', z, rfl⟩ : ∃ Z1' z, Z1 = Z1' ++ [z] := ⟨Z1.dropLast, Z1.getLast (fun h => hq0 (by rw [← l1, h]; rfl)), (List.dropLast_concat_getLast _).symm⟩
            obtain ⟨r, rfl⟩ : ∃ r : Nat, q = r + 1 := ⟨q - 1, by omega⟩
            have hjd : decide ((r : Int) + 1 > 0) = true := decide_eq_true (by omega)
            have hjz : (0 : Int) < (r : Int) + 1 := by omega
            have hlen := (unhide HLen) _ _ e1
            have l1' : Z1'.length = r := by simpa using l1
            obtain ⟨j, hj⟩ : ∃ j : Nat, j = r + 1 := ⟨_, rfl⟩
            have ej : j = (Z1' ++ [z]).length := by omega
            have e2 : (Z1' ++ [z]) ++ x :: (Z2 ++ R) = Z1' ++ z :: ([] ++ x :: (Z2 ++ R)) := by simp [List.append_assoc]
            have nx : nth ((Z1' ++ [z]) ++ x :: (Z2 ++ R)) j = x := nth_at _ _ _ _ ej
            have nz : nth ((Z1' ++ [z]) ++ x :: (Z2 ++ R)) r = z := by rw [e2]; exact nth_at _ _ _ _ l1'.symm
            have ea : ((r : Int) + 1).toNat = j := by omega
            have pa : (0 : Int) ≤ (r : Int) + 1 := by omega
            have ba : (r : Int) + 1 < (n : Int) := by omega
            have ra : IntKind.i64.wrap ((r : Int) + 1) = (r : Int) + 1 := wrap_in _ (by omega) (by omega)
            have bb : (r : Int) < (n : Int) := by omega
            have rb : IntKind.i64.wrap (r : Int) = (r : Int) := wrap_in _ (by omega) (by omega)
            have cj := s1.cell0 j (by omega)
            have cr := s1.cell0 r (by omega)
            rw [nx] at cj
            rw [nz] at cr
            have HX := unhide HZ
            cases hlt3 : clsLt x z with
            | false =>
              have hcz : ¬ clsZ x < clsZ z := of_decide_eq_false hlt3
              have G2 := hide (fun m => (unhide HF2) (wr.drewN m) _ Z2 e1 h2 (.inr ⟨Z1', z, rfl, hlt3⟩) (s1.drewN m))
              have CX := hide (fun W => clsS x W)
              have CZ := hide (fun W => clsS z W)
              clear HJ s1 h2 e1 l1 HF2 HLen nx nz ej e2 hlen l1' hlt3 hj HZ HX CM
              generalize clsZ x = cx at *
              generalize clsZ z = cz at *
              go_wp2_with fail
              go_quiet (first | (go_at_call_of 44 x; refine Calls.quiet_of_same ((unhide CX) _)) | (go_at_call_of 44 z; refine Calls.quiet_of_same ((unhide CZ) _)))
              have G3 := hide ((unhide G2) nq)
              clear G2 cj cr
              generalize wr.drewN nq = w2 at *
              go_wp2
              go_roundw
              case rel => exact ⟨i + 1, by omega, by go_num, G3⟩
              case measure => simp [intOf]; omega
            | true =>
              have hcz : clsZ x < clsZ z := of_decide_eq_true hlt3
              have h2' : ∀ u ∈ z :: Z2, clsLt x u = true := fun u hu => by
                rcases List.mem_cons.1 hu with rfl | hu
                · exact hlt3
                · exact h2 u hu
              have hsw : (((Z1' ++ [z]) ++ x :: (Z2 ++ R)).set j z).set r x = Z1' ++ x :: ((z :: Z2) ++ R) := by
                have e3 : swapL ((Z1' ++ [z]) ++ x :: (Z2 ++ R)) j r = Z1' ++ x :: ((z :: Z2) ++ R) := by
                  rw [swapL_comm _ _ _ (by omega), e2, swap_app _ _ _ _ _ _ _ l1'.symm (by rw [ej]; simp)]
                  simp
                unfold swapL at e3
                rw [nx, nz] at e3
                exact e3
              have G2 := hide (fun m => s1.drewN m)
              have GJ : Hid (∀ W, Seg w1 W g1 [] (Z1' ++ x :: ((z :: Z2) ++ R)) Bq → ∃ Z1 Z2 : List Int, Z1.length = r ∧ Z1 ++ Z2 = Z ∧ (∀ z ∈ Z2, clsLt x z = true) ∧ Seg w1 W g1 [] (Z1 ++ x :: (Z2 ++ R)) Bq) := hide (fun W s => ⟨Z1', z :: Z2, l1', by rw [← e1]; simp, h2', s⟩)
              rw [← hsw] at GJ
              have hlj : j < ((Z1' ++ [z]) ++ x :: (Z2 ++ R)).length := by omega
              have hlr : r < ((Z1' ++ [z]) ++ x :: (Z2 ++ R)).length := by omega
              have CX := hide (fun W => clsS x W)
              have CZ := hide (fun W => clsS z W)
              clear HJ s1 h2 e1 l1 ej e2 hlen l1' hlt3 h2' hsw HZ HX CM
              generalize (Z1' ++ [z]) ++ x :: (Z2 ++ R) = X at *
              have HNX := hide nx
              have HNZ := hide nz
              have Hlj := hide hlj
              have Hlr := hide hlr
              have hjr : j ≠ r := by omega
              clear nx nz hlj hlr
              generalize hcx : clsZ x = cx at *
              generalize hcz2 : clsZ z = cz at *
              clear hcx hcz2 hj
              go_wp2_with fail
              go_quiet (first | (go_at_call_of 44 x; refine Calls.quiet_of_same ((unhide CX) _)) | (go_at_call_of 44 z; refine Calls.quiet_of_same ((unhide CZ) _)))
              have s2 := (unhide G2) nq
              have cj' : (wr.drewN nq).cell? ⟨g1, j, none⟩ = some (.int .i64 x) := by rw [s2.cell0 j (unhide Hlj), unhide HNX]
              have cr' : (wr.drewN nq).cell? ⟨g1, r, none⟩ = some (.int .i64 z) := by rw [s2.cell0 r (unhide Hlr), unhide HNZ]
              have fj' := s2.frozen0 j
              have fr' := s2.frozen0 r
              have S3 := hide ((unhide GJ) _ ((s2.set0 j (unhide Hlj) z).set0 r (by rw [List.length_set]; exact unhide Hlr) x))
              clear G2 cj cr s2 CX CZ
              generalize wr.drewN nq = w2 at *
              go_wp2_with fail
              go_roundw
              case rel => exact ⟨r, by omega, rfl, S3⟩
              case measure => simp [intOf]
    · obtain rfl : i = n := by omega
      have hlt' : ¬ (i : Int) < (i : Int) := by omega
      go_wp2
      go_ret
      exact (unhide HF) _ (unhide I1)
end Go.Proofs.YtamigjljgepfiaaGreatDoor
