/- The parts of a point, as the specification tells them. -/
import Derived.Test.YtnfdkcphmolkiaaPrtJ
import Derived.RegionTactic
namespace Go.Proofs.Ytnfdkcphmolkiaa
open Go.RowKit
theorem row0 (w : World) {l : List Int} (h : l = []) : (w.alloc (.cells #[] 2)).ownsRow w.heap.size 2 1 (.slice (some ⟨w.heap.size, 0, none⟩) 0 0) l.length (l.map (Value.int .i64)) := by
  subst h
  exact World.ownsRow_lit w #[] 0 (Nat.le_refl _) (by unfold maxLen; omega) rfl
theorem row1 (w : World) {l : List Int} {a : Int} (h : l = [a]) : (w.alloc (.cells #[.int .i64 a] 2)).ownsRow w.heap.size 2 1 (.slice (some ⟨w.heap.size, 0, none⟩) 1 1) l.length (l.map (Value.int .i64)) := by
  subst h
  exact World.ownsRow_lit w #[.int .i64 a] 1 (Nat.le_refl _) (by unfold maxLen; omega) rfl
theorem row2 (w : World) {l : List Int} {a b : Int} (h : l = [a, b]) : (w.alloc (.cells #[.int .i64 a, .int .i64 b] 2)).ownsRow w.heap.size 2 1 (.slice (some ⟨w.heap.size, 0, none⟩) 2 2) l.length (l.map (Value.int .i64)) := by
  subst h
  exact World.ownsRow_lit w #[.int .i64 a, .int .i64 b] 2 (Nat.le_refl _) (by unfold maxLen; omega) rfl
theorem letterS (i : Int) (w : World) (h : 0 ≤ i ∧ i ≤ 51) : Calls Try.prog 100 #[.int .i64 i] w fun e w' => e = .returned (.int .i64 (letterZ i)) ∧ w' = w := by
  by_cases hi : i < 26
  · have e : letterZ i = 65 + i := if_pos hi
    rw [e]
    go_enter Try.func100, Try.ntmps100
    go_wp2
    go_ret
    exact ⟨rfl, rfl⟩
  · have e : letterZ i = 97 + i - 26 := if_neg hi
    rw [e]
    go_enter Try.func100, Try.ntmps100
    go_wp2
    go_ret
    exact ⟨rfl, rfl⟩
/-- A row of numbers, new. -/
def NewRow (w w' : World) (e : Ending) (l : List Int) : Prop := ∃ v, e = .returned v ∧ w'.ownsRow w.heap.size 2 1 v l.length (l.map (Value.int .i64)) ∧ Below w.heap.size w w'
set_option maxHeartbeats 2000000 in
set_option maxRecDepth 100000 in
theorem wideS (p : Int) (w : World) (hb : 0 ≤ p ∧ p ≤ 1114111) : Calls Try.prog 101 #[.int .i64 p] w fun e w' => NewRow w w' e (wideZ p) := by
  by_cases c1 : 9984 ≤ p ∧ p ≤ 10009
  · have HP : Hid (wideZ p = [p - 9984 + 65]) := hide (by unfold wideZ; rw [if_pos c1])
    go_enter Try.func101, Try.ntmps101
    go_wp2
    go_ret
    exact ⟨_, rfl, row1 w (unhide HP), one_below _ _⟩
  by_cases c2 : 10016 ≤ p ∧ p ≤ 10025
  · have HP : Hid (wideZ p = [p - 10016 + 48]) := hide (by unfold wideZ; rw [if_neg c1, if_pos c2])
    have n1 : ¬ p ≤ 10009 := by omega
    go_enter Try.func101, Try.ntmps101
    go_wp2
    go_ret
    exact ⟨_, rfl, row1 w (unhide HP), one_below _ _⟩
  by_cases d1 : p = 8064
  · subst d1
    go_enter Try.func101, Try.ntmps101
    go_wp2
    go_ret
    exact ⟨_, rfl, row1 w (by decide), one_below _ _⟩
  by_cases d2 : p = 160
  · subst d2
    go_enter Try.func101, Try.ntmps101
    go_wp2
    go_ret
    exact ⟨_, rfl, row1 w (by decide), one_below _ _⟩
  by_cases d3 : p = 10032
  · subst d3
    go_enter Try.func101, Try.ntmps101
    go_upto_region 9 with fail
    go_region
    all_goals
      go_wp2
      go_ret
      exact ⟨_, rfl, row2 _ (by kernel_rfl), (one_below _ _).trans ⟨rfl, rfl, rfl, Nat.le_refl _, fun _ _ => rfl⟩⟩
  by_cases d4 : p = 10033
  · subst d4
    go_enter Try.func101, Try.ntmps101
    go_upto_region 9 with fail
    go_region
    all_goals
      go_wp2
      go_ret
      exact ⟨_, rfl, row2 _ (by kernel_rfl), (one_below _ _).trans ⟨rfl, rfl, rfl, Nat.le_refl _, fun _ _ => rfl⟩⟩
  by_cases d5 : p = 10034
  · subst d5
    go_enter Try.func101, Try.ntmps101
    go_upto_region 9 with fail
    go_region
    all_goals
      go_wp2
      go_ret
      exact ⟨_, rfl, row2 _ (by kernel_rfl), (one_below _ _).trans ⟨rfl, rfl, rfl, Nat.le_refl _, fun _ _ => rfl⟩⟩
  by_cases d6 : p = 10035
  · subst d6
    go_enter Try.func101, Try.ntmps101
    go_upto_region 9 with fail
    go_region
    all_goals
      go_wp2
      go_ret
      exact ⟨_, rfl, row2 _ (by kernel_rfl), (one_below _ _).trans ⟨rfl, rfl, rfl, Nat.le_refl _, fun _ _ => rfl⟩⟩
  have HP : Hid (wideZ p = []) := hide (by
    unfold wideZ
    rw [if_neg c1, if_neg c2, if_neg (by omega), if_neg d3, if_neg d4, if_neg d5, if_neg d6])
  have t1 : (p == 8064) = false := by simpa using d1
  have t2 : (p == 160) = false := by simpa using d2
  by_cases a1 : 9984 ≤ p
  · have n1 : ¬ p ≤ 10009 := by omega
    by_cases a2 : 10016 ≤ p
    · have n2 : ¬ p ≤ 10025 := by omega
      by_cases a3 : 10032 ≤ p
      · have n3 : ¬ p ≤ 10035 := by omega
        go_enter Try.func101, Try.ntmps101
        go_wp2
        go_ret
        exact ⟨_, rfl, row0 w (unhide HP), one_below _ _⟩
      · go_enter Try.func101, Try.ntmps101
        go_wp2
        go_ret
        exact ⟨_, rfl, row0 w (unhide HP), one_below _ _⟩
    · have a3 : ¬ 10032 ≤ p := by omega
      go_enter Try.func101, Try.ntmps101
      go_wp2
      go_ret
      exact ⟨_, rfl, row0 w (unhide HP), one_below _ _⟩
  · have a2 : ¬ 10016 ≤ p := by omega
    have a3 : ¬ 10032 ≤ p := by omega
    go_enter Try.func101, Try.ntmps101
    go_wp2
    go_ret
    exact ⟨_, rfl, row0 w (unhide HP), one_below _ _⟩
end Go.Proofs.Ytnfdkcphmolkiaa
