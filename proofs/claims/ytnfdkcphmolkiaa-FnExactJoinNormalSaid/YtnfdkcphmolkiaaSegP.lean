/- A row of numbers in the midst of a block; its numbers exchanged. -/
import Derived.Test.YtnfdkcphmolkiaaPrtJ
import Derived.Test.YtnfdkcphmolkiaaStbP
import Derived.Shelf.RegionOpenPlain
import Derived.Maps.AppendAt
import Derived.Laws.Rows
namespace Go.Proofs.Ytnfdkcphmolkiaa
open Go.RowKit
theorem mixedO : Try.prog.follows Departure.mixedOrders = true := by kernel_rfl
/-- Two numbers exchanged. -/
def swapL (X : List Int) (i j : Nat) : List Int := (X.set i (nth X j)).set j (nth X i)
theorem swapL_len (X : List Int) (i j : Nat) : (swapL X i j).length = X.length := by simp [swapL]
theorem nth_app (P Q : List Int) (x : Int) : nth (P ++ x :: Q) P.length = x := by simp [nth, List.getD]
theorem nth_at (P Q : List Int) (x : Int) (i : Nat) (h : i = P.length) : nth (P ++ x :: Q) i = x := by subst h; exact nth_app P Q x
theorem swap_app (P M Q : List Int) (x y : Int) (i j : Nat) (hi : i = P.length) (hj : j = P.length + 1 + M.length) : swapL (P ++ x :: (M ++ y :: Q)) i j = P ++ y :: (M ++ x :: Q) := by
  subst hi
  have e1 : nth (P ++ x :: (M ++ y :: Q)) P.length = x := nth_app _ _ _
  have e2 : P ++ x :: (M ++ y :: Q) = (P ++ x :: M) ++ y :: Q := by simp
  have e3 : nth (P ++ x :: (M ++ y :: Q)) j = y := by
    rw [e2]
    exact nth_at _ _ _ _ (by rw [hj]; simp; omega)
  unfold swapL
  rw [e1, e3]
  have e4 : (P ++ x :: (M ++ y :: Q)).set P.length y = (P ++ y :: M) ++ y :: Q := by
    rw [List.set_append_right _ _ (Nat.le_refl _)]
    simp
  rw [e4]
  have e5 : j = (P ++ y :: M).length := by rw [hj]; simp; omega
  rw [e5, List.set_append_right _ _ (Nat.le_refl _)]
  simp
theorem swapL_comm (X : List Int) (i j : Nat) (h : i ≠ j) : swapL X i j = swapL X j i := by
  unfold swapL
  rw [List.set_comm _ _ h]
/-- Block g holds just these values; all else is as it was. -/
structure Seg (w0 w : World) (g : Nat) (A : List Value) (X : List Int) (B : List Value) : Prop where
  fu : w.heap[g]? = some (.cells (A ++ X.map (Value.int .i64) ++ B).toArray 2 (0, 0))
  gr : w0.grownBy w (some g)
theorem Seg.lt {w0 w : World} {g : Nat} {A B : List Value} {X : List Int} (h : Seg w0 w g A X B) : g < w.heap.size := (Array.getElem?_eq_some_iff.1 h.fu).1
theorem Seg.cell {w0 w : World} {g : Nat} {A B : List Value} {X : List Int} (h : Seg w0 w g A X B) (i : Nat) (hi : i < X.length) : w.cell? ⟨g, A.length + i, none⟩ = some (.int .i64 (nth X i)) := by
  simp [World.cell?, h.fu]
  rw [List.getElem?_append_right (by omega)]
  simp [List.getElem?_append_left, hi, nth, List.getD]
theorem Seg.frozen {w0 w : World} {g : Nat} {A B : List Value} {X : List Int} (h : Seg w0 w g A X B) (i : Nat) : w.frozen? ⟨g, A.length + i, none⟩ = false := by
  simp [World.frozen?, h.fu]
theorem Seg.drew {w0 w : World} {g : Nat} {A B : List Value} {X : List Int} (h : Seg w0 w g A X B) : Seg w0 w.drew g A X B := ⟨h.fu, h.gr.trans ⟨rfl, rfl, rfl, Nat.le_refl _, fun _ _ _ => rfl⟩⟩
theorem Seg.drewN {w0 w : World} {g : Nat} {A B : List Value} {X : List Int} (h : Seg w0 w g A X B) (n : Nat) : Seg w0 (w.drewN n) g A X B := ⟨h.fu, h.gr.trans ⟨rfl, rfl, rfl, Nat.le_refl _, fun _ _ _ => rfl⟩⟩
theorem Seg.set {w0 w : World} {g : Nat} {A B : List Value} {X : List Int} (h : Seg w0 w g A X B) (i : Nat) (hi : i < X.length) (x : Int) : Seg w0 (w.setCell ⟨g, A.length + i, none⟩ (.int .i64 x)) g A (X.set i x) B := by
  refine ⟨?_, grown_set h.gr⟩
  rw [heap_setCell_same _ _ _ _ _ _ h.fu]
  congr 2
  rw [List.setIfInBounds_toArray]
  congr 1
  rw [List.set_append_left _ _ (by simp; omega), List.set_append_right _ _ (by omega)]
  congr 2
  rw [Nat.add_sub_cancel_left, List.map_set]
/-- Two numbers exchanged, in memory. -/
theorem Seg.swap {w0 w : World} {g : Nat} {A B : List Value} {X : List Int} (h : Seg w0 w g A X B) (i j : Nat) (hi : i < X.length) (hj : j < X.length) :
    Seg w0 ((w.setCell ⟨g, A.length + i, none⟩ (.int .i64 (nth X j))).setCell ⟨g, A.length + j, none⟩ (.int .i64 (nth X i))).drew g A (swapL X i j) B :=
  (((h.set i hi (nth X j)).set j (by simpa using hj) (nth X i))).drew
theorem Seg.second {w0 w : World} {g : Nat} {A B : List Value} {X : List Int} (h : Seg w0 w g A X B) (i j : Nat) (hi : i < X.length) (hj : j < X.length) (x : Int) : ∃ u, (w.setCell ⟨g, A.length + i, none⟩ (.int .i64 x)).cell? ⟨g, A.length + j, none⟩ = some u :=
  ⟨_, (h.set i hi x).cell j (by simpa using hj)⟩
/-- All that a walk over an exchange asks. -/
theorem Seg.swp {w0 w : World} {g : Nat} {A B : List Value} {X X' : List Int} {p q : Nat} {x y : Int} (S : Seg w0 w g A X B) (hp : p < X.length) (hq : q < X.length) (hx : nth X p = x) (hy : nth X q = y) (hX : swapL X p q = X') :
    w.cell? ⟨g, A.length + p, none⟩ = some (.int .i64 x) ∧ w.cell? ⟨g, A.length + q, none⟩ = some (.int .i64 y) ∧ w.frozen? ⟨g, A.length + p, none⟩ = false ∧ w.frozen? ⟨g, A.length + q, none⟩ = false ∧
    (∃ u, (w.setCell ⟨g, A.length + p, none⟩ (.int .i64 y)).cell? ⟨g, A.length + q, none⟩ = some u) ∧ Seg w0 ((w.setCell ⟨g, A.length + p, none⟩ (.int .i64 y)).setCell ⟨g, A.length + q, none⟩ (.int .i64 x)).drew g A X' B := by
  subst hx hy hX
  exact ⟨S.cell p hp, S.cell q hq, S.frozen p, S.frozen q, S.second p q hp hq _, S.swap p q hp hq⟩
theorem Seg.start {w : World} {g : Nat} {A B : List Value} {X : List Int} (h : w.heap[g]? = some (.cells (A ++ X.map (Value.int .i64) ++ B).toArray 2 (0, 0))) : Seg w w g A X B := ⟨h, grown_refl _ _⟩
theorem Seg.trans {w0 w w' : World} {g : Nat} {A B : List Value} {X Y : List Int} (h : Seg w0 w g A X B) (k : Seg w w' g A Y B) : Seg w0 w' g A Y B := ⟨k.fu, h.gr.trans k.gr⟩
theorem Seg.self {w0 w : World} {g : Nat} {A B : List Value} {X : List Int} (h : Seg w0 w g A X B) : Seg w w g A X B := ⟨h.fu, grown_refl _ _⟩
end Go.Proofs.Ytnfdkcphmolkiaa
