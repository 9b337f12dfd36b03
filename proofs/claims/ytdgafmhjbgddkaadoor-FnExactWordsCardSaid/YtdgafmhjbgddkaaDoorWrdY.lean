/- A place of the row of points that stand alone, as the program makes it. -/
import Derived.Test.YtdgafmhjbgddkaaDoorWrdW
namespace Go.Proofs.YtdgafmhjbgddkaaDoor
namespace Wrd
open Go.RowKit
open Chr (bel1)
/-- The point at the place that stands k-th in a row of places. -/
def ptA (L A : List Int) (k : Nat) : Int := nth L (nth A k).toNat
def wplA (L A : List Int) (i : Nat) : WPl := ⟨if 2 ≤ i then ptA L A (i - 2) else -1, if 1 ≤ i then ptA L A (i - 1) else -1, ptA L A i, if i + 1 < A.length then ptA L A (i + 1) else -1, false⟩
/-- Places within a row of points. -/
def InL (L A : List Int) : Prop := ∀ k, k < A.length → 0 ≤ nth A k ∧ nth A k < (L.length : Int)
theorem rd2 {w : World} {b off : Nat} {L A : List Int} (hc : ∀ i, i < L.length → w.cell? ⟨b, off + i, none⟩ = some (.int .i64 (nth L i))) (hA : InL L A) {k : Nat} (hk : k < A.length) :
    ∃ q : Nat, nth A k = (q : Int) ∧ (q : Int) < (L.length : Int) ∧ w.cell? ⟨b, off + q, none⟩ = some (.int .i64 (ptA L A k)) := by
  obtain ⟨h0, h1⟩ := hA k hk
  refine ⟨(nth A k).toNat, by omega, by omega, ?_⟩
  exact hc _ (by omega)
set_option maxRecDepth 100000 in
set_option maxHeartbeats 8000000 in
theorem placeB (vl va : Value) (L A : List Int) (i : Nat) (w : World) (hl : IntsAt w vl L) (ha : IntsAt w va A) (hi : i < A.length) (hA : InL L A) (hn : A.length ≤ 1048576) :
    Calls Tryd.prog 39 #[vl, va, .int .i64 (i : Int)] w fun e w' => e = .returned (wpV (wplA L A i)) ∧ Below w.heap.size w w' := by
  have hL0 : 0 < L.length := by have := hA i hi; omega
  obtain ⟨b, off, cap, rfl, hbs, hc⟩ := ints_at hl hL0
  obtain ⟨b2, off2, cap2, rfl, hbs2, hc2⟩ := ints_at ha (by omega)
  clear hl ha
  have hb0 := hbs
  have ne1 : b ≠ w.heap.size := by omega
  have ne2 : b ≠ w.heap.size + 1 := by omega
  have ne3 : b2 ≠ w.heap.size := by omega
  have ne4 : b2 ≠ w.heap.size + 1 := by omega
  have c1 := hc2 i hi
  obtain ⟨q, eq, hq, c2⟩ := rd2 hc hA hi
  rw [eq] at c1
  have i1 : (i : Int) < (A.length : Int) := by omega
  have HP : Hid (wplA L A i = ⟨if 2 ≤ i then ptA L A (i - 2) else -1, if 1 ≤ i then ptA L A (i - 1) else -1, ptA L A i, if i + 1 < A.length then ptA L A (i + 1) else -1, false⟩) := hide rfl
  generalize wplA L A i = R at *
  generalize ptA L A i = r at *
  have hw1 : IntKind.i64.wrap ((i : Int) + 1) = (i : Int) + 1 := wrapN (i + 1) (by omega)
  clear eq
  by_cases hx : i + 1 < A.length
  · have hx' : (i : Int) + 1 < (A.length : Int) := by omega
    have hx0 : (0 : Int) ≤ (i : Int) + 1 := by omega
    have ht : ((i : Int) + 1).toNat = i + 1 := by omega
    have d1 := hc2 (i + 1) hx
    obtain ⟨q2, eq2, hq2, d2⟩ := rd2 hc hA hx
    rw [eq2] at d1
    rw [if_pos hx] at HP
    generalize ptA L A (i + 1) = h at *
    clear eq2
    by_cases h1 : 1 ≤ i
    · have g0 : (0 : Int) < (i : Int) := by omega
      have w1 : IntKind.i64.wrap ((i : Int) - 1) = (i : Int) - 1 := by rw [show (i : Int) - 1 = ((i - 1 : Nat) : Int) by omega]; exact wrapN (i - 1) (by omega)
      have p1 : (0 : Int) ≤ (i : Int) - 1 := by omega
      have l1 : (i : Int) - 1 < (A.length : Int) := by omega
      have t1 : ((i : Int) - 1).toNat = i - 1 := by omega
      have e1 := hc2 (i - 1) (by omega)
      obtain ⟨q3, eq3, hq3, e2⟩ := rd2 hc hA (show i - 1 < A.length by omega)
      rw [eq3] at e1
      rw [if_pos h1] at HP
      generalize ptA L A (i - 1) = l at *
      clear eq3
      by_cases h2 : 2 ≤ i
      · have g1 : (1 : Int) < (i : Int) := by omega
        have w2 : IntKind.i64.wrap ((i : Int) - 2) = (i : Int) - 2 := by rw [show (i : Int) - 2 = ((i - 2 : Nat) : Int) by omega]; exact wrapN (i - 2) (by omega)
        have p2 : (0 : Int) ≤ (i : Int) - 2 := by omega
        have l2 : (i : Int) - 2 < (A.length : Int) := by omega
        have t2 : ((i : Int) - 2).toNat = i - 2 := by omega
        have f1 := hc2 (i - 2) (by omega)
        obtain ⟨q4, eq4, hq4, f2⟩ := rd2 hc hA (show i - 2 < A.length by omega)
        rw [eq4] at f1
        rw [if_pos h2] at HP
        generalize ptA L A (i - 2) = k at *
        clear eq4 hc hc2
        go_enter Tryd.func39, Tryd.ntmps39
        go_wp2
        refine bodyPost_ret (by simp [results, Tryd.results39, go_sem]; try rfl) rfl ?_
        refine ⟨by rw [unhide HP]; rfl, ?_⟩
        repeat' first
          | exact Below.refl _ _
          | (refine Below.setCell ?_ (by simp <;> omega) _)
          | (refine Below.alloc ?_ (by simp <;> omega) _)
      · have g1 : ¬ ((1 : Int) < (i : Int)) := by omega
        rw [if_neg h2] at HP
        clear hc hc2
        go_enter Tryd.func39, Tryd.ntmps39
        go_wp2
        refine bodyPost_ret (by simp [results, Tryd.results39, go_sem]; try rfl) rfl ?_
        refine ⟨by rw [unhide HP]; rfl, ?_⟩
        repeat' first
          | exact Below.refl _ _
          | (refine Below.setCell ?_ (by simp <;> omega) _)
          | (refine Below.alloc ?_ (by simp <;> omega) _)
    · have g0 : ¬ ((0 : Int) < (i : Int)) := by omega
      have g1 : ¬ ((1 : Int) < (i : Int)) := by omega
      rw [if_neg h1, if_neg (by omega)] at HP
      clear hc hc2
      go_enter Tryd.func39, Tryd.ntmps39
      go_wp2
      refine bodyPost_ret (by simp [results, Tryd.results39, go_sem]; try rfl) rfl ?_
      refine ⟨by rw [unhide HP]; rfl, ?_⟩
      repeat' first
        | exact Below.refl _ _
        | (refine Below.setCell ?_ (by simp <;> omega) _)
        | (refine Below.alloc ?_ (by simp <;> omega) _)
  · have hx' : ¬ ((i : Int) + 1 < (A.length : Int)) := by omega
    rw [if_neg hx] at HP
    by_cases h1 : 1 ≤ i
    · have g0 : (0 : Int) < (i : Int) := by omega
      have w1 : IntKind.i64.wrap ((i : Int) - 1) = (i : Int) - 1 := by rw [show (i : Int) - 1 = ((i - 1 : Nat) : Int) by omega]; exact wrapN (i - 1) (by omega)
      have p1 : (0 : Int) ≤ (i : Int) - 1 := by omega
      have l1 : (i : Int) - 1 < (A.length : Int) := by omega
      have t1 : ((i : Int) - 1).toNat = i - 1 := by omega
      have e1 := hc2 (i - 1) (by omega)
      obtain ⟨q3, eq3, hq3, e2⟩ := rd2 hc hA (show i - 1 < A.length by omega)
      rw [eq3] at e1
      rw [if_pos h1] at HP
      generalize ptA L A (i - 1) = l at *
      clear eq3
      by_cases h2 : 2 ≤ i
      · have g1 : (1 : Int) < (i : Int) := by omega
        have w2 : IntKind.i64.wrap ((i : Int) - 2) = (i : Int) - 2 := by rw [show (i : Int) - 2 = ((i - 2 : Nat) : Int) by omega]; exact wrapN (i - 2) (by omega)
        have p2 : (0 : Int) ≤ (i : Int) - 2 := by omega
        have l2 : (i : Int) - 2 < (A.length : Int) := by omega
        have t2 : ((i : Int) - 2).toNat = i - 2 := by omega
        have f1 := hc2 (i - 2) (by omega)
        obtain ⟨q4, eq4, hq4, f2⟩ := rd2 hc hA (show i - 2 < A.length by omega)
        rw [eq4] at f1
        rw [if_pos h2] at HP
        generalize ptA L A (i - 2) = k at *
        clear eq4 hc hc2
        go_enter Tryd.func39, Tryd.ntmps39
        go_wp2
        refine bodyPost_ret (by simp [results, Tryd.results39, go_sem]; try rfl) rfl ?_
        refine ⟨by rw [unhide HP]; rfl, ?_⟩
        repeat' first
          | exact Below.refl _ _
          | (refine Below.setCell ?_ (by simp <;> omega) _)
          | (refine Below.alloc ?_ (by simp <;> omega) _)
      · have g1 : ¬ ((1 : Int) < (i : Int)) := by omega
        rw [if_neg h2] at HP
        clear hc hc2
        go_enter Tryd.func39, Tryd.ntmps39
        go_wp2
        refine bodyPost_ret (by simp [results, Tryd.results39, go_sem]; try rfl) rfl ?_
        refine ⟨by rw [unhide HP]; rfl, ?_⟩
        repeat' first
          | exact Below.refl _ _
          | (refine Below.setCell ?_ (by simp <;> omega) _)
          | (refine Below.alloc ?_ (by simp <;> omega) _)
    · have g0 : ¬ ((0 : Int) < (i : Int)) := by omega
      have g1 : ¬ ((1 : Int) < (i : Int)) := by omega
      rw [if_neg h1, if_neg (by omega)] at HP
      clear hc hc2
      go_enter Tryd.func39, Tryd.ntmps39
      go_wp2
      refine bodyPost_ret (by simp [results, Tryd.results39, go_sem]; try rfl) rfl ?_
      refine ⟨by rw [unhide HP]; rfl, ?_⟩
      repeat' first
        | exact Below.refl _ _
        | (refine Below.setCell ?_ (by simp <;> omega) _)
        | (refine Below.alloc ?_ (by simp <;> omega) _)
end Wrd
end Go.Proofs.YtdgafmhjbgddkaaDoor
