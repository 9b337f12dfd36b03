/- Sets joined, met, taken away: from edge to edge. -/
import Derived.Test.YtfcabmpklcmbgaaSetI
import Derived.Test.YtfcabmpklcmbgaaTriO
import Derived.Deep.DeepCutAuto
namespace Go.Proofs.Ytfcabmpklcmbgaa
open Go.RowKit
/-- Where the merging stands. -/
structure MI (how : Nat) (A C M : List Sp) (i j k : Nat) (b : Int) : Prop where
  hi : i ≤ 2 * A.length
  hj : j ≤ 2 * C.length
  hk : i + j = k
  a1 : i = 0 ∨ edge A (i - 1) ≤ b
  a2 : b ≤ edge A i
  c1 : j = 0 ∨ edge C (j - 1) ≤ b
  c2 : b ≤ edge C j
  b0 : 0 ≤ b
  b1 : b ≤ 32768
  st : SetsR (fS how A C) M.reverse b
  len : M.length ≤ k
theorem fS_between {how : Nat} {A C M : List Sp} {i j k : Nat} {b : Int} (hA : right A = true) (hC : right C = true) (h : MI how A C M i j k b) (p : Int) (h1 : b ≤ p) (h2 : p < edge A i) (h3 : p < edge C j) : fS how A C p = comb how (odd i) (odd j) := by
  unfold fS
  rw [has_between hA i h.hi p (h.a1.imp_right (fun e => by omega)) h2, has_between hC j h.hj p (h.c1.imp_right (fun e => by omega)) h3]
  rfl
/-- The set up to the next edge. -/
theorem MI.set {how : Nat} {A C M : List Sp} {i j k : Nat} {b en : Int} (hA : right A = true) (hC : right C = true) (h : MI how A C M i j k b) (h1 : en ≤ edge A i) (h2 : en ≤ edge C j) (hbe : b ≤ en) :
    SetsR (fS how A C) (if (decide (b < en) && comb how (odd i) (odd j)) = true then lay M b (en - 1) else M).reverse en := by
  by_cases hlt : b < en
  · rw [decide_eq_true hlt, Bool.true_and]
    cases hc : comb how (odd i) (odd j)
    · rw [if_neg (by decide)]
      exact sets_gap h.st hbe (fun p a c => by rw [fS_between hA hC h p a (by omega) (by omega), hc])
    · rw [if_pos rfl]
      have := lay_sets h.st (show b ≤ en - 1 by omega) (fun p a c => by rw [fS_between hA hC h p a (by omega) (by omega), hc])
      rwa [show en - 1 + 1 = en by omega] at this
  · rw [decide_eq_false hlt, Bool.false_and, if_neg (by decide), show en = b by omega]
    exact h.st
theorem MI.left {how : Nat} {A C M M' : List Sp} {i j k : Nat} {b en : Int} (hA : right A = true) (hC : right C = true) (h : MI how A C M i j k b) (hk : k < 2 * (A.length + C.length)) (hx : edge A i = en) (hy : en ≤ edge C j) (hS : SetsR (fS how A C) M'.reverse en) (hl : M'.length ≤ k + 1) : MI how A C M' (i + 1) j (k + 1) en := by
  have hil : i < 2 * A.length := by
    have := h.hi
    have := h.hj
    have := h.hk
    by_cases e : i = 2 * A.length
    · subst e
      rw [edge_end] at hx
      have := (edge_bd hC j (by omega)).2
      omega
    · omega
  have hb := edge_bd hA i hil
  have hm := edge_mono hA i hil
  refine ⟨by omega, h.hj, by have := h.hk; omega, .inr (by rw [Nat.add_sub_cancel]; omega), by omega, h.c1.imp_right (fun e => ?_), hy, by omega, by omega, hS, hl⟩
  have := h.a2
  omega
theorem edge_le {L : List Sp} (hr : right L = true) (i : Nat) (hi : i ≤ 2 * L.length) : edge L i ≤ 32769 := by
  by_cases e : i = 2 * L.length
  · rw [e, edge_end]; omega
  · have := (edge_bd hr i (by omega)).2; omega
theorem MI.right {how : Nat} {A C M M' : List Sp} {i j k : Nat} {b en : Int} (hA : right A = true) (hC : right C = true) (h : MI how A C M i j k b) (hx : en < edge A i) (hy : en = edge C j) (hS : SetsR (fS how A C) M'.reverse en) (hl : M'.length ≤ k + 1) : MI how A C M' i (j + 1) (k + 1) en := by
  have h9 := edge_le hA i h.hi
  have hjl : j < 2 * C.length := by
    have := h.hj
    by_cases e : j = 2 * C.length
    · subst e
      rw [edge_end] at hy
      omega
    · omega
  have hb := edge_bd hC j hjl
  have hm := edge_mono hC j hjl
  refine ⟨h.hi, by omega, by have := h.hk; omega, h.a1.imp_right (fun e => ?_), by omega, .inr (by rw [Nat.add_sub_cancel]; omega), by omega, by omega, by omega, hS, hl⟩
  have := h.c2
  omega
theorem sets_bd {f : Int → Bool} : ∀ {l : List Sp} {b : Int}, SetsR f l b → ∀ r ∈ l, 0 ≤ r.2.1 ∧ r.2.1 < b
  | [], _, _, r, hr => by simp at hr
  | (x, y, v) :: t, b, h, r, hr => by
    obtain ⟨_, h1, h2, h3, _, _, _, h7⟩ := h
    rcases List.mem_cons.1 hr with rfl | hr
    · exact ⟨by show (0 : Int) ≤ y; omega, h3⟩
    · have := sets_bd h7 r hr
      exact ⟨this.1, by omega⟩
theorem Box.belowB {w w' : World} {B g : Nat} {x y : Value} (h : Box w g x y) (hb : Below B w w') (hg : g < B) : Box w' g x y := by
  have e := hb.block g hg
  exact ⟨⟨(World.cell?_of_block (a := ⟨g, 0, none⟩) e).trans h.1.1, (World.cell?_of_block (a := ⟨g, 1, none⟩) e).trans h.1.2⟩, (World.frozen?_of_block (a := ⟨g, 0, none⟩) e).trans h.2.1, (World.frozen?_of_block (a := ⟨g, 1, none⟩) e).trans h.2.2⟩
theorem bdrew1' {B : Nat} {a w : World} (h : Below B a w) : Below B a w.drew := h.trans ⟨rfl, rfl, rfl, Nat.le_refl _, fun _ _ => rfl⟩
theorem keep0 (x y : Bool) (w : World) : Calls Try.prog 20 #[.bool x, .bool y] w fun e w' => e = .returned (.bool (comb 0 x y)) ∧ w' = w := by
  cases x <;> cases y
  all_goals
    go_enter Try.func20, Try.ntmps20
    go_wp2
    go_ret
    exact ⟨rfl, rfl⟩
theorem keep1 (x y : Bool) (w : World) : Calls Try.prog 21 #[.bool x, .bool y] w fun e w' => e = .returned (.bool (comb 1 x y)) ∧ w' = w := by
  cases x <;> cases y
  all_goals
    go_enter Try.func21, Try.ntmps21
    go_wp2
    go_ret
    exact ⟨rfl, rfl⟩
theorem keep2 (x y : Bool) (w : World) : Calls Try.prog 22 #[.bool x, .bool y] w fun e w' => e = .returned (.bool (comb 2 x y)) ∧ w' = w := by
  cases x <;> cases y
  all_goals
    go_enter Try.func22, Try.ntmps22
    go_wp2
    go_ret
    exact ⟨rfl, rfl⟩
end Go.Proofs.Ytfcabmpklcmbgaa
