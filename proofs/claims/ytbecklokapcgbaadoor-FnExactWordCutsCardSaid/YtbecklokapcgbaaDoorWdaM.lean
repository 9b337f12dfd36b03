/- Tailors by the law's own functions: two rows held against each other, marks. -/
import Derived.Test.YtbecklokapcgbaaDoorTlrB
import Derived.Test.YtbecklokapcgbaaDoorWdaK
namespace Go.Proofs.YtbecklokapcgbaaDoor
namespace Wrd
open Go.RowKit
set_option linter.unusedVariables false
theorem SpRow_at {w : World} {B : Nat} {v : Value} {L : List Tl} (h : Tlr.SpRow w B v L) : TlAt w v L := by
  obtain ⟨a, c, rfl, hf⟩ := h.form
  refine ⟨a, c, rfl, ?_⟩
  by_cases h0 : 0 < L.length
  · obtain ⟨g, rfl, h1, h2⟩ := hf h0
    refine .inr ⟨g, 0, rfl, h2, fun i hi => ?_⟩
    have := h.read i hi
    rw [Nat.zero_add]
    exact this
  · exact .inl (List.length_eq_zero_iff.1 (by omega))
set_option maxRecDepth 100000 in
set_option maxHeartbeats 4000000 in
theorem eqTls (v1 v2 : Value) (T : List Tl) (w : World) (h1 : TlAt w v1 T) (h2 : TlAt w v2 T) (hT : T.length ≤ 1048576) :
    Calls Tryd.prog 10 #[v1, v2] w fun e w' => e = .returned (.bool true) ∧ Below w.heap.size w w' := by
  have HV1 := hide h1
  have HV2 := hide h2
  obtain ⟨a1, c1, rfl, _⟩ := h1
  obtain ⟨a2, c2, rfl, _⟩ := h2
  have hll : ((T.length : Int) != (T.length : Int)) = false := by simp
  go_enter Tryd.func10, Tryd.ntmps10
  go_wp2
  go_loopw [5] (fun iv wr => ∃ k : Nat, k ≤ T.length ∧ iv = .int .i64 (k : Int) ∧ Hid (Below w.heap.size w wr)) (fun iv _ => T.length - (intOf iv).toNat)
  case atStart => exact ⟨0, Nat.zero_le _, rfl, hide (Below.refl _ _)⟩
  case round =>
    obtain ⟨k, hk, rfl, HB⟩ := hrel
    by_cases hlt : k < T.length
    · have hlt' : (k : Int) < (T.length : Int) := by omega
      have h0k : (0 : Int) ≤ (k : Int) := by omega
      have CE := hide (fun W => eqTl (tlx T k) W)
      obtain ⟨b1, o1, d1, e1, hb1, hc1⟩ := tl_rd ((unhide HV1).below (unhide HB)) (by omega)
      obtain ⟨b2, o2, d2, e2, hb2, hc2⟩ := tl_rd ((unhide HV2).below (unhide HB)) (by omega)
      injection e1 with x1 x2 x3
      injection e2 with y1 y2 y3
      subst x1 x3 y1 y3
      clear x2 y2
      obtain ⟨p0, p1, p2⟩ := hc1 k hlt
      obtain ⟨q0, q1, q2⟩ := hc2 k hlt
      clear hc1 hc2
      generalize tlx T k = t at *
      unfold tlV at CE
      go_wp2_with fail
      have KS : (fun w' => w'.cell? ⟨b1, o1 + k * 3, none⟩ = some (.int .i64 t.1) ∧ w'.cell? ⟨b1, o1 + k * 3 + 1, none⟩ = some (.int .i64 t.2.1) ∧ w'.cell? ⟨b1, o1 + k * 3 + 2, none⟩ = some (.bool t.2.2) ∧ w'.cell? ⟨b2, o2 + k * 3, none⟩ = some (.int .i64 t.1) ∧ w'.cell? ⟨b2, o2 + k * 3 + 1, none⟩ = some (.int .i64 t.2.1) ∧ w'.cell? ⟨b2, o2 + k * 3 + 2, none⟩ = some (.bool t.2.2)) wr := ⟨p0, p1, p2, q0, q1, q2⟩
      refine wp_region_held_drew (S := fun w' => w'.cell? ⟨b1, o1 + k * 3, none⟩ = some (.int .i64 t.1) ∧ w'.cell? ⟨b1, o1 + k * 3 + 1, none⟩ = some (.int .i64 t.2.1) ∧ w'.cell? ⟨b1, o1 + k * 3 + 2, none⟩ = some (.bool t.2.2) ∧ w'.cell? ⟨b2, o2 + k * 3, none⟩ = some (.int .i64 t.1) ∧ w'.cell? ⟨b2, o2 + k * 3 + 1, none⟩ = some (.int .i64 t.2.1) ∧ w'.cell? ⟨b2, o2 + k * 3 + 2, none⟩ = some (.bool t.2.2)) (by kernel_rfl) (by exact KS) (fun hHeld => ?_)
      refine tkW (i := 0) (d := some 17) (v := ?_) rfl rfl (by kernel_rfl) (by kernel_rfl) (by kernel_rfl) (fun _ _ _ h => h) (Or.inl ⟨by rfl, ?_⟩) (by assumption) ?_
      rotate_left
      · intro w hSw; (try dsimp only at hSw); go_simp; try with_reducible rfl
      try simp only [Act.put, List.setIfInBounds_toArray, List.set_cons_zero, List.set_cons_succ]
      refine tkW (i := 1) (d := some 18) (v := ?_) rfl rfl (by kernel_rfl) (by kernel_rfl) (by kernel_rfl) (fun _ _ _ h => h) (Or.inl ⟨by rfl, ?_⟩) (by assumption) ?_
      rotate_left
      · intro w hSw; (try dsimp only at hSw); go_simp; try with_reducible rfl
      try simp only [Act.put, List.setIfInBounds_toArray, List.set_cons_zero, List.set_cons_succ]
      refine tkW (i := 2) (d := some 19) (v := ?_) rfl rfl (by kernel_rfl) (by kernel_rfl) (by kernel_rfl) (fun _ _ _ h => h) (Or.inl ⟨by rfl, ?_⟩) (by assumption) ?_
      rotate_left
      · intro w hSw; (try dsimp only at hSw); go_simp; try with_reducible rfl
      try simp only [Act.put, List.setIfInBounds_toArray, List.set_cons_zero, List.set_cons_succ]
      refine tkW (i := 3) (d := some 20) (v := ?_) rfl rfl (by kernel_rfl) (by kernel_rfl) (by kernel_rfl) (fun _ _ _ h => h) (Or.inl ⟨by rfl, ?_⟩) (by assumption) ?_
      rotate_left
      · intro w hSw; (try dsimp only at hSw); go_simp; try with_reducible rfl
      try simp only [Act.put, List.setIfInBounds_toArray, List.set_cons_zero, List.set_cons_succ]
      refine tkW (i := 4) (d := some 21) (v := ?_) rfl rfl (by kernel_rfl) (by kernel_rfl) (by kernel_rfl) (fun _ _ _ h => h) (Or.inl ⟨by rfl, ?_⟩) (by assumption) ?_
      rotate_left
      · intro w hSw; (try dsimp only at hSw); go_simp; try with_reducible rfl
      try simp only [Act.put, List.setIfInBounds_toArray, List.set_cons_zero, List.set_cons_succ]
      refine tkW (i := 5) (d := some 22) (v := ?_) rfl rfl (by kernel_rfl) (by kernel_rfl) (by kernel_rfl) (fun _ _ _ h => h) (Or.inl ⟨by rfl, ?_⟩) (by assumption) ?_
      rotate_left
      · intro w hSw; (try dsimp only at hSw); go_simp; try with_reducible rfl
      try simp only [Act.put, List.setIfInBounds_toArray, List.set_cons_zero, List.set_cons_succ]
      refine tkW (i := 6) (d := some 23) (v := ?_) rfl rfl (by kernel_rfl) (by kernel_rfl) (by kernel_rfl) (fun _ _ _ h => h) (Or.inl ⟨by rfl, ?_⟩) (by assumption) ?_
      rotate_left
      · intro w hSw; (try dsimp only at hSw); go_simp; try with_reducible rfl
      try simp only [Act.put, List.setIfInBounds_toArray, List.set_cons_zero, List.set_cons_succ]
      refine tkW (i := 7) (d := some 24) (v := ?_) rfl rfl (by kernel_rfl) (by kernel_rfl) (by kernel_rfl) (fun _ _ _ h => h) (Or.inl ⟨by rfl, ?_⟩) (by assumption) ?_
      rotate_left
      · intro w hSw; (try dsimp only at hSw); go_simp; try with_reducible rfl
      try simp only [Act.put, List.setIfInBounds_toArray, List.set_cons_zero, List.set_cons_succ]
      refine wpAnyH_ready (rs := [8]) (by kernel_rfl) (by simp) (AllReadyH.cons rfl (fun K hK => ?_) AllReadyH.nil)
      go_simp
      go_at_call 24
      refine ((unhide CE) _).mono ?_
      rintro e y1 ⟨rfl, hb4⟩
      have hb5 := (drewW wr).trans (hb4.mono (Nat.le_refl _))
      have z0 := (hb5.cell (p := ⟨b1, o1 + k * 3, none⟩) hb1).trans p0
      have z1 := (hb5.cell (p := ⟨b1, o1 + k * 3 + 1, none⟩) hb1).trans p1
      have z2 := (hb5.cell (p := ⟨b1, o1 + k * 3 + 2, none⟩) hb1).trans p2
      have z3 := (hb5.cell (p := ⟨b2, o2 + k * 3, none⟩) hb2).trans q0
      have z4 := (hb5.cell (p := ⟨b2, o2 + k * 3 + 1, none⟩) hb2).trans q1
      have z5 := (hb5.cell (p := ⟨b2, o2 + k * 3 + 2, none⟩) hb2).trans q2
      have B5 := hide ((unhide HB).trans (hb5.mono (unhide HB).size))
      clear hb4 hb5
      try go_wp2_with fail
      refine hK.out _ _ ⟨z0, z1, z2, z3, z4, z5⟩ (fun hHeld8 => ?_)
      clear hK K
      try simp only [Act.put, List.setIfInBounds_toArray, List.set_cons_zero, List.set_cons_succ]
      refine tkW (i := 9) (d := some 26) (v := ?_) rfl rfl (by kernel_rfl) (by kernel_rfl) (by kernel_rfl) (fun _ _ _ h => h) (Or.inl ⟨by rfl, ?_⟩) (by assumption) ?_
      rotate_left
      · intro w hSw; (try dsimp only at hSw); go_simp; try with_reducible rfl
      try simp only [Act.put, List.setIfInBounds_toArray, List.set_cons_zero, List.set_cons_succ]
      refine wpAnyH_done (by kernel_rfl) ?_ _
      go_wp2
      go_roundw
      case rel => exact ⟨k + 1, by omega, by go_num, B5⟩
      case measure => simp [intOf]; omega
    · obtain rfl : k = T.length := by omega
      have hlt' : ¬ (T.length : Int) < (T.length : Int) := by omega
      go_wp2
      go_ret
      exact ⟨rfl, unhide HB⟩
/-- All blocks but one are as they were. -/
structure Mk (g : Nat) (w w' : World) : Prop where
  bel : Below g w w'
  oth : ∀ k, k ≠ g → w'.heap[k]? = w.heap[k]?
theorem Mk.refl (g : Nat) (w : World) : Mk g w w := ⟨Below.refl _ _, fun _ _ => rfl⟩
theorem Mk.put {g : Nat} {w w1 : World} (h : Mk g w w1) (j : Nat) (u : Value) : Mk g w (w1.setCell ⟨g, j, none⟩ u) :=
  ⟨h.bel.setCell (p := ⟨g, j, none⟩) (Nat.le_refl _) u, fun k n => (heap_setCell_other w1 ⟨g, j, none⟩ k u n).trans (h.oth k n)⟩
set_option maxRecDepth 100000 in
set_option maxHeartbeats 4000000 in
theorem markTls (B g c : Nat) (xs : List Value) (n : Nat) (w : World) (h : w.ownsRow B 38 3 (.slice (some ⟨g, 0, none⟩) n c) n xs) (hn : n ≤ 1048576) (N : Nat) (hN : N = 1 + 3 * n) :
    Calls Tryd.prog 11 #[.slice (some ⟨g, 0, none⟩) n c, .int .i64 1] w fun e w' => e = .returned (.int .i64 (N : Int)) ∧ Mk g w w' := by
  have H0 := hide h
  have HN := hide hN
  clear h hN
  go_enter Tryd.func11, Tryd.ntmps11
  go_wp2
  go_loopw [1, 5] (fun kv iv wr => ∃ (i d : Nat), i ≤ n ∧ iv = .int .i64 (i : Int) ∧ kv = .int .i64 (d : Int) ∧ d = 1 + 3 * i ∧ Hid (∃ ys, wr.ownsRow B 38 3 (.slice (some ⟨g, 0, none⟩) n c) n ys) ∧ Hid (Mk g w wr)) (fun _ iv _ => n - (intOf iv).toNat)
  case atStart => exact ⟨0, 1, Nat.zero_le _, rfl, rfl, rfl, hide ⟨_, unhide H0⟩, hide (Mk.refl _ _)⟩
  case round =>
    obtain ⟨i, d, hin, rfl, rfl, hd, HO, HM⟩ := hrel
    clear H0
    have HD := hide hd
    have hdb : d ≤ 4000000 := by omega
    clear hd
    by_cases hlt : i < n
    · have hlt' : (i : Int) < (n : Int) := by omega
      have h0i : (0 : Int) ≤ (i : Int) := by omega
      obtain ⟨ys, ho⟩ := unhide HO
      obtain ⟨x0, p0, q0⟩ := Tlr.row3_at ho (i * 3) (by omega)
      obtain ⟨x1, p1, q1⟩ := Tlr.row3_at ho (i * 3 + 1) (by omega)
      obtain ⟨x2, p2, q2⟩ := Tlr.row3_at ho (i * 3 + 2) (by omega)
      have HS := hide (fun x y z => Tlr.row3_stored ho i x y z)
      have HMS := hide (fun x y z => (((unhide HM).put (i * 3) x).put (i * 3 + 1) y).put (i * 3 + 2) z)
      clear ho HO HM
      go_wp2
      go_roundw
      case rel => exact ⟨i + 1, d + 3, by omega, by go_num, by go_num, by have := unhide HD; omega, hide ⟨_, (unhide HS) _ _ _⟩, hide ((unhide HMS) _ _ _)⟩
      case measure => simp [intOf]; omega
    · obtain rfl : i = n := by omega
      have hlt' : ¬ (i : Int) < (i : Int) := by omega
      obtain rfl : d = N := by have h1 := unhide HD; have h2 := unhide HN; omega
      go_wp2
      go_ret
      exact ⟨rfl, unhide HM⟩
end Wrd
end Go.Proofs.YtbecklokapcgbaaDoor
