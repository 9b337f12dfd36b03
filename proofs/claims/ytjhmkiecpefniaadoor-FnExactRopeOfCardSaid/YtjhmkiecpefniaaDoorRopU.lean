/- The marks of a rope asked for; marks of a whole rope. -/
import Derived.Test.YtjhmkiecpefniaaDoorRopQ
namespace Go.Proofs.YtjhmkiecpefniaaDoor.Rop
open Go.RowKit
set_option linter.unusedVariables false
set_option maxRecDepth 100000 in
set_option maxHeartbeats 4000000 in
theorem heldNodesI (B k0 n : Nat) (v : Value) (w : World) (h : Ny B w v (mkL k0 n)) (hL : n ≤ 200000) (hk1 : 1 ≤ k0) (hk : k0 ≤ 10) :
    Calls Tryd.prog 34 #[v, .int .i64 (k0 : Int)] w fun e w' => e = .returned (.int .i64 ((k0 + 5 * n : Nat) : Int)) ∧ Below w.heap.size w w' := by
  obtain ⟨a, c, hv⟩ := own_formN h
  rw [mkL_len] at hv
  subst hv
  have H := hide h
  clear h
  go_enter Tryd.func34, Tryd.ntmps34
  go_wp2
  go_loopw [1, 5] (fun kv iv wr => ∃ i : Nat, i ≤ n ∧ kv = .int .i64 ((k0 + 5 * i : Nat) : Int) ∧ iv = .int .i64 (i : Int) ∧ Hid (Below w.heap.size w wr)) (fun _ iv _ => (n - intOf iv).toNat)
  case atStart => exact ⟨0, by omega, by simp, rfl, hide (Below.refl _ _)⟩
  case round =>
    obtain ⟨i, hi, rfl, rfl, HB⟩ := hrel
    have hbs := (unhide HB).size
    by_cases h : i < n
    · obtain ⟨g, d, e⟩ := Ny.head (n := 0) (unhide H) (by rw [mkL_len]; omega)
      rw [mkL_len] at e
      injection e with e _ e'
      subst e e'
      have HC : Hid (∀ W, Below w.heap.size w W → W.cell? ⟨g, i * 5, none⟩ = some (.string (mtx (k0 + 5 * i))) ∧ W.cell? ⟨g, i * 5 + 1, none⟩ = some (.int .i64 (((k0 + 5 * i : Nat) : Int) + 1)) ∧ W.cell? ⟨g, i * 5 + 2, none⟩ = some (.int .i64 (((k0 + 5 * i : Nat) : Int) + 1 + 1)) ∧ W.cell? ⟨g, i * 5 + 3, none⟩ = some (.int .i64 (((k0 + 5 * i : Nat) : Int) + 1 + 1 + 1)) ∧ W.cell? ⟨g, i * 5 + 4, none⟩ = some (.int .i64 (((k0 + 5 * i : Nat) : Int) + 1 + 1 + 1 + 1))) := hide (fun W hW => by
        have := Ny.cells (ownsRow_below (unhide H) hW) i (by rw [mkL_len]; exact h)
        rw [mkL_get k0 n i h] at this
        exact this)
      have CM := hide (fun W => markText_any (k0 + 5 * i) W (by omega) (by omega))
      generalize hK : k0 + 5 * i = K at *
      have hK2 : K ≤ 2000000 := by omega
      obtain ⟨p0, p1, p2, p3, p4⟩ := (unhide HC) wr (unhide HB)
      generalize mtx K = X at *
      clear H
      go_wp2_with fail
      go_region_with (go_at_call 55; refine ((unhide CM) _).mono ?_; rintro e w2 ⟨rfl, hb2⟩; have B2 := hide ((unhide HB).trans (((bdrew (Below.refl wr.heap.size wr) 1).trans hb2).mono hbs)); clear hb2; obtain ⟨q0, q1, q2, q3, q4⟩ := (unhide HC) w2 (unhide B2))
      all_goals
        clear p0 p1 p2 p3 p4 CM HC
        go_wp2
        go_roundw
        case rel => exact ⟨i + 1, by omega, by rw [← hK]; go_num, by go_num, B2⟩
        case measure => simp [intOf]; omega
    · obtain rfl : i = n := by omega
      clear H
      go_wp2
      go_ret
      exact ⟨rfl, unhide HB⟩
set_option maxRecDepth 100000 in
theorem markMarks0 (k : Nat) (w : World) : Calls Tryd.prog 33 #[.slice none 0 0, .int .i64 (k : Int)] w fun e w' => e = .returned (.int .i64 (k : Int)) ∧ w' = w := by
  go_enter Tryd.func33, Tryd.ntmps33
  go_wp2
  go_loopw [1, 5] (fun kv iv wr => kv = .int .i64 (k : Int) ∧ iv = .int .i64 0 ∧ wr = w) (fun _ iv _ => 0)
  case atStart => exact ⟨rfl, rfl, rfl⟩
  case round =>
    obtain ⟨rfl, rfl, rfl⟩ := hrel
    go_wp2
    go_ret
    exact ⟨rfl, rfl⟩
set_option maxRecDepth 100000 in
theorem heldMarks0 (k : Nat) (w : World) : Calls Tryd.prog 35 #[.slice none 0 0, .int .i64 (k : Int)] w fun e w' => e = .returned (.int .i64 (k : Int)) ∧ w' = w := by
  go_enter Tryd.func35, Tryd.ntmps35
  go_wp2
  go_loopw [1, 5] (fun kv iv wr => kv = .int .i64 (k : Int) ∧ iv = .int .i64 0 ∧ wr = w) (fun _ iv _ => 0)
  case atStart => exact ⟨rfl, rfl, rfl⟩
  case round =>
    obtain ⟨rfl, rfl, rfl⟩ := hrel
    go_wp2
    go_ret
    exact ⟨rfl, rfl⟩
set_option maxRecDepth 100000 in
set_option maxHeartbeats 1000000 in
theorem markRopeI (B : Nat) (v : Value) (L : List Nd) (w : World) (h : Ny B w v L) (hL : L.length ≤ 200000) :
    Calls Tryd.prog 12 #[.agg #[v, .slice none 0 0], .int .i64 1] w fun e w' => e = .returned (.int .i64 ((1 + 5 * L.length : Nat) : Int)) ∧ Ny B w' v (mkL 1 L.length) ∧ w.grownBy w' v.ownBlock := by
  obtain ⟨a, c, rfl⟩ := own_formN h
  obtain ⟨w0, hw0⟩ : ∃ w0, w0 = w.alloc (.cells #[.slice a L.length c, .slice none 0 0] 25) := ⟨_, rfl⟩
  have b0 : Below w.heap.size w w0 := by rw [hw0]; exact (Below.refl _ _).alloc (Nat.le_refl _) _
  have z0 : w0.heap.size = w.heap.size + 1 := by rw [hw0]; simp
  have n0 : w0.heap[w.heap.size]? = some (.cells #[.slice a L.length c, .slice none 0 0] 25 (0, 0)) := by rw [hw0]; exact heap_alloc_new _ _
  have C := hide (markNodesI B 1 _ L w0 (ownsRow_below h b0) hL (by omega) (by omega))
  have hne : (Value.slice a L.length c).ownBlock ≠ some w.heap.size := fun e => by have := (World.ownsRow.lt h _ e).2; omega
  have HNE := hide hne
  obtain ⟨c0, c1, _, _⟩ := two_cellsR n0
  have N0 := hide n0
  have B0 := hide b0
  have Z0 := hide z0
  have CK := hide markMarks0
  clear h hne b0 n0 z0
  generalize hK : 1 + 5 * L.length = K at *
  go_enter Tryd.func12, Tryd.ntmps12
  go_wp2_with fail
  rw [← hw0]
  clear hw0
  refine (unhide C).mono ?_
  rintro e w1 ⟨rfl, o1, g1⟩
  obtain ⟨d0, d1, _, _⟩ := two_cellsR ((g1.block _ (by have := unhide Z0; omega) (fun e => (unhide HNE) e.symm)).trans (unhide N0))
  have O1 := hide o1
  have G1 := hide ((gn_some (grown_of (unhide B0))).trans g1)
  clear o1 g1 c0 c1 N0 HNE C
  go_wp2_with (go_at_call 33; refine ((unhide CK) K _).mono ?_; rintro e w' ⟨rfl, hw⟩; obtain rfl := hw.symm; clear hw)
  go_ret
  exact ⟨rfl, unhide O1, unhide G1⟩
set_option maxRecDepth 100000 in
set_option maxHeartbeats 1000000 in
theorem heldRopeI (B n : Nat) (v : Value) (w : World) (h : Ny B w v (mkL 1 n)) (hL : n ≤ 200000) :
    Calls Tryd.prog 13 #[.agg #[v, .slice none 0 0], .int .i64 1] w fun e w' => e = .returned (.int .i64 ((1 + 5 * n : Nat) : Int)) ∧ Below w.heap.size w w' := by
  obtain ⟨a, c, hv⟩ := own_formN h
  rw [mkL_len] at hv
  subst hv
  obtain ⟨w0, hw0⟩ : ∃ w0, w0 = w.alloc (.cells #[.slice a n c, .slice none 0 0] 25) := ⟨_, rfl⟩
  have b0 : Below w.heap.size w w0 := by rw [hw0]; exact (Below.refl _ _).alloc (Nat.le_refl _) _
  have z0 : w0.heap.size = w.heap.size + 1 := by rw [hw0]; simp
  have n0 : w0.heap[w.heap.size]? = some (.cells #[.slice a n c, .slice none 0 0] 25 (0, 0)) := by rw [hw0]; exact heap_alloc_new _ _
  have C := hide (heldNodesI B 1 n _ w0 (ownsRow_below h b0) hL (by omega) (by omega))
  obtain ⟨c0, c1, _, _⟩ := two_cellsR n0
  have N0 := hide n0
  have B0 := hide b0
  have Z0 := hide z0
  have CK := hide heldMarks0
  clear h b0 n0 z0
  generalize hK : 1 + 5 * n = K at *
  go_enter Tryd.func13, Tryd.ntmps13
  go_wp2_with fail
  rw [← hw0]
  clear hw0
  refine (unhide C).mono ?_
  rintro e w1 ⟨rfl, hb1⟩
  obtain ⟨d0, d1, _, _⟩ := two_cellsR ((hb1.block _ (by have := unhide Z0; omega)).trans (unhide N0))
  have B1 := hide ((unhide B0).trans (hb1.mono (unhide B0).size))
  have hk0 : ¬ (K : Int) < 0 := by omega
  clear hb1 c0 c1 N0 C
  go_wp2_with (go_at_call 35; refine ((unhide CK) K _).mono ?_; rintro e w' ⟨rfl, hw⟩; obtain rfl := hw.symm; clear hw)
  go_ret
  exact ⟨rfl, unhide B1⟩
end Go.Proofs.YtjhmkiecpefniaaDoor.Rop
