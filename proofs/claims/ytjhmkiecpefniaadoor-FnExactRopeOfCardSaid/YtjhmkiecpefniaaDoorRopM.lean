/- Rows of nodes held against each other. -/
import Derived.Test.YtjhmkiecpefniaaDoorRopE
namespace Go.Proofs.YtjhmkiecpefniaaDoor.Rop
open Go.RowKit
set_option linter.unusedVariables false
def nd0 : Nd := ⟨⟨#[]⟩, 0, 0, 0, 0⟩
def nthN (L : List Nd) (i : Nat) : Nd := L.getD i nd0
theorem flat_get : ∀ (L : List Nd) (i j : Nat), i < L.length → j < 5 → (flat L)[i * 5 + j]? = (cl5 (nthN L i))[j]?
  | [], i, j, h, _ => by simp at h
  | x :: L, 0, j, h, hj => by
    show (cl5 x ++ flat L)[0 * 5 + j]? = (cl5 x)[j]?
    rw [Nat.zero_mul, Nat.zero_add, List.getElem?_append_left (by show j < 5; exact hj)]
  | x :: L, i + 1, j, h, hj => by
    show (cl5 x ++ flat L)[(i + 1) * 5 + j]? = (cl5 (nthN L i))[j]?
    rw [List.getElem?_append_right (by show 5 ≤ _; omega), show (i + 1) * 5 + j - (cl5 x).length = i * 5 + j by show _ - 5 = _; omega]
    exact flat_get L i j (by simpa using h) hj
/-- A row's node by its cells. -/
theorem Ny.cells {B g cap n : Nat} {w : World} {L : List Nd} (h : Ny B w (.slice (some ⟨g, 0, none⟩) n cap) L) (i : Nat) (hi : i < L.length) :
    w.cell? ⟨g, i * 5, none⟩ = some (.string (nthN L i).text) ∧ w.cell? ⟨g, i * 5 + 1, none⟩ = some (.int .i64 (nthN L i).left) ∧ w.cell? ⟨g, i * 5 + 2, none⟩ = some (.int .i64 (nthN L i).right) ∧ w.cell? ⟨g, i * 5 + 3, none⟩ = some (.int .i64 (nthN L i).size) ∧ w.cell? ⟨g, i * 5 + 4, none⟩ = some (.int .i64 (nthN L i).lines) := by
  have hn : L.length = n := by
    obtain ⟨a, c, e⟩ := own_formN h
    injection e with _ e _
    exact e.symm
  unfold Ny at h
  rw [hn] at h
  have c : ∀ j, j < 5 → w.cell? ⟨g, i * 5 + j, none⟩ = (cl5 (nthN L i))[j]? := fun j hj => by
    have := h.cellAt (i * 5 + j) (by omega)
    rw [this]
    exact flat_get L i j hi hj
  exact ⟨c 0 (by omega), c 1 (by omega), c 2 (by omega), c 3 (by omega), c 4 (by omega)⟩
theorem Ny.head {B n : Nat} {w : World} {v : Value} {L : List Nd} (h : Ny B w v L) (h0 : 0 < L.length) : ∃ g cap, v = .slice (some ⟨g, 0, none⟩) L.length cap := by
  rcases h.2 with ⟨rfl, h1⟩ | ⟨g, cap, cur, rfl, _⟩
  · omega
  · exact ⟨_, _, rfl⟩
set_option maxRecDepth 100000 in
set_option maxHeartbeats 1000000 in
theorem eqNodeI (x : Nd) (w : World) : Calls Tryd.prog 53 #[encN x, encN x] w fun e w' => e = .returned (.bool true) ∧ Below w.heap.size w w' := by
  obtain ⟨t, a, b, c, d⟩ := x
  unfold encN
  go_enter Tryd.func53, Tryd.ntmps53
  go_wp2
  go_ret
  exact ⟨rfl, ((Below.refl _ _).alloc (Nat.le_refl _) _).alloc (by simp) _⟩
set_option maxRecDepth 100000 in
set_option maxHeartbeats 2000000 in
theorem eqNodesI (B1 B2 : Nat) (v1 v2 : Value) (L : List Nd) (w : World) (h1 : Ny B1 w v1 L) (h2 : Ny B2 w v2 L) (hL : L.length ≤ 200000) :
    Calls Tryd.prog 30 #[v1, v2] w fun e w' => e = .returned (.bool true) ∧ Below w.heap.size w w' := by
  obtain ⟨a1, c1, rfl⟩ := own_formN h1
  obtain ⟨a2, c2, rfl⟩ := own_formN h2
  have H1 := hide h1
  have H2 := hide h2
  have CE := hide (fun x W => eqNodeI x W)
  clear h1 h2
  go_enter Tryd.func30, Tryd.ntmps30
  go_wp2
  go_loopw [5] (fun iv wr => ∃ k : Nat, k ≤ L.length ∧ iv = .int .i64 (k : Int) ∧ Hid (Below w.heap.size w wr)) (fun iv _ => (L.length - intOf iv).toNat)
  case atStart => exact ⟨0, by omega, rfl, hide (Below.refl _ _)⟩
  case round =>
    obtain ⟨k, hk, rfl, HB⟩ := hrel
    by_cases h : k < L.length
    · obtain ⟨g1, d1, e1⟩ := Ny.head (n := 0) (unhide H1) (by omega)
      obtain ⟨g2, d2, e2⟩ := Ny.head (n := 0) (unhide H2) (by omega)
      injection e1 with e1 _ e1'
      injection e2 with e2 _ e2'
      subst e1 e2 e1' e2'
      obtain ⟨p0, p1, p2, p3, p4⟩ := Ny.cells (ownsRow_below (unhide H1) (unhide HB)) k h
      obtain ⟨q0, q1, q2, q3, q4⟩ := Ny.cells (ownsRow_below (unhide H2) (unhide HB)) k h
      have C := hide (fun W => (unhide CE) (nthN L k) W)
      generalize nthN L k = x at *
      obtain ⟨t, xa, xb, xc, xd⟩ := x
      unfold encN at C
      simp only at p0 p1 p2 p3 p4 q0 q1 q2 q3 q4 C
      have hbs := (unhide HB).size
      clear H1 H2 CE
      go_wp2_with fail
      go_region_with (go_at_call 53; refine ((unhide C) _).mono ?_; rintro e w2 ⟨rfl, hb2⟩)
      all_goals
        have HB' := hide ((unhide HB).trans (((bdrew (Below.refl wr.heap.size wr) 1).trans hb2).mono hbs))
        clear hb2
        go_wp2
        go_roundw
        case rel => exact ⟨k + 1, by omega, by go_num, HB'⟩
        case measure => simp [intOf]; omega
    · obtain rfl : k = L.length := by omega
      clear H1 H2 CE
      go_wp2
      go_ret
      exact ⟨rfl, unhide HB⟩
set_option maxRecDepth 100000 in
theorem eqMarks0 (w : World) : Calls Tryd.prog 31 #[.slice none 0 0, .slice none 0 0] w fun e w' => e = .returned (.bool true) ∧ w' = w := by
  go_enter Tryd.func31, Tryd.ntmps31
  go_wp2
  go_loopw [5] (fun iv wr => iv = .int .i64 0 ∧ wr = w) (fun iv _ => 0)
  case atStart => exact ⟨rfl, rfl⟩
  case round =>
    obtain ⟨rfl, rfl⟩ := hrel
    go_wp2
    go_ret
    exact ⟨rfl, rfl⟩
set_option maxRecDepth 100000 in
set_option maxHeartbeats 1000000 in
theorem eqRopeI (B1 B2 : Nat) (v1 v2 : Value) (L : List Nd) (w : World) (h1 : Ny B1 w v1 L) (h2 : Ny B2 w v2 L) (hL : L.length ≤ 200000) :
    Calls Tryd.prog 11 #[.agg #[v1, .slice none 0 0], .agg #[v2, .slice none 0 0]] w fun e w' => e = .returned (.bool true) ∧ Below w.heap.size w w' := by
  have C1 := hide (fun W (hb : Below w.heap.size w W) => eqNodesI B1 B2 v1 v2 L W (ownsRow_below h1 hb) (ownsRow_below h2 hb) hL)
  have C2 := hide eqMarks0
  obtain ⟨a1, c1, rfl⟩ := own_formN h1
  obtain ⟨a2, c2, rfl⟩ := own_formN h2
  clear h1 h2
  obtain ⟨w0, hw0⟩ : ∃ w0, w0 = (w.alloc (.cells #[.slice a1 L.length c1, .slice none 0 0] 25)).alloc (.cells #[.slice a2 L.length c2, .slice none 0 0] 25) := ⟨_, rfl⟩
  have B0 : Hid (Below w.heap.size w w0) := hide (by rw [hw0]; exact ((Below.refl _ _).alloc (Nat.le_refl _) _).alloc (by simp) _)
  have e1 : (w.alloc (.cells #[.slice a1 L.length c1, .slice none 0 0] 25)).heap.size = w.heap.size + 1 := by simp
  have z0 : w0.heap.size = w.heap.size + 2 := by rw [hw0]; simp
  have n1 : w0.heap[w.heap.size]? = some (.cells #[.slice a1 L.length c1, .slice none 0 0] 25 (0, 0)) := by rw [hw0]; exact (Below.heap_alloc _ _ _ (by simp)).trans (heap_alloc_new _ _)
  have n2 : w0.heap[w.heap.size + 1]? = some (.cells #[.slice a2 L.length c2, .slice none 0 0] 25 (0, 0)) := by rw [hw0, ← e1]; exact heap_alloc_new _ _
  have N1 := hide n1
  have N2 := hide n2
  obtain ⟨c10, c11, _, _⟩ := two_cellsR n1
  obtain ⟨c20, c21, _, _⟩ := two_cellsR n2
  have Z0 := hide z0
  clear n1 n2 e1 z0
  go_enter Tryd.func11, Tryd.ntmps11
  go_wp2_with fail
  rw [← hw0]
  clear hw0
  refine ((unhide C1) _ (unhide B0)).mono ?_
  rintro e w1 ⟨rfl, hb1⟩
  have z0 := unhide Z0
  obtain ⟨d10, d11, _, _⟩ := two_cellsR ((hb1.block _ (by omega)).trans (unhide N1))
  obtain ⟨d20, d21, _, _⟩ := two_cellsR ((hb1.block _ (by omega)).trans (unhide N2))
  have B1 := hide ((unhide B0).trans (hb1.mono (unhide B0).size))
  clear hb1 C1 c10 c11 c20 c21 N1 N2 z0 Z0
  go_wp2_with (go_at_call 31; refine ((unhide C2) _).mono ?_; rintro e w' ⟨rfl, hw⟩; obtain rfl := hw.symm; clear hw)
  go_ret
  exact ⟨rfl, unhide B1⟩
end Go.Proofs.YtjhmkiecpefniaaDoor.Rop
