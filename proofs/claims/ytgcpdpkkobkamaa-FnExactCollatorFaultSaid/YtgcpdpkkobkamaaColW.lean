/- A collator: how large, a copy, what is alike. -/
import Derived.Test.YtgcpdpkkobkamaaColV
namespace Go.Proofs.Ytgcpdpkkobkamaa.Col
open Go.RowKit
set_option linter.unusedVariables false
set_option maxRecDepth 100000 in
set_option maxHeartbeats 2000000 in
theorem szColl_any (v : Value) (s : Int) (q : Bool) (E : List En) (w : World) (hv : EnAt SpsAt w v E) (hE : E.length ≤ 9223372036854775807) (hsz : ∀ i, i < E.length → (ge E i).1.size ≤ 9223372036854775807 ∧ (ge E i).2.length ≤ 9223372036854775807) :
    Calls Try.prog 4 #[.agg #[v, .int .i64 s, .bool q], .int .i64 1048576] w fun e w' => e = .returned (.int .i64 (left 1048576 E)) ∧ Below w.heap.size w w' := by
  have CS := hide (fun W h => szEntries_any v E W h hE hsz)
  have HV := hide hv
  obtain ⟨a, cap, rfl, _⟩ := hv
  have B0 := hide ((Below.refl w.heap.size w).alloc (Nat.le_refl _) (.cells #[.slice a E.length cap, .int .i64 s, .bool q] 24))
  have hl : left 1048576 E = -1 ∨ 0 ≤ left 1048576 E := by unfold left; split <;> omega
  clear hsz
  generalize left 1048576 E = R at *
  rcases hl with rfl | hR
  · go_enter Try.func4, Try.ntmps4
    go_wp2_with (go_at_call 9; refine ((unhide CS) _ (EnAt.below keepS (unhide HV) (unhide B0))).mono ?_; rintro e w2 ⟨rfl, hb2⟩; have B2 := hide ((unhide B0).trans (hb2.mono (unhide B0).size)); clear hb2)
    go_ret
    exact ⟨rfl, unhide B2⟩
  · go_enter Try.func4, Try.ntmps4
    go_wp2_with (go_at_call 9; refine ((unhide CS) _ (EnAt.below keepS (unhide HV) (unhide B0))).mono ?_; rintro e w2 ⟨rfl, hb2⟩; have B2 := hide ((unhide B0).trans (hb2.mono (unhide B0).size)); clear hb2)
    go_ret
    exact ⟨rfl, unhide B2⟩
set_option maxRecDepth 100000 in
set_option maxHeartbeats 2000000 in
theorem eqColl_any (v1 v2 : Value) (s : Int) (q : Bool) (E : List En) (B1 B2 : Nat) (w : World) (h1 : EnAt (Rr B1) w v1 E) (h2 : EnAt (Rr B2) w v2 E) (hl : E.length ≤ 1048576) (hs : ∀ i, i < E.length → (ge E i).2.length ≤ 1048576) :
    Calls Try.prog 8 #[.agg #[v1, .int .i64 s, .bool q], .agg #[v2, .int .i64 s, .bool q]] w fun e w' => e = .returned (.bool true) ∧ Below w.heap.size w w' := by
  have CE := hide (fun W g1 g2 => eqEntries_any v1 v2 E B1 B2 W g1 g2 hl hs)
  have H1 := hide h1
  have H2 := hide h2
  obtain ⟨a1, c1, rfl, _⟩ := h1
  obtain ⟨a2, c2, rfl, _⟩ := h2
  have B0 := hide (((Below.refl w.heap.size w).alloc (Nat.le_refl _) (.cells #[.slice a1 E.length c1, .int .i64 s, .bool q] 29)).alloc (by simp) (.cells #[.slice a2 E.length c2, .int .i64 s, .bool q] 29))
  have hsn : (s != s) = false := by simp
  have hqn : (q != q) = false := by simp
  go_enter Try.func8, Try.ntmps8
  go_wp2_with (go_at_call 16; refine ((unhide CE) _ (EnAt.below (keepR B1) (unhide H1) (unhide B0)) (EnAt.below (keepR B2) (unhide H2) (unhide B0))).mono ?_; rintro e w2 ⟨rfl, hb2⟩; have B2 := hide ((unhide B0).trans (hb2.mono (unhide B0).size)); have d1 := (hb2.cell (p := ⟨w.heap.size, 1, none⟩) (by simp; omega)); have d2 := (hb2.cell (p := ⟨w.heap.size, 2, none⟩) (by simp; omega)); have d3 := (hb2.cell (p := ⟨w.heap.size + 1, 1, none⟩) (by simp)); have d4 := (hb2.cell (p := ⟨w.heap.size + 1, 2, none⟩) (by simp)); simp at d1 d2 d3 d4; clear hb2)
  go_ret
  exact ⟨rfl, unhide B2⟩
/-- What toCollator has laid: the box of what came in, the result's, the copy's. -/
structure Tc (w0 w : World) (E : List En) (v : Value) (s : Int) (p : Bool) (x y z : Value) : Prop where
  h0 : w.heap[w0.heap.size]? = some (.cells #[v, .int .i64 s, .bool p] 24 (0, 0))
  h1 : w.heap[w0.heap.size + 1]? = some (.cells #[.slice none 0 0, .int .i64 0, .bool false] 29 (0, 0))
  h2 : w.heap[w0.heap.size + 1 + 1]? = some (.cells #[x, y, z] 29 (0, 0))
  en : EnAt (Rr (w0.heap.size + 3)) w (.slice (some ⟨w0.heap.size + 3, 0, none⟩) E.length E.length) E
  be : Below w0.heap.size w0 w
theorem Tc.rd {w0 w : World} {E : List En} {v : Value} {s : Int} {p : Bool} {x y z : Value} (h : Tc w0 w E v s p x y z) :
    w.cell? ⟨w0.heap.size, 0, none⟩ = some v ∧ w.cell? ⟨w0.heap.size, 1, none⟩ = some (.int .i64 s) ∧ w.cell? ⟨w0.heap.size, 2, none⟩ = some (.bool p) ∧ w.cell? ⟨w0.heap.size + 1 + 1, 0, none⟩ = some x ∧ w.cell? ⟨w0.heap.size + 1 + 1, 1, none⟩ = some y ∧ w.cell? ⟨w0.heap.size + 1 + 1, 2, none⟩ = some z ∧
    w.frozen? ⟨w0.heap.size + 1 + 1, 0, none⟩ = false ∧ w.frozen? ⟨w0.heap.size + 1 + 1, 1, none⟩ = false ∧ w.frozen? ⟨w0.heap.size + 1 + 1, 2, none⟩ = false := by
  obtain ⟨z0, z1, z2, _, _, _⟩ := three_cells h.h0
  obtain ⟨a0, a1, a2, a3, a4, a5⟩ := three_cells h.h2
  exact ⟨z0, z1, z2, a0, a1, a2, a3, a4, a5⟩
theorem kept_set {w : World} {g i B n c : Nat} {x : Value} {E : List En} (h : EnAt (Rr B) w (.slice (some ⟨B, 0, none⟩) n c) E) (hg : g < B) : EnAt (Rr B) (w.setCell ⟨g, i, none⟩ x) (.slice (some ⟨B, 0, none⟩) n c) E :=
  h.kept (by simp) (Nat.le_refl _) (fun k hk => heap_setCell_other _ _ _ _ (by simp; omega))
theorem Tc.s0 {w0 w : World} {E : List En} {v : Value} {s : Int} {p : Bool} {x y z : Value} (h : Tc w0 w E v s p x y z) (u : Value) : Tc w0 (w.setCell ⟨w0.heap.size + 1 + 1, 0, none⟩ u) E v s p u y z :=
  ⟨(heap_setCell_other _ _ _ _ (by simp; omega)).trans h.h0, (heap_setCell_other _ _ _ _ (by simp)).trans h.h1, heap_setCell_same w (w0.heap.size + 1 + 1) 0 _ 29 u h.h2, kept_set h.en (by omega), h.be.setCell (p := ⟨w0.heap.size + 1 + 1, 0, none⟩) (by simp; omega) _⟩
theorem Tc.s1 {w0 w : World} {E : List En} {v : Value} {s : Int} {p : Bool} {x y z : Value} (h : Tc w0 w E v s p x y z) (u : Value) : Tc w0 (w.setCell ⟨w0.heap.size + 1 + 1, 1, none⟩ u) E v s p x u z :=
  ⟨(heap_setCell_other _ _ _ _ (by simp; omega)).trans h.h0, (heap_setCell_other _ _ _ _ (by simp)).trans h.h1, heap_setCell_same w (w0.heap.size + 1 + 1) 1 _ 29 u h.h2, kept_set h.en (by omega), h.be.setCell (p := ⟨w0.heap.size + 1 + 1, 1, none⟩) (by simp; omega) _⟩
theorem Tc.s2 {w0 w : World} {E : List En} {v : Value} {s : Int} {p : Bool} {x y z : Value} (h : Tc w0 w E v s p x y z) (u : Value) : Tc w0 (w.setCell ⟨w0.heap.size + 1 + 1, 2, none⟩ u) E v s p x y u :=
  ⟨(heap_setCell_other _ _ _ _ (by simp; omega)).trans h.h0, (heap_setCell_other _ _ _ _ (by simp)).trans h.h1, heap_setCell_same w (w0.heap.size + 1 + 1) 2 _ 29 u h.h2, kept_set h.en (by omega), h.be.setCell (p := ⟨w0.heap.size + 1 + 1, 2, none⟩) (by simp; omega) _⟩
theorem Tc.fin {w0 w : World} {E : List En} {v : Value} {s : Int} {p : Bool} {x y z : Value} (h : Tc w0 w E v s p x y z) :
    EnAt (Rr (w0.heap.size + 3)) (((w.setCell ⟨w0.heap.size + 1, 0, none⟩ x).setCell ⟨w0.heap.size + 1, 1, none⟩ y).setCell ⟨w0.heap.size + 1, 2, none⟩ z) (.slice (some ⟨w0.heap.size + 3, 0, none⟩) E.length E.length) E ∧ Below w0.heap.size w0 (((w.setCell ⟨w0.heap.size + 1, 0, none⟩ x).setCell ⟨w0.heap.size + 1, 1, none⟩ y).setCell ⟨w0.heap.size + 1, 2, none⟩ z) :=
  ⟨kept_set (kept_set (kept_set h.en (by omega)) (by omega)) (by omega), ((h.be.setCell (p := ⟨w0.heap.size + 1, 0, none⟩) (by simp) _).setCell (p := ⟨w0.heap.size + 1, 1, none⟩) (by simp) _).setCell (p := ⟨w0.heap.size + 1, 2, none⟩) (by simp) _⟩
set_option maxRecDepth 100000 in
set_option maxHeartbeats 4000000 in
theorem toColl_any (v : Value) (s : Int) (p : Bool) (E : List En) (w : World) (hv : EnAt SpsAt w v E) (hl : E.length ≤ 1048576) (hs : ∀ i, i < E.length → (ge E i).2.length ≤ 1048576) :
    Calls Try.prog 6 #[.agg #[v, .int .i64 s, .bool p]] w fun e w' => ∃ B, e = .returned (.agg #[.slice (some ⟨B, 0, none⟩) E.length E.length, .int .i64 s, .bool p]) ∧ w.heap.size ≤ B ∧ EnAt (Rr B) w' (.slice (some ⟨B, 0, none⟩) E.length E.length) E ∧ Below w.heap.size w w' := by
  have CT := hide (fun W h => toEntries_any v E W h hl hs)
  have HV := hide hv
  obtain ⟨va, vc, rfl, _⟩ := hv
  clear hs
  go_enter Try.func6, Try.ntmps6
  go_wp2_with fail
  have hb3 : Below w.heap.size w (((w.alloc (.cells #[.slice va E.length vc, .int .i64 s, .bool p] 24)).alloc (.cells #[.slice none 0 0, .int .i64 0, .bool false] 29)).alloc (.cells #[.slice none 0 0, .int .i64 0, .bool false] 29)) := ((((Below.refl _ _).alloc (Nat.le_refl _) _).alloc (by simp) _).alloc (by simp; omega) _)
  have hz3 : (((w.alloc (.cells #[.slice va E.length vc, .int .i64 s, .bool p] 24)).alloc (.cells #[.slice none 0 0, .int .i64 0, .bool false] 29)).alloc (.cells #[.slice none 0 0, .int .i64 0, .bool false] 29)).heap.size = w.heap.size + 3 := by simp
  have h0 : (((w.alloc (.cells #[.slice va E.length vc, .int .i64 s, .bool p] 24)).alloc (.cells #[.slice none 0 0, .int .i64 0, .bool false] 29)).alloc (.cells #[.slice none 0 0, .int .i64 0, .bool false] 29)).heap[w.heap.size]? = some (.cells #[.slice va E.length vc, .int .i64 s, .bool p] 24 (0, 0)) := by
    rw [Below.heap_alloc _ _ _ (by simp; omega), Below.heap_alloc _ _ _ (by simp)]
    exact heap_new w _
  have h1 : (((w.alloc (.cells #[.slice va E.length vc, .int .i64 s, .bool p] 24)).alloc (.cells #[.slice none 0 0, .int .i64 0, .bool false] 29)).alloc (.cells #[.slice none 0 0, .int .i64 0, .bool false] 29)).heap[w.heap.size + 1]? = some (.cells #[.slice none 0 0, .int .i64 0, .bool false] 29 (0, 0)) := by
    rw [Below.heap_alloc _ _ _ (by simp)]
    have := heap_new (w.alloc (.cells #[.slice va E.length vc, .int .i64 s, .bool p] 24)) (.cells #[.slice none 0 0, .int .i64 0, .bool false] 29)
    simpa using this
  have h2 : (((w.alloc (.cells #[.slice va E.length vc, .int .i64 s, .bool p] 24)).alloc (.cells #[.slice none 0 0, .int .i64 0, .bool false] 29)).alloc (.cells #[.slice none 0 0, .int .i64 0, .bool false] 29)).heap[w.heap.size + 1 + 1]? = some (.cells #[.slice none 0 0, .int .i64 0, .bool false] 29 (0, 0)) := by
    have := heap_new ((w.alloc (.cells #[.slice va E.length vc, .int .i64 s, .bool p] 24)).alloc (.cells #[.slice none 0 0, .int .i64 0, .bool false] 29)) (.cells #[.slice none 0 0, .int .i64 0, .bool false] 29)
    simpa using this
  generalize ((w.alloc (.cells #[.slice va E.length vc, .int .i64 s, .bool p] 24)).alloc (.cells #[.slice none 0 0, .int .i64 0, .bool false] 29)).alloc (.cells #[.slice none 0 0, .int .i64 0, .bool false] 29) = w3 at *
  refine ((unhide CT) _ (EnAt.below keepS (unhide HV) hb3)).mono ?_
  rintro e w4 ⟨rfl, ho4, hb4⟩
  have k0 := (hb4.block w.heap.size (by omega)).trans h0
  have k1 := (hb4.block (w.heap.size + 1) (by omega)).trans h1
  have k2 := (hb4.block (w.heap.size + 1 + 1) (by omega)).trans h2
  have hb5 := hb3.trans (hb4.mono hb3.size)
  have hub : w.heap.size + 3 = w3.heap.size := by omega
  clear CT HV h0 h1 h2 hb3 hb4
  generalize w3.heap.size = B at *
  subst hub
  have S4 : Tc w w4 E (.slice va E.length vc) s p (.slice none 0 0) (.int .i64 0) (.bool false) := ⟨k0, k1, k2, ho4, hb5⟩
  clear k0 k1 k2 ho4 hb5 hz3
  obtain ⟨_, _, _, a0, a1, a2, a3, a4, a5⟩ := S4.rd
  have S5 := hide (S4.s0 (.slice (some ⟨w.heap.size + 3, 0, none⟩) E.length E.length))
  clear S4
  go_upto_region 3 with fail
  clear a0 a1 a2 a3 a4 a5
  generalize w4.setCell ⟨w.heap.size + 1 + 1, 0, none⟩ (.slice (some ⟨w.heap.size + 3, 0, none⟩) E.length E.length) = w5 at *
  obtain ⟨_, z1, z2, a0, a1, a2, a3, a4, a5⟩ := (unhide S5).rd
  have S6 := hide ((unhide S5).s1 (.int .i64 s))
  clear S5
  go_upto_region 4 with fail
  clear a0 a1 a2 a3 a4 a5 z1 z2
  generalize w5.setCell ⟨w.heap.size + 1 + 1, 1, none⟩ (.int .i64 s) = w6 at *
  obtain ⟨_, z1, z2, a0, a1, a2, a3, a4, a5⟩ := (unhide S6).rd
  have S7 := hide ((unhide S6).s2 (.bool p))
  clear S6
  go_upto_region 5 with fail
  clear a0 a1 a2 a3 a4 a5 z1 z2
  generalize w6.setCell ⟨w.heap.size + 1 + 1, 2, none⟩ (.bool p) = w7 at *
  obtain ⟨_, _, _, a0, a1, a2, a3, a4, a5⟩ := (unhide S7).rd
  have k1 := (unhide S7).h1
  obtain ⟨b0, b1, b2, b3, b4, b5⟩ := three_cells k1
  have n1 := heap_setCell_same _ (w.heap.size + 1) 0 _ 29 (.slice (some ⟨w.heap.size + 3, 0, none⟩) E.length E.length) k1
  obtain ⟨c0, c1, c2, c3, c4, c5⟩ := three_cells n1
  have n2 := heap_setCell_same _ (w.heap.size + 1) 1 _ 29 (.int .i64 s) n1
  obtain ⟨d0, d1, d2, d3, d4, d5⟩ := three_cells n2
  have n3 := heap_setCell_same _ (w.heap.size + 1) 2 _ 29 (.bool p) n2
  obtain ⟨e0, e1, e2, e3, e4, e5⟩ := three_cells n3
  have F := hide (unhide S7).fin
  clear S7 k1 n1 n2 n3
  go_wp2
  refine bodyPost_ret (v := .agg #[.slice (some ⟨w.heap.size + 3, 0, none⟩) E.length E.length, .int .i64 s, .bool p]) (by simp [results, Try.results6, go_sem, e0, e1, e2]; try rfl) rfl ?_
  exact ⟨w.heap.size + 3, rfl, by omega, (unhide F).1, (unhide F).2⟩
end Go.Proofs.Ytgcpdpkkobkamaa.Col
