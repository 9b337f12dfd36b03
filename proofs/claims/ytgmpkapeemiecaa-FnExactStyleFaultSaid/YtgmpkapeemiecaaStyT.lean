/- A style copied. -/
import Derived.Test.YtgmpkapeemiecaaStyW
namespace Go.Proofs.Ytgmpkapeemiecaa.Sty
open Go.RowKit
set_option linter.unusedVariables false
theorem heap_new (w : World) (o : Obj) : (w.alloc o).heap[w.heap.size]? = some o := by unfold World.alloc; exact Array.getElem?_push_size
theorem four_cells {w : World} {g : Nat} {x0 x1 x2 x3 : Value} {T : TypeId} (h : w.heap[g]? = some (.cells #[x0, x1, x2, x3] T (0, 0))) :
    (w.cell? ⟨g, 0, none⟩ = some x0 ∧ w.cell? ⟨g, 1, none⟩ = some x1 ∧ w.cell? ⟨g, 2, none⟩ = some x2 ∧ w.cell? ⟨g, 3, none⟩ = some x3) ∧ (w.frozen? ⟨g, 0, none⟩ = false ∧ w.frozen? ⟨g, 1, none⟩ = false ∧ w.frozen? ⟨g, 2, none⟩ = false ∧ w.frozen? ⟨g, 3, none⟩ = false) := by
  simp [World.cell?, World.frozen?, h]
theorem own_set {w : World} {B g i n : Nat} {v x : Value} {xs : List Value} (h : w.ownsRow B 9 1 v n xs) (hg : g < B) : (w.setCell ⟨g, i, none⟩ x).ownsRow B 9 1 v n xs := by
  refine h.kept (row := some g) ⟨rfl, rfl, rfl, by simp, fun k _ hk => heap_setCell_other w ⟨g, i, none⟩ k x (fun e => hk (by rw [e]))⟩ ?_
  by_cases e : v.ownBlock = none
  · exact .inl e
  · refine .inr fun e2 => ?_
    have := (h.lt g e2).1
    omega
set_option maxRecDepth 100000 in
set_option maxHeartbeats 4000000 in
theorem toStyle_any (p d c : Int) (v : Value) (K : List ByteArray) (w : World) (hv : StrsAt w v K) (hl : K.length ≤ 1048576) :
    Calls Try.prog 19 #[.agg #[.int .i64 p, .int .i64 d, .int .i64 c, v]] w fun e w' => ∃ v', e = .returned (.agg #[.int .i64 p, .int .i64 d, .int .i64 c, v']) ∧ StrsAt w' v' K ∧ Below w.heap.size w w' := by
  have CT := hide (fun W h => toStrs_any v K W h hl)
  have HV := hide hv
  obtain ⟨va, vc, rfl, _⟩ := hv
  go_enter Try.func19, Try.ntmps19
  go_wp2_with fail
  have hb3 : Below w.heap.size w (((w.alloc (.cells #[.int .i64 p, .int .i64 d, .int .i64 c, .slice va K.length vc] 34)).alloc (.cells #[.int .i64 0, .int .i64 0, .int .i64 0, .slice none 0 0] 37)).alloc (.cells #[.int .i64 p, .int .i64 d, .int .i64 c, .slice none 0 0] 37)) := ((((Below.refl _ _).alloc (Nat.le_refl _) _).alloc (by simp) _).alloc (by simp; omega) _)
  have hz3 : (((w.alloc (.cells #[.int .i64 p, .int .i64 d, .int .i64 c, .slice va K.length vc] 34)).alloc (.cells #[.int .i64 0, .int .i64 0, .int .i64 0, .slice none 0 0] 37)).alloc (.cells #[.int .i64 p, .int .i64 d, .int .i64 c, .slice none 0 0] 37)).heap.size = w.heap.size + 3 := by simp
  have h1 : (((w.alloc (.cells #[.int .i64 p, .int .i64 d, .int .i64 c, .slice va K.length vc] 34)).alloc (.cells #[.int .i64 0, .int .i64 0, .int .i64 0, .slice none 0 0] 37)).alloc (.cells #[.int .i64 p, .int .i64 d, .int .i64 c, .slice none 0 0] 37)).heap[w.heap.size + 1]? = some (.cells #[.int .i64 0, .int .i64 0, .int .i64 0, .slice none 0 0] 37 (0, 0)) := by
    rw [Below.heap_alloc _ _ _ (by simp)]
    have := heap_new (w.alloc (.cells #[.int .i64 p, .int .i64 d, .int .i64 c, .slice va K.length vc] 34)) (.cells #[.int .i64 0, .int .i64 0, .int .i64 0, .slice none 0 0] 37)
    simpa using this
  have h0 : (((w.alloc (.cells #[.int .i64 p, .int .i64 d, .int .i64 c, .slice va K.length vc] 34)).alloc (.cells #[.int .i64 0, .int .i64 0, .int .i64 0, .slice none 0 0] 37)).alloc (.cells #[.int .i64 p, .int .i64 d, .int .i64 c, .slice none 0 0] 37)).heap[w.heap.size]? = some (.cells #[.int .i64 p, .int .i64 d, .int .i64 c, .slice va K.length vc] 34 (0, 0)) := by
    rw [Below.heap_alloc _ _ _ (by simp; omega), Below.heap_alloc _ _ _ (by simp)]
    exact heap_new w _
  have h2 : (((w.alloc (.cells #[.int .i64 p, .int .i64 d, .int .i64 c, .slice va K.length vc] 34)).alloc (.cells #[.int .i64 0, .int .i64 0, .int .i64 0, .slice none 0 0] 37)).alloc (.cells #[.int .i64 p, .int .i64 d, .int .i64 c, .slice none 0 0] 37)).heap[w.heap.size + 1 + 1]? = some (.cells #[.int .i64 p, .int .i64 d, .int .i64 c, .slice none 0 0] 37 (0, 0)) := by
    have := heap_new ((w.alloc (.cells #[.int .i64 p, .int .i64 d, .int .i64 c, .slice va K.length vc] 34)).alloc (.cells #[.int .i64 0, .int .i64 0, .int .i64 0, .slice none 0 0] 37)) (.cells #[.int .i64 p, .int .i64 d, .int .i64 c, .slice none 0 0] 37)
    simpa using this
  generalize (((w.alloc (.cells #[.int .i64 p, .int .i64 d, .int .i64 c, .slice va K.length vc] 34)).alloc (.cells #[.int .i64 0, .int .i64 0, .int .i64 0, .slice none 0 0] 37)).alloc (.cells #[.int .i64 p, .int .i64 d, .int .i64 c, .slice none 0 0] 37)) = w3 at *
  refine ((unhide CT) _ (StrsAt.below (unhide HV) hb3)).mono ?_
  rintro e w4 ⟨rfl, ho4, hb4⟩
  have k1 := (hb4.block (w.heap.size + 1) (by omega)).trans h1
  have k2 := (hb4.block (w.heap.size + 1 + 1) (by omega)).trans h2
  have hb5 := hb3.trans (hb4.mono hb3.size)
  have ho5 := StrsAt.owned ho4
  have hub : w3.heap.size = w.heap.size + 3 := hz3
  rw [hub] at ho5 ho4 ⊢
  clear CT HV h0 h1 h2 hb3 hb4 hz3 hub
  have l1 := (heap_setCell_other w4 ⟨w.heap.size + 1 + 1, 3, none⟩ (w.heap.size + 1) (.slice (some ⟨w.heap.size + 3, 0, none⟩) K.length K.length) (by simp)).trans k1
  have l2 := heap_setCell_same w4 (w.heap.size + 1 + 1) 3 _ 37 (.slice (some ⟨w.heap.size + 3, 0, none⟩) K.length K.length) k2
  have b5 := hide (hb5.setCell (p := ⟨w.heap.size + 1 + 1, 3, none⟩) (by simp; omega) (.slice (some ⟨w.heap.size + 3, 0, none⟩) K.length K.length))
  have O5 := hide (own_set ho4 (g := w.heap.size + 1 + 1) (i := 3) (x := (.slice (some ⟨w.heap.size + 3, 0, none⟩) K.length K.length)) (by omega))
  obtain ⟨⟨a0, a1, a2, a3⟩, ⟨f0, f1, f2, f3⟩⟩ := four_cells k2
  clear k1 k2 hb5 ho4 ho5
  go_upto_region 6 with fail
  generalize w4.setCell ⟨w.heap.size + 1 + 1, 3, none⟩ (.slice (some ⟨w.heap.size + 3, 0, none⟩) K.length K.length) = w5 at *
  clear a0 a1 a2 a3 f0 f1 f2 f3
  obtain ⟨⟨a0, a1, a2, a3⟩, _⟩ := four_cells l2
  obtain ⟨⟨p00, p01, p02, p03⟩, ⟨q00, q01, q02, q03⟩⟩ := four_cells l1
  have m0 := heap_setCell_same _ (w.heap.size + 1) 0 _ 37 (.int .i64 p) l1
  obtain ⟨⟨p10, p11, p12, p13⟩, ⟨q10, q11, q12, q13⟩⟩ := four_cells m0
  have m1 := heap_setCell_same _ (w.heap.size + 1) 1 _ 37 (.int .i64 d) m0
  obtain ⟨⟨p20, p21, p22, p23⟩, ⟨q20, q21, q22, q23⟩⟩ := four_cells m1
  have m2 := heap_setCell_same _ (w.heap.size + 1) 2 _ 37 (.int .i64 c) m1
  obtain ⟨⟨p30, p31, p32, p33⟩, ⟨q30, q31, q32, q33⟩⟩ := four_cells m2
  have m3 := heap_setCell_same _ (w.heap.size + 1) 3 _ 37 (.slice (some ⟨w.heap.size + 3, 0, none⟩) K.length K.length) m2
  obtain ⟨⟨e0, e1, e2, e3⟩, _⟩ := four_cells m3
  have FB : Hid (Below w.heap.size w ((((w5.setCell ⟨w.heap.size + 1, 0, none⟩ (.int .i64 p)).setCell ⟨w.heap.size + 1, 1, none⟩ (.int .i64 d)).setCell ⟨w.heap.size + 1, 2, none⟩ (.int .i64 c)).setCell ⟨w.heap.size + 1, 3, none⟩ (.slice (some ⟨w.heap.size + 3, 0, none⟩) K.length K.length))) := hide (((((unhide b5).setCell (p := ⟨w.heap.size + 1, 0, none⟩) (by simp) (.int .i64 p)).setCell (p := ⟨w.heap.size + 1, 1, none⟩) (by simp) (.int .i64 d)).setCell (p := ⟨w.heap.size + 1, 2, none⟩) (by simp) (.int .i64 c)).setCell (p := ⟨w.heap.size + 1, 3, none⟩) (by simp) (.slice (some ⟨w.heap.size + 3, 0, none⟩) K.length K.length))
  have FO := hide (own_set (own_set (own_set (own_set (unhide O5) (g := w.heap.size + 1) (i := 0) (x := (.int .i64 p)) (by omega)) (g := w.heap.size + 1) (i := 1) (x := (.int .i64 d)) (by omega)) (g := w.heap.size + 1) (i := 2) (x := (.int .i64 c)) (by omega)) (g := w.heap.size + 1) (i := 3) (x := (.slice (some ⟨w.heap.size + 3, 0, none⟩) K.length K.length)) (by omega))
  clear l1 l2 b5 O5 m0 m1 m2 m3
  go_wp2
  refine bodyPost_ret (v := .agg #[.int .i64 p, .int .i64 d, .int .i64 c, .slice (some ⟨w.heap.size + 3, 0, none⟩) K.length K.length]) (by simp [results, Try.results19, go_sem, e0, e1, e2, e3]; try rfl) rfl ?_
  exact ⟨_, rfl, StrsAt.owned (unhide FO), unhide FB⟩
end Go.Proofs.Ytgmpkapeemiecaa.Sty
