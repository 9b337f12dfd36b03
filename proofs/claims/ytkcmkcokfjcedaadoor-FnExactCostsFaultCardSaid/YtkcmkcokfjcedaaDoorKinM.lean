/- CostsFault of the program. -/
import Derived.Test.YtkcmkcokfjcedaaDoorKinB
import Derived.Test.YtkcmkcokfjcedaaDoorKinT
namespace Go.Proofs.YtkcmkcokfjcedaaDoor.Kin
open Go.RowKit
set_option linter.unusedVariables false
theorem seven_cells {w : World} {g : Nat} {x0 x1 x2 x3 x4 x5 x6 : Value} {T : TypeId} (h : w.heap[g]? = some (.cells #[x0, x1, x2, x3, x4, x5, x6] T (0, 0))) :
    (w.cell? ⟨g, 0, none⟩ = some x0 ∧ w.cell? ⟨g, 1, none⟩ = some x1 ∧ w.cell? ⟨g, 2, none⟩ = some x2 ∧ w.cell? ⟨g, 3, none⟩ = some x3 ∧ w.cell? ⟨g, 4, none⟩ = some x4 ∧ w.cell? ⟨g, 5, none⟩ = some x5 ∧ w.cell? ⟨g, 6, none⟩ = some x6) ∧
    (w.frozen? ⟨g, 0, none⟩ = false ∧ w.frozen? ⟨g, 1, none⟩ = false ∧ w.frozen? ⟨g, 2, none⟩ = false ∧ w.frozen? ⟨g, 3, none⟩ = false ∧ w.frozen? ⟨g, 4, none⟩ = false ∧ w.frozen? ⟨g, 5, none⟩ = false ∧ w.frozen? ⟨g, 6, none⟩ = false) := by
  simp [World.cell?, World.frozen?, h]
/-- The cells of a measure. -/
def msr (p d c k t : Int) (v m : Value) : Value := .agg #[.int .i64 p, .int .i64 d, .int .i64 c, .int .i64 k, .int .i64 t, v, m]
theorem heap_newM (w : World) (o : Obj) : (w.alloc o).heap[w.heap.size]? = some o := by unfold World.alloc; exact Array.getElem?_push_size
theorem kq_eq (p d c k t : Int) (K : List ByteArray) : rgt p d c k t K = (bnd p d c k t && kq K) := rfl
set_option maxRecDepth 100000 in
set_option maxHeartbeats 8000000 in
theorem measure_any (p d c k t : Int) (v : Value) (K : List ByteArray) (w : World) (hv : StrsAt w v K) (hl : K.length ≤ 1048576) (hs : ∀ i, i < K.length → (nthS K i).size ≤ 1048576) (hT : Tabs w) :
    Calls Tryd.prog 14 #[.agg #[.int .i64 p, .int .i64 d, .int .i64 c, .int .i64 k, .int .i64 t, v]] w fun e w' => ∃ p' d' c' k' t' x n y o, e = .returned (.tuple #[.agg #[.int .i64 p', .int .i64 d', .int .i64 c', .int .i64 k', .int .i64 t', .slice x n y, .map o], .bool (rgt p d c k t K)]) ∧ Below w.heap.size w w' := by
  have HR : Hid (rgt p d c k t K = (bnd p d c k t && kq K)) := hide rfl
  have CK := hide (fun W (h : Below w.heap.size w W) => kins_any v K W (hv.below h) hl hs (Utf8_below hT h))
  have HV := hide hv
  have CB := hide (fun W => bounds_any p d c k t v W (by obtain ⟨a, cap, rfl, _⟩ := hv; exact ⟨_, _, _, rfl⟩))
  obtain ⟨a, cap, rfl, _⟩ := hv
  have b2 : Below w.heap.size w ((w.alloc (.cells #[.int .i64 p, .int .i64 d, .int .i64 c, .int .i64 k, .int .i64 t, .slice a K.length cap] 27)).alloc (.cells #[.int .i64 0, .int .i64 0, .int .i64 0, .int .i64 0, .int .i64 0, .slice none 0 0, .map none] 40)) := ((Below.refl _ _).alloc (Nat.le_refl _) _).alloc (by simp) _
  have h1 : ((w.alloc (.cells #[.int .i64 p, .int .i64 d, .int .i64 c, .int .i64 k, .int .i64 t, .slice a K.length cap] 27)).alloc (.cells #[.int .i64 0, .int .i64 0, .int .i64 0, .int .i64 0, .int .i64 0, .slice none 0 0, .map none] 40)).heap[w.heap.size + 1]? = some (.cells #[.int .i64 0, .int .i64 0, .int .i64 0, .int .i64 0, .int .i64 0, .slice none 0 0, .map none] 40 (0, 0)) := by
    have := heap_newM (w.alloc (.cells #[.int .i64 p, .int .i64 d, .int .i64 c, .int .i64 k, .int .i64 t, .slice a K.length cap] 27)) (.cells #[.int .i64 0, .int .i64 0, .int .i64 0, .int .i64 0, .int .i64 0, .slice none 0 0, .map none] 40)
    simpa using this
  have h0 : ((w.alloc (.cells #[.int .i64 p, .int .i64 d, .int .i64 c, .int .i64 k, .int .i64 t, .slice a K.length cap] 27)).alloc (.cells #[.int .i64 0, .int .i64 0, .int .i64 0, .int .i64 0, .int .i64 0, .slice none 0 0, .map none] 40)).heap[w.heap.size]? = some (.cells #[.int .i64 p, .int .i64 d, .int .i64 c, .int .i64 k, .int .i64 t, .slice a K.length cap] 27 (0, 0)) := by
    rw [Below.heap_alloc _ _ _ (by simp)]
    exact heap_newM w _
  have hz : w.heap.size + 2 = ((w.alloc (.cells #[.int .i64 p, .int .i64 d, .int .i64 c, .int .i64 k, .int .i64 t, .slice a K.length cap] 27)).alloc (.cells #[.int .i64 0, .int .i64 0, .int .i64 0, .int .i64 0, .int .i64 0, .slice none 0 0, .map none] 40)).heap.size := by simp
  clear hs hT
  generalize rgt p d c k t K = R at *
  cases hq : bnd p d c k t with
  | false =>
    rw [hq] at CB HR
    have HE : Hid (R = false) := hide (by rw [unhide HR]; rfl)
    clear hq HR CK
    go_enter Tryd.func14, Tryd.ntmps14
    go_wp2_with fail
    generalize ((w.alloc (.cells #[.int .i64 p, .int .i64 d, .int .i64 c, .int .i64 k, .int .i64 t, .slice a K.length cap] 27)).alloc (.cells #[.int .i64 0, .int .i64 0, .int .i64 0, .int .i64 0, .int .i64 0, .slice none 0 0, .map none] 40)) = w2 at *
    refine ((unhide CB) _).mono ?_
    rintro e w3 ⟨rfl, hb3⟩
    have B3 := hide (b2.trans (hb3.mono b2.size))
    have k1 := (hb3.block (w.heap.size + 1) (by omega)).trans h1
    clear hb3 b2 h0 h1 CB
    obtain ⟨⟨p00, p01, p02, p03, p04, p05, p06⟩, ⟨q00, q01, q02, q03, q04, q05, q06⟩⟩ := seven_cells k1
    have m0 := heap_setCell_same _ (w.heap.size + 1) 0 _ 40 (.int .i64 0) k1
    obtain ⟨⟨p10, p11, p12, p13, p14, p15, p16⟩, ⟨q10, q11, q12, q13, q14, q15, q16⟩⟩ := seven_cells m0
    have m1 := heap_setCell_same _ (w.heap.size + 1) 1 _ 40 (.int .i64 0) m0
    obtain ⟨⟨p20, p21, p22, p23, p24, p25, p26⟩, ⟨q20, q21, q22, q23, q24, q25, q26⟩⟩ := seven_cells m1
    have m2 := heap_setCell_same _ (w.heap.size + 1) 2 _ 40 (.int .i64 0) m1
    obtain ⟨⟨p30, p31, p32, p33, p34, p35, p36⟩, ⟨q30, q31, q32, q33, q34, q35, q36⟩⟩ := seven_cells m2
    have m3 := heap_setCell_same _ (w.heap.size + 1) 3 _ 40 (.int .i64 0) m2
    obtain ⟨⟨p40, p41, p42, p43, p44, p45, p46⟩, ⟨q40, q41, q42, q43, q44, q45, q46⟩⟩ := seven_cells m3
    have m4 := heap_setCell_same _ (w.heap.size + 1) 4 _ 40 (.int .i64 0) m3
    obtain ⟨⟨p50, p51, p52, p53, p54, p55, p56⟩, ⟨q50, q51, q52, q53, q54, q55, q56⟩⟩ := seven_cells m4
    have m5 := heap_setCell_same _ (w.heap.size + 1) 5 _ 40 (.slice none 0 0) m4
    obtain ⟨⟨p60, p61, p62, p63, p64, p65, p66⟩, ⟨q60, q61, q62, q63, q64, q65, q66⟩⟩ := seven_cells m5
    have m6 := heap_setCell_same _ (w.heap.size + 1) 6 _ 40 (.map none) m5
    obtain ⟨⟨e0, e1, e2, e3, e4, e5, e6⟩, _⟩ := seven_cells m6
    have FB := hide ((((((((unhide B3).setCell (p := ⟨w.heap.size + 1, 0, none⟩) (by simp) (.int .i64 0)).setCell (p := ⟨w.heap.size + 1, 1, none⟩) (by simp) (.int .i64 0)).setCell (p := ⟨w.heap.size + 1, 2, none⟩) (by simp) (.int .i64 0)).setCell (p := ⟨w.heap.size + 1, 3, none⟩) (by simp) (.int .i64 0)).setCell (p := ⟨w.heap.size + 1, 4, none⟩) (by simp) (.int .i64 0)).setCell (p := ⟨w.heap.size + 1, 5, none⟩) (by simp) (.slice none 0 0)).setCell (p := ⟨w.heap.size + 1, 6, none⟩) (by simp) (.map none))
    clear k1 m0 m1 m2 m3 m4 m5 m6
    go_wp2
    refine bodyPost_ret (v := .tuple #[.agg #[.int .i64 0, .int .i64 0, .int .i64 0, .int .i64 0, .int .i64 0, .slice none 0 0, .map none], .bool false]) (by simp [results, Tryd.results14, go_sem, e0, e1, e2, e3, e4, e5, e6]; try rfl) rfl ?_
    exact ⟨_, _, _, _, _, _, _, _, _, by rw [unhide HE], unhide FB⟩
  | true =>
    rw [hq] at CB HR
    have HE : Hid (R = kq K) := hide (by rw [unhide HR]; rfl)
    clear hq HR
    generalize kq K = q at *
    go_enter Tryd.func14, Tryd.ntmps14
    go_wp2_with fail
    generalize ((w.alloc (.cells #[.int .i64 p, .int .i64 d, .int .i64 c, .int .i64 k, .int .i64 t, .slice a K.length cap] 27)).alloc (.cells #[.int .i64 0, .int .i64 0, .int .i64 0, .int .i64 0, .int .i64 0, .slice none 0 0, .map none] 40)) = w2 at *
    refine ((unhide CB) _).mono ?_
    rintro e w3 ⟨rfl, hb3⟩
    have B3 := hide (b2.trans (hb3.mono b2.size))
    have j1 := (hb3.block (w.heap.size + 1) (by omega)).trans h1
    have j0 := (hb3.block w.heap.size (by omega)).trans h0
    have s3 := hb3.size
    clear hb3 b2 h0 h1 CB
    obtain ⟨⟨c0, c1, c2, c3, c4, c5⟩, _⟩ := six_cells j0
    go_wp2_with fail
    refine ((unhide CK) _ (unhide B3)).mono ?_
    rintro e w4 ⟨o, rfl, hb4⟩
    have B4 := hide ((unhide B3).trans (hb4.mono (unhide B3).size))
    have k1 := (hb4.block (w.heap.size + 1) (by omega)).trans j1
    have k0 := (hb4.block w.heap.size (by omega)).trans j0
    clear hb4 j0 j1 c0 c1 c2 c3 c4 c5 CK
    obtain ⟨⟨c0, c1, c2, c3, c4, c5⟩, _⟩ := six_cells k0
    obtain ⟨⟨p00, p01, p02, p03, p04, p05, p06⟩, ⟨q00, q01, q02, q03, q04, q05, q06⟩⟩ := seven_cells k1
    have m0 := heap_setCell_same _ (w.heap.size + 1) 0 _ 40 (.int .i64 p) k1
    obtain ⟨⟨p10, p11, p12, p13, p14, p15, p16⟩, ⟨q10, q11, q12, q13, q14, q15, q16⟩⟩ := seven_cells m0
    have m1 := heap_setCell_same _ (w.heap.size + 1) 1 _ 40 (.int .i64 d) m0
    obtain ⟨⟨p20, p21, p22, p23, p24, p25, p26⟩, ⟨q20, q21, q22, q23, q24, q25, q26⟩⟩ := seven_cells m1
    have m2 := heap_setCell_same _ (w.heap.size + 1) 2 _ 40 (.int .i64 c) m1
    obtain ⟨⟨p30, p31, p32, p33, p34, p35, p36⟩, ⟨q30, q31, q32, q33, q34, q35, q36⟩⟩ := seven_cells m2
    have m3 := heap_setCell_same _ (w.heap.size + 1) 3 _ 40 (.int .i64 k) m2
    obtain ⟨⟨p40, p41, p42, p43, p44, p45, p46⟩, ⟨q40, q41, q42, q43, q44, q45, q46⟩⟩ := seven_cells m3
    have m4 := heap_setCell_same _ (w.heap.size + 1) 4 _ 40 (.int .i64 t) m3
    obtain ⟨⟨p50, p51, p52, p53, p54, p55, p56⟩, ⟨q50, q51, q52, q53, q54, q55, q56⟩⟩ := seven_cells m4
    have m5 := heap_setCell_same _ (w.heap.size + 1) 5 _ 40 (.slice a K.length cap) m4
    obtain ⟨⟨p60, p61, p62, p63, p64, p65, p66⟩, ⟨q60, q61, q62, q63, q64, q65, q66⟩⟩ := seven_cells m5
    have m6 := heap_setCell_same _ (w.heap.size + 1) 6 _ 40 (.map o) m5
    obtain ⟨⟨e0, e1, e2, e3, e4, e5, e6⟩, _⟩ := seven_cells m6
    have FB := hide ((((((((unhide B4).setCell (p := ⟨w.heap.size + 1, 0, none⟩) (by simp) (.int .i64 p)).setCell (p := ⟨w.heap.size + 1, 1, none⟩) (by simp) (.int .i64 d)).setCell (p := ⟨w.heap.size + 1, 2, none⟩) (by simp) (.int .i64 c)).setCell (p := ⟨w.heap.size + 1, 3, none⟩) (by simp) (.int .i64 k)).setCell (p := ⟨w.heap.size + 1, 4, none⟩) (by simp) (.int .i64 t)).setCell (p := ⟨w.heap.size + 1, 5, none⟩) (by simp) (.slice a K.length cap)).setCell (p := ⟨w.heap.size + 1, 6, none⟩) (by simp) (.map o))
    clear k0 k1 m0 m1 m2 m3 m4 m5 m6
    go_wp2
    refine bodyPost_ret (v := .tuple #[.agg #[.int .i64 p, .int .i64 d, .int .i64 c, .int .i64 k, .int .i64 t, .slice a K.length cap, .map o], .bool q]) (by simp [results, Tryd.results14, go_sem, e0, e1, e2, e3, e4, e5, e6]; try rfl) rfl ?_
    exact ⟨_, _, _, _, _, _, _, _, _, by rw [unhide HE], unhide FB⟩
set_option maxRecDepth 100000 in
set_option maxHeartbeats 8000000 in
theorem implC (p d c k t : Int) (v : Value) (K : List ByteArray) (w : World) (hv : StrsAt w v K) (hl : K.length ≤ 1048576) (hs : ∀ i, i < K.length → (nthS K i).size ≤ 1048576) (hT : Tabs w) :
    Calls Tryd.prog 7 #[.agg #[.int .i64 p, .int .i64 d, .int .i64 c, .int .i64 k, .int .i64 t, v]] w fun e w' => e = .returned (.int .i64 (cft p d c k t K)) ∧ Below w.heap.size w w' := by
  have HR : Hid (cft p d c k t K = if rgt p d c k t K = true then 0 else 1) := hide rfl
  have CM := hide (fun W (h : Below w.heap.size w W) => measure_any p d c k t v K W (hv.below h) hl hs (Utf8_below hT h))
  obtain ⟨a, cap, rfl, _⟩ := hv
  have b1 : Hid (Below w.heap.size w (w.alloc (.cells #[.int .i64 p, .int .i64 d, .int .i64 c, .int .i64 k, .int .i64 t, .slice a K.length cap] 27))) := hide ((Below.refl _ _).alloc (Nat.le_refl _) _)
  clear hs hT
  generalize cft p d c k t K = R at *
  cases hq : rgt p d c k t K with
  | false =>
    rw [hq] at CM HR
    have HE : Hid (R = 1) := hide (by rw [unhide HR]; rfl)
    clear hq HR
    go_enter Tryd.func7, Tryd.ntmps7
    go_wp2_with (go_at_call 14; refine ((unhide CM) _ (unhide b1)).mono ?_; rintro e w3 ⟨p', d', c', k', t', x, n, y, o, rfl, hb3⟩; have B3 := hide ((unhide b1).trans (hb3.mono (unhide b1).size)); clear hb3)
    go_ret
    exact ⟨by rw [unhide HE]; rfl, (unhide B3).alloc (unhide B3).size _⟩
  | true =>
    rw [hq] at CM HR
    have HE : Hid (R = 0) := hide (by rw [unhide HR]; rfl)
    clear hq HR
    go_enter Tryd.func7, Tryd.ntmps7
    go_wp2_with (go_at_call 14; refine ((unhide CM) _ (unhide b1)).mono ?_; rintro e w3 ⟨p', d', c', k', t', x, n, y, o, rfl, hb3⟩; have B3 := hide ((unhide b1).trans (hb3.mono (unhide b1).size)); clear hb3)
    go_ret
    exact ⟨by rw [unhide HE]; rfl, (unhide B3).alloc (unhide B3).size _⟩
end Go.Proofs.YtkcmkcokfjcedaaDoor.Kin
