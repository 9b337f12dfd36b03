/- A rule turned, as the program does it. -/
import Derived.Test.YtaebmajaefpcfaaDoorPasT
import Derived.Test.YtaebmajaefpcfaaDoorCloS
namespace Go.Proofs.YtaebmajaefpcfaaDoor.Pas
open Go.RowKit
set_option linter.unusedVariables false
/-- Five values stored into a block. -/
def put5 (w : World) (q : Nat) (a b c d : ByteArray) : World := ((((w.setCell ⟨q, 0, none⟩ (.string a)).setCell ⟨q, 1, none⟩ (.string b)).setCell ⟨q, 2, none⟩ (.string c)).setCell ⟨q, 3, none⟩ (.string d)).setCell ⟨q, 4, none⟩ (.int .i64 0)
theorem put5_other (w : World) (q k : Nat) (a b c d : ByteArray) (h : k ≠ q) : (put5 w q a b c d).heap[k]? = w.heap[k]? := by
  unfold put5
  rw [heap_setCell_other _ ⟨q, 4, none⟩ k _ h, heap_setCell_other _ ⟨q, 3, none⟩ k _ h, heap_setCell_other _ ⟨q, 2, none⟩ k _ h, heap_setCell_other _ ⟨q, 1, none⟩ k _ h, heap_setCell_other _ ⟨q, 0, none⟩ k _ h]
theorem ff_cells {w : World} {g : Nat} {a b c d e : Value} {T : TypeId} (h : w.heap[g]? = some (.cells #[a, b, c, d, e] T (0, 0))) : (w.cell? ⟨g, 0, none⟩ = some a ∧ w.cell? ⟨g, 1, none⟩ = some b ∧ w.cell? ⟨g, 2, none⟩ = some c ∧ w.cell? ⟨g, 3, none⟩ = some d ∧ w.cell? ⟨g, 4, none⟩ = some e) ∧ ∀ i, w.frozen? ⟨g, i, none⟩ = false := by
  simp [World.cell?, World.frozen?, h]
theorem five_put {w : World} {q : Nat} {a b c d : ByteArray} {T : TypeId} (h : w.heap[q]? = some (.cells #[.string ⟨#[]⟩, .string ⟨#[]⟩, .string ⟨#[]⟩, .string ⟨#[]⟩, .int .i64 0] T (0, 0))) :
    (w.cell? ⟨q, 0, none⟩ = some (.string ⟨#[]⟩) ∧ w.frozen? ⟨q, 0, none⟩ = false) ∧
    ((w.setCell ⟨q, 0, none⟩ (.string a)).cell? ⟨q, 1, none⟩ = some (.string ⟨#[]⟩) ∧ (w.setCell ⟨q, 0, none⟩ (.string a)).frozen? ⟨q, 1, none⟩ = false) ∧
    (((w.setCell ⟨q, 0, none⟩ (.string a)).setCell ⟨q, 1, none⟩ (.string b)).cell? ⟨q, 2, none⟩ = some (.string ⟨#[]⟩) ∧ ((w.setCell ⟨q, 0, none⟩ (.string a)).setCell ⟨q, 1, none⟩ (.string b)).frozen? ⟨q, 2, none⟩ = false) ∧
    ((((w.setCell ⟨q, 0, none⟩ (.string a)).setCell ⟨q, 1, none⟩ (.string b)).setCell ⟨q, 2, none⟩ (.string c)).cell? ⟨q, 3, none⟩ = some (.string ⟨#[]⟩) ∧ (((w.setCell ⟨q, 0, none⟩ (.string a)).setCell ⟨q, 1, none⟩ (.string b)).setCell ⟨q, 2, none⟩ (.string c)).frozen? ⟨q, 3, none⟩ = false) ∧
    (((((w.setCell ⟨q, 0, none⟩ (.string a)).setCell ⟨q, 1, none⟩ (.string b)).setCell ⟨q, 2, none⟩ (.string c)).setCell ⟨q, 3, none⟩ (.string d)).cell? ⟨q, 4, none⟩ = some (.int .i64 0) ∧ ((((w.setCell ⟨q, 0, none⟩ (.string a)).setCell ⟨q, 1, none⟩ (.string b)).setCell ⟨q, 2, none⟩ (.string c)).setCell ⟨q, 3, none⟩ (.string d)).frozen? ⟨q, 4, none⟩ = false) ∧
    (put5 w q a b c d).heap[q]? = some (.cells #[.string a, .string b, .string c, .string d, .int .i64 0] T (0, 0)) ∧
    (w.cell? ⟨q, 1, none⟩ = some (.string ⟨#[]⟩) ∧ w.frozen? ⟨q, 1, none⟩ = false) ∧ (w.cell? ⟨q, 2, none⟩ = some (.string ⟨#[]⟩) ∧ w.frozen? ⟨q, 2, none⟩ = false) ∧ (w.cell? ⟨q, 3, none⟩ = some (.string ⟨#[]⟩) ∧ w.frozen? ⟨q, 3, none⟩ = false) ∧ (w.cell? ⟨q, 4, none⟩ = some (.int .i64 0) ∧ w.frozen? ⟨q, 4, none⟩ = false) ∧ True := by
  have m1 := heap_setCell_same w q 0 _ T (.string a) h
  have m2 := heap_setCell_same _ q 1 _ T (.string b) m1
  have m3 := heap_setCell_same _ q 2 _ T (.string c) m2
  have m4 := heap_setCell_same _ q 3 _ T (.string d) m3
  have m5 := heap_setCell_same _ q 4 _ T (.int .i64 0) m4
  obtain ⟨⟨x0, x1, x2, x3, x4⟩, xf⟩ := ff_cells h
  obtain ⟨⟨_, y1, _, _, _⟩, yf⟩ := ff_cells m1
  obtain ⟨⟨_, _, y2, _, _⟩, zf⟩ := ff_cells m2
  obtain ⟨⟨_, _, _, y3, _⟩, tf⟩ := ff_cells m3
  obtain ⟨⟨_, _, _, _, y4⟩, uf⟩ := ff_cells m4
  exact ⟨⟨x0, xf 0⟩, ⟨y1, yf 1⟩, ⟨y2, zf 2⟩, ⟨y3, tf 3⟩, ⟨y4, uf 4⟩, m5, ⟨x1, xf 1⟩, ⟨x2, xf 2⟩, ⟨x3, xf 3⟩, ⟨x4, xf 4⟩, trivial⟩
set_option maxRecDepth 100000 in
set_option maxHeartbeats 8000000 in
theorem wrTurned_any (r : Ru) (w : World) (hm : sz1 r ≤ 1048576) : Calls Tryd.prog 35 #[rv r] w fun e w' => e = .returned (rv (trn r)) ∧ Below w.heap.size w w' := by
  obtain ⟨a, b, c, d, g⟩ := r
  unfold sz1 at hm
  simp only at hm
  unfold rv trn
  simp only
  have CA := hide (fun W => clone_any a W (by omega))
  have CB := hide (fun W => clone_any b W (by omega))
  have CC := hide (fun W => clone_any c W (by omega))
  have CD := hide (fun W => clone_any d W (by omega))
  go_enter Tryd.func35, Tryd.ntmps35
  go_upto_region 1 with fail
  have B1 := hide ((al1 w (.cells #[.string a, .string b, .string c, .string d, .int .i64 g] 39)).alloc (by simp) (.cells #[.string ⟨#[]⟩, .string ⟨#[]⟩, .string ⟨#[]⟩, .string ⟨#[]⟩, .int .i64 0] 39))
  have KQ := hide ((Below.heap_alloc (w.alloc (.cells #[.string a, .string b, .string c, .string d, .int .i64 g] 39)) (.cells #[.string ⟨#[]⟩, .string ⟨#[]⟩, .string ⟨#[]⟩, .string ⟨#[]⟩, .int .i64 0] 39) w.heap.size (by simp)).trans (heap_new w (.cells #[.string a, .string b, .string c, .string d, .int .i64 g] 39)))
  have KZ : Hid (((w.alloc (.cells #[.string a, .string b, .string c, .string d, .int .i64 g] 39)).alloc (.cells #[.string ⟨#[]⟩, .string ⟨#[]⟩, .string ⟨#[]⟩, .string ⟨#[]⟩, .int .i64 0] 39)).heap[w.heap.size + 1]? = some (.cells #[.string ⟨#[]⟩, .string ⟨#[]⟩, .string ⟨#[]⟩, .string ⟨#[]⟩, .int .i64 0] 39 (0, 0))) := hide (by
    have := heap_new (w.alloc (.cells #[.string a, .string b, .string c, .string d, .int .i64 g] 39)) (.cells #[.string ⟨#[]⟩, .string ⟨#[]⟩, .string ⟨#[]⟩, .string ⟨#[]⟩, .int .i64 0] 39)
    simpa using this)
  generalize (w.alloc (.cells #[.string a, .string b, .string c, .string d, .int .i64 g] 39)).alloc (.cells #[.string ⟨#[]⟩, .string ⟨#[]⟩, .string ⟨#[]⟩, .string ⟨#[]⟩, .int .i64 0] 39) = w1 at *
  have hq1 : w.heap.size < w1.heap.size := (Array.getElem?_eq_some_iff.1 (unhide KQ)).1
  have hz1 : w.heap.size + 1 < w1.heap.size := (Array.getElem?_eq_some_iff.1 (unhide KZ)).1
  have KS : (fun w' => w'.cell? ⟨w.heap.size, 0, none⟩ = some (.string a) ∧ w'.cell? ⟨w.heap.size, 1, none⟩ = some (.string b) ∧ w'.cell? ⟨w.heap.size, 2, none⟩ = some (.string c) ∧ w'.cell? ⟨w.heap.size, 3, none⟩ = some (.string d) ∧ w'.cell? ⟨w.heap.size, 4, none⟩ = some (.int .i64 g)) w1 := five_cells (unhide KQ)
  refine wp_region_held_drew (S := fun w' => w'.cell? ⟨w.heap.size, 0, none⟩ = some (.string a) ∧ w'.cell? ⟨w.heap.size, 1, none⟩ = some (.string b) ∧ w'.cell? ⟨w.heap.size, 2, none⟩ = some (.string c) ∧ w'.cell? ⟨w.heap.size, 3, none⟩ = some (.string d) ∧ w'.cell? ⟨w.heap.size, 4, none⟩ = some (.int .i64 g)) (by kernel_rfl) (by first | go_keep | exact KS) (fun hHeld => ?_)
  refine tkP (i := 0) (d := some 3) (v := ?_) rfl rfl (by kernel_rfl) (by kernel_rfl) (by kernel_rfl) (fun _ _ _ h => h) (Or.inl ⟨by rfl, ?_⟩) (by assumption) ?_
  rotate_left
  · intro w hSw; (try dsimp only at hSw); go_simp; try with_reducible rfl
  try simp only [Act.put, List.setIfInBounds_toArray, List.set_cons_zero, List.set_cons_succ]
  refine tkP (i := 1) (d := some 4) (v := ?_) rfl rfl (by kernel_rfl) (by kernel_rfl) (by kernel_rfl) (fun _ _ _ h => h) (Or.inl ⟨by rfl, ?_⟩) (by assumption) ?_
  rotate_left
  · intro w hSw; (try dsimp only at hSw); go_simp; try with_reducible rfl
  try simp only [Act.put, List.setIfInBounds_toArray, List.set_cons_zero, List.set_cons_succ]
  refine tkP (i := 3) (d := some 6) (v := ?_) rfl rfl (by kernel_rfl) (by kernel_rfl) (by kernel_rfl) (fun _ _ _ h => h) (Or.inl ⟨by rfl, ?_⟩) (by assumption) ?_
  rotate_left
  · intro w hSw; (try dsimp only at hSw); go_simp; try with_reducible rfl
  try simp only [Act.put, List.setIfInBounds_toArray, List.set_cons_zero, List.set_cons_succ]
  refine tkP (i := 4) (d := some 7) (v := ?_) rfl rfl (by kernel_rfl) (by kernel_rfl) (by kernel_rfl) (fun _ _ _ h => h) (Or.inl ⟨by rfl, ?_⟩) (by assumption) ?_
  rotate_left
  · intro w hSw; (try dsimp only at hSw); go_simp; try with_reducible rfl
  try simp only [Act.put, List.setIfInBounds_toArray, List.set_cons_zero, List.set_cons_succ]
  refine tkP (i := 6) (d := some 9) (v := ?_) rfl rfl (by kernel_rfl) (by kernel_rfl) (by kernel_rfl) (fun _ _ _ h => h) (Or.inl ⟨by rfl, ?_⟩) (by assumption) ?_
  rotate_left
  · intro w hSw; (try dsimp only at hSw); go_simp; try with_reducible rfl
  try simp only [Act.put, List.setIfInBounds_toArray, List.set_cons_zero, List.set_cons_succ]
  refine tkP (i := 7) (d := some 10) (v := ?_) rfl rfl (by kernel_rfl) (by kernel_rfl) (by kernel_rfl) (fun _ _ _ h => h) (Or.inl ⟨by rfl, ?_⟩) (by assumption) ?_
  rotate_left
  · intro w hSw; (try dsimp only at hSw); go_simp; try with_reducible rfl
  try simp only [Act.put, List.setIfInBounds_toArray, List.set_cons_zero, List.set_cons_succ]
  refine tkP (i := 9) (d := some 12) (v := ?_) rfl rfl (by kernel_rfl) (by kernel_rfl) (by kernel_rfl) (fun _ _ _ h => h) (Or.inl ⟨by rfl, ?_⟩) (by assumption) ?_
  rotate_left
  · intro w hSw; (try dsimp only at hSw); go_simp; try with_reducible rfl
  try simp only [Act.put, List.setIfInBounds_toArray, List.set_cons_zero, List.set_cons_succ]
  refine tkP (i := 10) (d := some 13) (v := ?_) rfl rfl (by kernel_rfl) (by kernel_rfl) (by kernel_rfl) (fun _ _ _ h => h) (Or.inl ⟨by rfl, ?_⟩) (by assumption) ?_
  rotate_left
  · intro w hSw; (try dsimp only at hSw); go_simp; try with_reducible rfl
  try simp only [Act.put, List.setIfInBounds_toArray, List.set_cons_zero, List.set_cons_succ]
  refine wpAnyH_ready (rs := [2]) (by kernel_rfl) (by simp) (AllReadyH.cons rfl (fun K hK => ?_) AllReadyH.nil)
  go_simp
  go_at_call 44
  refine ((unhide CA) _).mono ?_
  rintro e v0 ⟨rfl, hb0⟩
  have BB0 := hide ((unhide B1).trans (((drewB w1).trans hb0).mono (unhide B1).size))
  have HQ0 := hide ((((drewB w1).trans hb0).block w.heap.size hq1).trans (unhide KQ))
  have HZ0 := hide ((((drewB w1).trans hb0).block (w.heap.size + 1) hz1).trans (unhide KZ))
  have hqa0 : w.heap.size < v0.heap.size := (Array.getElem?_eq_some_iff.1 (unhide HQ0)).1
  have hqb0 : w.heap.size + 1 < v0.heap.size := (Array.getElem?_eq_some_iff.1 (unhide HZ0)).1
  have KS0 : (fun w' => w'.cell? ⟨w.heap.size, 0, none⟩ = some (.string a) ∧ w'.cell? ⟨w.heap.size, 1, none⟩ = some (.string b) ∧ w'.cell? ⟨w.heap.size, 2, none⟩ = some (.string c) ∧ w'.cell? ⟨w.heap.size, 3, none⟩ = some (.string d) ∧ w'.cell? ⟨w.heap.size, 4, none⟩ = some (.int .i64 g)) v0 := five_cells (unhide HQ0)
  clear hb0
  try go_wp2_with fail
  refine hK.out _ _ KS0 (fun hHeldx0 => ?_)
  clear hK K
  try simp only [Act.put, List.setIfInBounds_toArray, List.set_cons_zero, List.set_cons_succ]
  refine wpAnyH_ready (rs := [5]) (by kernel_rfl) (by simp) (AllReadyH.cons rfl (fun K hK => ?_) AllReadyH.nil)
  go_simp
  go_at_call 44
  refine ((unhide CD) _).mono ?_
  rintro e v1 ⟨rfl, hb1⟩
  have BB1 := hide ((unhide BB0).trans (hb1.mono (unhide BB0).size))
  have HQ1 := hide ((hb1.block w.heap.size hqa0).trans (unhide HQ0))
  have HZ1 := hide ((hb1.block (w.heap.size + 1) hqb0).trans (unhide HZ0))
  have hqa1 : w.heap.size < v1.heap.size := (Array.getElem?_eq_some_iff.1 (unhide HQ1)).1
  have hqb1 : w.heap.size + 1 < v1.heap.size := (Array.getElem?_eq_some_iff.1 (unhide HZ1)).1
  have KS1 : (fun w' => w'.cell? ⟨w.heap.size, 0, none⟩ = some (.string a) ∧ w'.cell? ⟨w.heap.size, 1, none⟩ = some (.string b) ∧ w'.cell? ⟨w.heap.size, 2, none⟩ = some (.string c) ∧ w'.cell? ⟨w.heap.size, 3, none⟩ = some (.string d) ∧ w'.cell? ⟨w.heap.size, 4, none⟩ = some (.int .i64 g)) v1 := five_cells (unhide HQ1)
  clear hb1
  try go_wp2_with fail
  refine hK.out _ _ KS1 (fun hHeldx1 => ?_)
  clear hK K
  try simp only [Act.put, List.setIfInBounds_toArray, List.set_cons_zero, List.set_cons_succ]
  refine wpAnyH_ready (rs := [8]) (by kernel_rfl) (by simp) (AllReadyH.cons rfl (fun K hK => ?_) AllReadyH.nil)
  go_simp
  go_at_call 44
  refine ((unhide CC) _).mono ?_
  rintro e v2 ⟨rfl, hb2⟩
  have BB2 := hide ((unhide BB1).trans (hb2.mono (unhide BB1).size))
  have HQ2 := hide ((hb2.block w.heap.size hqa1).trans (unhide HQ1))
  have HZ2 := hide ((hb2.block (w.heap.size + 1) hqb1).trans (unhide HZ1))
  have hqa2 : w.heap.size < v2.heap.size := (Array.getElem?_eq_some_iff.1 (unhide HQ2)).1
  have hqb2 : w.heap.size + 1 < v2.heap.size := (Array.getElem?_eq_some_iff.1 (unhide HZ2)).1
  have KS2 : (fun w' => w'.cell? ⟨w.heap.size, 0, none⟩ = some (.string a) ∧ w'.cell? ⟨w.heap.size, 1, none⟩ = some (.string b) ∧ w'.cell? ⟨w.heap.size, 2, none⟩ = some (.string c) ∧ w'.cell? ⟨w.heap.size, 3, none⟩ = some (.string d) ∧ w'.cell? ⟨w.heap.size, 4, none⟩ = some (.int .i64 g)) v2 := five_cells (unhide HQ2)
  clear hb2
  try go_wp2_with fail
  refine hK.out _ _ KS2 (fun hHeldx2 => ?_)
  clear hK K
  try simp only [Act.put, List.setIfInBounds_toArray, List.set_cons_zero, List.set_cons_succ]
  refine wpAnyH_ready (rs := [11]) (by kernel_rfl) (by simp) (AllReadyH.cons rfl (fun K hK => ?_) AllReadyH.nil)
  go_simp
  go_at_call 44
  refine ((unhide CB) _).mono ?_
  rintro e v3 ⟨rfl, hb3⟩
  have BB3 := hide ((unhide BB2).trans (hb3.mono (unhide BB2).size))
  have HQ3 := hide ((hb3.block w.heap.size hqa2).trans (unhide HQ2))
  have HZ3 := hide ((hb3.block (w.heap.size + 1) hqb2).trans (unhide HZ2))
  have hqa3 : w.heap.size < v3.heap.size := (Array.getElem?_eq_some_iff.1 (unhide HQ3)).1
  have hqb3 : w.heap.size + 1 < v3.heap.size := (Array.getElem?_eq_some_iff.1 (unhide HZ3)).1
  have KS3 : (fun w' => w'.cell? ⟨w.heap.size, 0, none⟩ = some (.string a) ∧ w'.cell? ⟨w.heap.size, 1, none⟩ = some (.string b) ∧ w'.cell? ⟨w.heap.size, 2, none⟩ = some (.string c) ∧ w'.cell? ⟨w.heap.size, 3, none⟩ = some (.string d) ∧ w'.cell? ⟨w.heap.size, 4, none⟩ = some (.int .i64 g)) v3 := five_cells (unhide HQ3)
  clear hb3
  try go_wp2_with fail
  refine hK.out _ _ KS3 (fun hHeldx3 => ?_)
  clear hK K
  try simp only [Act.put, List.setIfInBounds_toArray, List.set_cons_zero, List.set_cons_succ]
  refine tkP (i := 12) (d := some 15) (v := ?_) rfl rfl (by kernel_rfl) (by kernel_rfl) (by kernel_rfl) (fun _ _ _ h => h) (Or.inl ⟨by rfl, ?_⟩) (by assumption) ?_
  rotate_left
  · intro w hSw; (try dsimp only at hSw); go_simp; try with_reducible rfl
  try simp only [Act.put, List.setIfInBounds_toArray, List.set_cons_zero, List.set_cons_succ]
  obtain ⟨n0, n1, n2, n3, n4, n5, s0, s1, s2, s3, s4⟩ := five_put (a := a) (b := d) (c := c) (d := b) (unhide HZ3)
  refine wpAnyH_ready (rs := [13]) (by kernel_rfl) (by simp) (AllReadyH.cons rfl (fun K hK => ?_) AllReadyH.nil)
  go_simp
  have KS5 : (fun w' => w'.cell? ⟨w.heap.size, 0, none⟩ = some (.string a) ∧ w'.cell? ⟨w.heap.size, 1, none⟩ = some (.string b) ∧ w'.cell? ⟨w.heap.size, 2, none⟩ = some (.string c) ∧ w'.cell? ⟨w.heap.size, 3, none⟩ = some (.string d) ∧ w'.cell? ⟨w.heap.size, 4, none⟩ = some (.int .i64 g)) (put5 v3 (w.heap.size + 1) a d c b) := five_cells ((put5_other v3 (w.heap.size + 1) w.heap.size a d c b (by omega)).trans (unhide HQ3))
  refine hK.out _ _ KS5 (fun hHeld9 => ?_)
  clear hK K
  try simp only [Act.put, List.setIfInBounds_toArray, List.set_cons_zero, List.set_cons_succ]
  refine wpAnyH_done (by kernel_rfl) ?_ _
  have BF : Hid (Below w.heap.size w (put5 v3 (w.heap.size + 1) a d c b)) := hide ((((((unhide BB3).setCell (p := ⟨w.heap.size + 1, 0, none⟩) (by simp) (.string a)).setCell (p := ⟨w.heap.size + 1, 1, none⟩) (by simp) (.string d)).setCell (p := ⟨w.heap.size + 1, 2, none⟩) (by simp) (.string c)).setCell (p := ⟨w.heap.size + 1, 3, none⟩) (by simp) (.string b)).setCell (p := ⟨w.heap.size + 1, 4, none⟩) (by simp) (.int .i64 0))
  obtain ⟨w5, hw5⟩ : ∃ w5, put5 v3 (w.heap.size + 1) a d c b = w5 := ⟨_, rfl⟩
  rw [hw5] at n5 BF
  unfold put5 at hw5
  rw [hw5]
  obtain ⟨e0, e1, e2, e3, e4⟩ := five_cells n5
  clear hw5 n0 n1 n2 n3 n4 s0 s1 s2 s3 s4
  go_wp2
  refine bodyPost_ret (v := .agg #[.string a, .string d, .string c, .string b, .int .i64 0]) (by simp [results, Tryd.results35, go_sem, e0, e1, e2, e3, e4]; try rfl) rfl ?_
  exact ⟨rfl, unhide BF⟩
end Go.Proofs.YtaebmajaefpcfaaDoor.Pas
