/- A copy of a rule, of rules, of a pass, of passes. -/
import Derived.Test.YtfjnjednliacdaaDoorPasA
namespace Go.Proofs.YtfjnjednliacdaaDoor.Pas
open Go.RowKit
set_option linter.unusedVariables false
theorem madeB {w w1 : World} (h : w.grownBy w1 none) : Below w.heap.size w w1 := (Below.refl _ _).grown h (Nat.le_refl _) (fun k hk => by cases hk)
theorem infoWr : (Tryd.prog.info? 39).map (fun i => (i.zero, i.size, i.bytes)) = some (some (.agg #[.string ⟨#[]⟩, .string ⟨#[]⟩, .string ⟨#[]⟩, .string ⟨#[]⟩, .int .i64 0]), 5, 72) := by kernel_rfl
theorem infoPass : (Tryd.prog.info? 37).map (fun i => (i.zero, i.size, i.bytes)) = some (some (.agg #[.slice none 0 0, .int .i64 0]), 2, 32) := by kernel_rfl
theorem RuAt.put {B : Nat} {w : World} {v : Value} {L : List Ru} {g j : Nat} {x : Value} (h : RuAt B w v L) (hg : g < B) : RuAt B (w.setCell ⟨g, j, none⟩ x) v L :=
  h.at (by simp) fun b hB _ => heap_setCell_other w ⟨g, j, none⟩ b x (by show b ≠ g; omega)
set_option maxRecDepth 100000 in
set_option maxHeartbeats 2000000 in
theorem toWr_any (r : Ru) (w : World) : Calls Tryd.prog 32 #[rv r] w fun e w' => e = .returned (rv r) ∧ Below w.heap.size w w' := by
  obtain ⟨a, b, c, d, g⟩ := r
  unfold rv
  go_enter Tryd.func32, Tryd.ntmps32
  go_wp2
  go_returns
  exact ⟨rfl, (((Below.refl _ _).alloc (Nat.le_refl _) _).alloc (by simp) _).alloc (by simp; omega) _⟩
theorem rowc_at {w : World} {B g n c s : Nat} {e : TypeId} {xs : List Value} (h : w.ownsRow B e s (.slice (some ⟨g, 0, none⟩) n c) n xs) (j : Nat) (hj : j < n * s) : ∃ x, w.cell? ⟨g, j, none⟩ = some x ∧ w.frozen? ⟨g, j, none⟩ = false := by
  have hn : xs.length = n * s := h.1
  have := h.cellAt j hj
  rw [List.getElem?_eq_getElem (by omega)] at this
  exact ⟨_, this, h.frozenAt j⟩
/-- Five values set into a row. -/
def set5 (xs : List Value) (j : Nat) (r : Ru) : List Value := ((((xs.set j (.string r.1)).set (j + 1) (.string r.2.1)).set (j + 2) (.string r.2.2.1)).set (j + 3) (.string r.2.2.2.1)).set (j + 4) (.int .i64 r.2.2.2.2)
theorem set5_len (xs : List Value) (j : Nat) (r : Ru) : (set5 xs j r).length = xs.length := by simp [set5]
theorem set5_at (xs : List Value) (j : Nat) (r : Ru) (h : j + 5 ≤ xs.length) : (set5 xs j r)[j]? = some (.string r.1) ∧ (set5 xs j r)[j + 1]? = some (.string r.2.1) ∧ (set5 xs j r)[j + 2]? = some (.string r.2.2.1) ∧ (set5 xs j r)[j + 3]? = some (.string r.2.2.2.1) ∧ (set5 xs j r)[j + 4]? = some (.int .i64 r.2.2.2.2) := by
  unfold set5
  simp only [List.getElem?_set, List.length_set]
  refine ⟨?_, ?_, ?_, ?_, ?_⟩
  · rw [if_neg (by omega), if_neg (by omega), if_neg (by omega), if_neg (by omega), if_pos trivial, if_pos (by omega)]
  · rw [if_neg (by omega), if_neg (by omega), if_neg (by omega), if_pos trivial, if_pos (by omega)]
  · rw [if_neg (by omega), if_neg (by omega), if_pos trivial, if_pos (by omega)]
  · rw [if_neg (by omega), if_pos trivial, if_pos (by omega)]
  · rw [if_pos trivial, if_pos (by omega)]
theorem set5_ne (xs : List Value) (j i : Nat) (r : Ru) (h : i < j ∨ j + 5 ≤ i) : (set5 xs j r)[i]? = xs[i]? := by
  unfold set5
  simp only [List.getElem?_set, List.length_set]
  rw [if_neg (by omega), if_neg (by omega), if_neg (by omega), if_neg (by omega), if_neg (by omega)]
/-- Cells of a row that hold the first k rules. -/
def Has (xs : List Value) (L : List Ru) (k : Nat) : Prop :=
  ∀ i, i < k → xs[i * 5]? = some (.string (gr L i).1) ∧ xs[i * 5 + 1]? = some (.string (gr L i).2.1) ∧ xs[i * 5 + 2]? = some (.string (gr L i).2.2.1) ∧ xs[i * 5 + 3]? = some (.string (gr L i).2.2.2.1) ∧ xs[i * 5 + 4]? = some (.int .i64 (gr L i).2.2.2.2)
theorem Has.put {xs : List Value} {L : List Ru} {k : Nat} (h : Has xs L k) (hl : k * 5 + 5 ≤ xs.length) : Has (set5 xs (k * 5) (gr L k)) L (k + 1) := by
  intro i hi
  by_cases e : i = k
  · subst e
    exact set5_at xs (i * 5) (gr L i) hl
  · have := h i (by omega)
    rw [set5_ne _ _ _ _ (by omega), set5_ne _ _ _ _ (by omega), set5_ne _ _ _ _ (by omega), set5_ne _ _ _ _ (by omega), set5_ne _ _ _ _ (by omega)]
    exact this
/-- The row when k rules are copied. -/
def RSt (w0 w : World) (n : Nat) (L : List Ru) (k : Nat) : Prop :=
  ∃ xs : List Value, Has xs L k ∧ w.ownsRow w0.heap.size 39 5 (.slice (some ⟨w0.heap.size, 0, none⟩) n n) n xs ∧ Below w0.heap.size w0 w
theorem RSt.all {w0 w : World} {L : List Ru} (h : RSt w0 w L.length L L.length) : RuAt w0.heap.size w (.slice (some ⟨w0.heap.size, 0, none⟩) L.length L.length) L := by
  obtain ⟨xs, h1, h2, h3⟩ := h
  refine ⟨_, _, rfl, ?_⟩
  by_cases e : L = []
  · exact .inl e
  · have hlt : w0.heap.size < w.heap.size := (h2.lt w0.heap.size rfl).2
    refine .inr ⟨w0.heap.size, 0, rfl, Nat.le_refl _, hlt, fun i hi => ?_⟩
    obtain ⟨c0, c1, c2, c3, c4⟩ := h1 i hi
    rw [Nat.zero_add]
    exact ⟨(h2.cellAt (i * 5) (by omega)).trans c0, (h2.cellAt (i * 5 + 1) (by omega)).trans c1, (h2.cellAt (i * 5 + 2) (by omega)).trans c2, (h2.cellAt (i * 5 + 3) (by omega)).trans c3, (h2.cellAt (i * 5 + 4) (by omega)).trans c4⟩
theorem own5 {w : World} {B g n c : Nat} {e : TypeId} {xs : List Value} (h : w.ownsRow B e 5 (.slice (some ⟨g, 0, none⟩) n c) n xs) (j : Nat) (r : Ru) :
    (((((w.setCell ⟨g, j, none⟩ (.string r.1)).setCell ⟨g, j + 1, none⟩ (.string r.2.1)).setCell ⟨g, j + 2, none⟩ (.string r.2.2.1)).setCell ⟨g, j + 3, none⟩ (.string r.2.2.2.1)).setCell ⟨g, j + 4, none⟩ (.int .i64 r.2.2.2.2)).ownsRow B e 5 (.slice (some ⟨g, 0, none⟩) n c) n (set5 xs j r) :=
  (((((h.stored j _).1.stored (j + 1) _).1.stored (j + 2) _).1.stored (j + 3) _).1.stored (j + 4) _).1
theorem RSt.put {w0 w : World} {n : Nat} {L : List Ru} {k : Nat} (h : RSt w0 w n L k) (hk : k < n) :
    RSt w0 (((((w.setCell ⟨w0.heap.size, k * 5, none⟩ (.string (gr L k).1)).setCell ⟨w0.heap.size, k * 5 + 1, none⟩ (.string (gr L k).2.1)).setCell ⟨w0.heap.size, k * 5 + 2, none⟩ (.string (gr L k).2.2.1)).setCell ⟨w0.heap.size, k * 5 + 3, none⟩ (.string (gr L k).2.2.2.1)).setCell ⟨w0.heap.size, k * 5 + 4, none⟩ (.int .i64 (gr L k).2.2.2.2)) n L (k + 1) := by
  obtain ⟨xs, h1, h2, h3⟩ := h
  have hx : xs.length = n * 5 := h2.1
  refine ⟨set5 xs (k * 5) (gr L k), h1.put (by omega), own5 h2 (k * 5) (gr L k), ?_⟩
  exact ((((h3.setCell (p := ⟨w0.heap.size, k * 5, none⟩) (Nat.le_refl _) _).setCell (p := ⟨w0.heap.size, k * 5 + 1, none⟩) (Nat.le_refl _) _).setCell (p := ⟨w0.heap.size, k * 5 + 2, none⟩) (Nat.le_refl _) _).setCell (p := ⟨w0.heap.size, k * 5 + 3, none⟩) (Nat.le_refl _) _).setCell (p := ⟨w0.heap.size, k * 5 + 4, none⟩) (Nat.le_refl _) _
theorem RSt.below {w0 w w' : World} {n : Nat} {L : List Ru} {k : Nat} (h : RSt w0 w n L k) (hb : Below w.heap.size w w') : RSt w0 w' n L k := by
  obtain ⟨xs, h1, h2, h3⟩ := h
  exact ⟨xs, h1, ownsRow_below h2 hb, h3.trans (hb.mono h3.size)⟩
set_option maxRecDepth 100000 in
set_option maxHeartbeats 4000000 in
theorem toWrs_any (v : Value) (L : List Ru) (B : Nat) (w : World) (hv : RuAt B w v L) (hl : L.length ≤ 1048576) :
    Calls Tryd.prog 22 #[v] w fun e w' => e = .returned (.slice (some ⟨w.heap.size, 0, none⟩) L.length L.length) ∧ RuAt w.heap.size w' (.slice (some ⟨w.heap.size, 0, none⟩) L.length L.length) L ∧ Below w.heap.size w w' := by
  obtain ⟨i0, hi, hz0, hz1, hz2⟩ := info_parts infoWr
  obtain ⟨a, cap, rfl, hv⟩ := hv
  have HV := hide hv
  clear hv
  go_enter Tryd.func22, Tryd.ntmps22
  go_wp2_with (at_make; refine wpList_make_full _ rfl _ _ 35 rfl w.heap.size 39 i0 (.agg #[.string ⟨#[]⟩, .string ⟨#[]⟩, .string ⟨#[]⟩, .string ⟨#[]⟩, .int .i64 0]) 5 Tryd.underlying35 hi hz0 hz1 .i64 .i64 _ _ L.length rfl rfl rfl rfl ?b2 ?b3 ?b4 ?_)
  case b2 => rw [hz2]; omega
  case b3 => unfold maxLen; omega
  case b4 => omega
  intro w1 hown hgrow
  have H1 : Hid (RSt w w1 L.length L 0) := hide ⟨_, fun i hi => by omega, hown, madeB hgrow⟩
  clear hown hgrow
  go_wp2
  go_loopw [4] (fun i wr => ∃ k : Nat, k ≤ L.length ∧ i = .int .i64 k ∧ Hid (RSt w wr L.length L k)) (fun i _ => L.length - (intOf i).toNat)
  case atStart => exact ⟨0, Nat.zero_le _, rfl, H1⟩
  case round =>
    obtain ⟨k, hk, rfl, HO⟩ := hrel
    clear H1
    obtain ⟨_, _, _, hr4⟩ := unhide HO
    by_cases hlt : k < L.length
    · have hlt' : (k : Int) < (L.length : Int) := by omega
      rcases unhide HV with h' | ⟨b, off, rfl, _, hbs, hc⟩
      · rw [h'] at hlt; simp at hlt
      obtain ⟨d0, d1, d2, d3, d4⟩ := (hc k hlt).block (hr4.block b hbs)
      have CT := hide (fun W => toWr_any (gr L k) W)
      have HP := hide (fun W (h : RSt w W L.length L k) => h.put hlt)
      clear hc hr4
      generalize gr L k = r at *
      obtain ⟨ta, tb, tc, td, tg⟩ := r
      unfold rv at CT
      simp only at d0 d1 d2 d3 d4 CT HP
      go_wp2_with fail
      refine ((unhide CT) _).mono ?_
      rintro e w2 ⟨rfl, hb2⟩
      have S2 := (unhide HO).below hb2
      have S3 := hide ((unhide HP) w2 S2)
      obtain ⟨xs, _, hr5, hr6⟩ := S2
      obtain ⟨x0, p0, q0⟩ := rowc_at hr5 (k * 5) (by omega)
      obtain ⟨x1, p1, q1⟩ := rowc_at hr5 (k * 5 + 1) (by omega)
      obtain ⟨x2, p2, q2⟩ := rowc_at hr5 (k * 5 + 2) (by omega)
      obtain ⟨x3, p3, q3⟩ := rowc_at hr5 (k * 5 + 3) (by omega)
      obtain ⟨x4, p4, q4⟩ := rowc_at hr5 (k * 5 + 4) (by omega)
      obtain ⟨y1, r1, s1⟩ := rowc_at (hr5.stored (k * 5) (.string ta)).1 (k * 5 + 1) (by omega)
      obtain ⟨y2, r2, s2⟩ := rowc_at ((hr5.stored (k * 5) (.string ta)).1.stored (k * 5 + 1) (.string tb)).1 (k * 5 + 2) (by omega)
      obtain ⟨y3, r3, s3⟩ := rowc_at (((hr5.stored (k * 5) (.string ta)).1.stored (k * 5 + 1) (.string tb)).1.stored (k * 5 + 2) (.string tc)).1 (k * 5 + 3) (by omega)
      obtain ⟨y4, r4, s4⟩ := rowc_at ((((hr5.stored (k * 5) (.string ta)).1.stored (k * 5 + 1) (.string tb)).1.stored (k * 5 + 2) (.string tc)).1.stored (k * 5 + 3) (.string td)).1 (k * 5 + 4) (by omega)
      clear HO HP CT hb2 hr5 hr6 d0 d1 d2 d3 d4
      go_wp2
      go_roundw
      case rel => exact ⟨k + 1, by omega, by go_num, S3⟩
      case measure => simp [intOf]; omega
    · obtain rfl : k = L.length := by omega
      have R := hide ((unhide HO).all)
      have B := hide hr4
      clear hr4 HO
      go_wp2
      go_ret
      exact ⟨rfl, unhide R, unhide B⟩
set_option maxRecDepth 100000 in
set_option maxHeartbeats 4000000 in
theorem toPass_any (v : Value) (L : List Ru) (g : Int) (B : Nat) (w : World) (hv : RuAt B w v L) (hL : L.length ≤ 1048576) :
    Calls Tryd.prog 14 #[.agg #[v, .int .i64 g]] w fun e w' => ∃ q, e = .returned (.agg #[.slice (some ⟨q, 0, none⟩) L.length L.length, .int .i64 g]) ∧ RuAt w.heap.size w' (.slice (some ⟨q, 0, none⟩) L.length L.length) L ∧ Below w.heap.size w w' := by
  have CT := hide (fun W h => toWrs_any v L B W h hL)
  have HV := hide hv
  obtain ⟨va, vc, rfl⟩ := hv.form
  clear hv
  go_enter Tryd.func14, Tryd.ntmps14
  go_wp2_with fail
  have hb3 : Below w.heap.size w (((w.alloc (.cells #[.slice va L.length vc, .int .i64 g] 32)).alloc (.cells #[.slice none 0 0, .int .i64 0] 37)).alloc (.cells #[.slice none 0 0, .int .i64 0] 37)) := ((((Below.refl _ _).alloc (Nat.le_refl _) _).alloc (by simp) _).alloc (by simp; omega) _)
  have hz3 : (((w.alloc (.cells #[.slice va L.length vc, .int .i64 g] 32)).alloc (.cells #[.slice none 0 0, .int .i64 0] 37)).alloc (.cells #[.slice none 0 0, .int .i64 0] 37)).heap.size = w.heap.size + 3 := by simp
  have h0 : (((w.alloc (.cells #[.slice va L.length vc, .int .i64 g] 32)).alloc (.cells #[.slice none 0 0, .int .i64 0] 37)).alloc (.cells #[.slice none 0 0, .int .i64 0] 37)).heap[w.heap.size]? = some (.cells #[.slice va L.length vc, .int .i64 g] 32 (0, 0)) := by
    rw [Below.heap_alloc _ _ _ (by simp; omega), Below.heap_alloc _ _ _ (by simp)]
    exact heap_new w _
  have h1 : (((w.alloc (.cells #[.slice va L.length vc, .int .i64 g] 32)).alloc (.cells #[.slice none 0 0, .int .i64 0] 37)).alloc (.cells #[.slice none 0 0, .int .i64 0] 37)).heap[w.heap.size + 1]? = some (.cells #[.slice none 0 0, .int .i64 0] 37 (0, 0)) := by
    rw [Below.heap_alloc _ _ _ (by simp)]
    have := heap_new (w.alloc (.cells #[.slice va L.length vc, .int .i64 g] 32)) (.cells #[.slice none 0 0, .int .i64 0] 37)
    simpa using this
  have h2 : (((w.alloc (.cells #[.slice va L.length vc, .int .i64 g] 32)).alloc (.cells #[.slice none 0 0, .int .i64 0] 37)).alloc (.cells #[.slice none 0 0, .int .i64 0] 37)).heap[w.heap.size + 1 + 1]? = some (.cells #[.slice none 0 0, .int .i64 0] 37 (0, 0)) := by
    have := heap_new ((w.alloc (.cells #[.slice va L.length vc, .int .i64 g] 32)).alloc (.cells #[.slice none 0 0, .int .i64 0] 37)) (.cells #[.slice none 0 0, .int .i64 0] 37)
    simpa using this
  generalize ((w.alloc (.cells #[.slice va L.length vc, .int .i64 g] 32)).alloc (.cells #[.slice none 0 0, .int .i64 0] 37)).alloc (.cells #[.slice none 0 0, .int .i64 0] 37) = w3 at *
  refine ((unhide CT) _ ((unhide HV).below hb3)).mono ?_
  rintro e w4 ⟨rfl, ho4, hb4⟩
  have k0 := (hb4.block w.heap.size (by omega)).trans h0
  have k1 := (hb4.block (w.heap.size + 1) (by omega)).trans h1
  have k2 := (hb4.block (w.heap.size + 1 + 1) (by omega)).trans h2
  have hb5 := hb3.trans (hb4.mono hb3.size)
  clear CT HV h0 h1 h2 hb3 hb4
  generalize w3.heap.size = q at *
  generalize hU : Value.slice (some ⟨q, 0, none⟩) L.length L.length = U at *
  have R := hide ((((ho4.put (g := w.heap.size + 1 + 1) (j := 0) (x := U) (by omega)).put (g := w.heap.size + 1 + 1) (j := 1) (x := .int .i64 g) (by omega)).put (g := w.heap.size + 1) (j := 0) (x := U) (by omega)).put (g := w.heap.size + 1) (j := 1) (x := .int .i64 g) (by omega) |>.down (B' := w.heap.size) (by omega))
  have BB := hide ((((hb5.setCell (p := ⟨w.heap.size + 1 + 1, 0, none⟩) (by simp; omega) U).setCell (p := ⟨w.heap.size + 1 + 1, 1, none⟩) (by simp; omega) (.int .i64 g)).setCell (p := ⟨w.heap.size + 1, 0, none⟩) (by simp) U).setCell (p := ⟨w.heap.size + 1, 1, none⟩) (by simp) (.int .i64 g))
  subst hU
  obtain ⟨z0, z1, z2, z3⟩ := two_cells k0
  obtain ⟨a0, a1, a2, a3⟩ := two_cells k2
  have m2 := heap_setCell_same w4 (w.heap.size + 1 + 1) 0 _ 37 (.slice (some ⟨q, 0, none⟩) L.length L.length) k2
  have m1 := (heap_setCell_other w4 ⟨w.heap.size + 1 + 1, 0, none⟩ (w.heap.size + 1) (.slice (some ⟨q, 0, none⟩) L.length L.length) (by simp)).trans k1
  have m0 := (heap_setCell_other w4 ⟨w.heap.size + 1 + 1, 0, none⟩ w.heap.size (.slice (some ⟨q, 0, none⟩) L.length L.length) (by show w.heap.size ≠ w.heap.size + 1 + 1; omega)).trans k0
  obtain ⟨b0, b1, b2, b3⟩ := two_cells m2
  obtain ⟨y0, y1, y2, y3⟩ := two_cells m0
  have n2 := heap_setCell_same _ (w.heap.size + 1 + 1) 1 _ 37 (.int .i64 g) m2
  have n1 := (heap_setCell_other _ ⟨w.heap.size + 1 + 1, 1, none⟩ (w.heap.size + 1) (.int .i64 g) (by simp)).trans m1
  obtain ⟨c0, c1, c2, c3⟩ := two_cells n2
  obtain ⟨d0, d1, d2, d3⟩ := two_cells n1
  have o1 := heap_setCell_same _ (w.heap.size + 1) 0 _ 37 (.slice (some ⟨q, 0, none⟩) L.length L.length) n1
  obtain ⟨e0, e1, e2, e3⟩ := two_cells o1
  have p1 := heap_setCell_same _ (w.heap.size + 1) 1 _ 37 (.int .i64 g) o1
  obtain ⟨f0, f1, f2, f3⟩ := two_cells p1
  clear k0 k1 k2 m0 m1 m2 n1 n2 o1 p1 hz3 ho4 hb5
  go_wp2
  refine bodyPost_ret (v := .agg #[.slice (some ⟨q, 0, none⟩) L.length L.length, .int .i64 g]) (by simp [results, Tryd.results14, go_sem, f0, f1]; try rfl) rfl ?_
  exact ⟨q, rfl, unhide R, unhide BB⟩
/-- The row when k passes are copied. -/
def PSt (w0 w : World) (n : Nat) (P : List Pa) (k : Nat) : Prop :=
  ∃ xs : List Value, (∀ i, i < k → ∃ u, xs[i * 2]? = some u ∧ RuAt (w0.heap.size + 1) w u (gp P i).1 ∧ xs[i * 2 + 1]? = some (.int .i64 (gp P i).2)) ∧ w.ownsRow w0.heap.size 37 2 (.slice (some ⟨w0.heap.size, 0, none⟩) n n) n xs ∧ Below w0.heap.size w0 w
theorem PSt.below {w0 w w' : World} {n : Nat} {P : List Pa} {k : Nat} (h : PSt w0 w n P k) (hb : Below w.heap.size w w') : PSt w0 w' n P k := by
  obtain ⟨xs, h1, h2, h3⟩ := h
  refine ⟨xs, fun i hi => ?_, ownsRow_below h2 hb, h3.trans (hb.mono h3.size)⟩
  obtain ⟨u, c1, hu, c2⟩ := h1 i hi
  exact ⟨u, c1, hu.below hb, c2⟩
theorem PSt.put {w0 w : World} {n : Nat} {P : List Pa} {k : Nat} {u : Value} (h : PSt w0 w n P k) (hk : k < n) (hu : RuAt (w0.heap.size + 1) w u (gp P k).1) :
    PSt w0 ((w.setCell ⟨w0.heap.size, k * 2, none⟩ u).setCell ⟨w0.heap.size, k * 2 + 1, none⟩ (.int .i64 (gp P k).2)) n P (k + 1) := by
  obtain ⟨xs, h1, h2, h3⟩ := h
  have hx : xs.length = n * 2 := h2.1
  refine ⟨(xs.set (k * 2) u).set (k * 2 + 1) (.int .i64 (gp P k).2), fun i hi => ?_, ((h2.stored (k * 2) _).1.stored (k * 2 + 1) _).1, ?_⟩
  · simp only [List.getElem?_set, List.length_set]
    by_cases e : i = k
    · subst e
      refine ⟨u, ?_, (hu.put (by omega)).put (by omega), ?_⟩
      · rw [if_neg (by omega), if_pos rfl, if_pos (by omega)]
      · rw [if_pos rfl, if_pos (by omega)]
    · obtain ⟨u', c1, hu', c2⟩ := h1 i (by omega)
      refine ⟨u', ?_, (hu'.put (by omega)).put (by omega), ?_⟩
      · rw [if_neg (by omega), if_neg (by omega)]; exact c1
      · rw [if_neg (by omega), if_neg (by omega)]; exact c2
  · exact (h3.setCell (p := ⟨w0.heap.size, k * 2, none⟩) (Nat.le_refl _) _).setCell (p := ⟨w0.heap.size, k * 2 + 1, none⟩) (Nat.le_refl _) _
theorem PSt.all {w0 w : World} {P : List Pa} (h : PSt w0 w P.length P P.length) : PaAt w0.heap.size w (.slice (some ⟨w0.heap.size, 0, none⟩) P.length P.length) P := by
  obtain ⟨xs, h1, h2, h3⟩ := h
  refine ⟨_, _, rfl, ?_⟩
  by_cases e : P = []
  · exact .inl e
  · have hlt : w0.heap.size < w.heap.size := (h2.lt w0.heap.size rfl).2
    refine .inr ⟨w0.heap.size, 0, rfl, Nat.le_refl _, hlt, fun i hi => ?_⟩
    obtain ⟨u, c1, hu, c2⟩ := h1 i hi
    rw [Nat.zero_add]
    exact ⟨u, (h2.cellAt (i * 2) (by omega)).trans c1, hu.down (by omega), (h2.cellAt (i * 2 + 1) (by omega)).trans c2⟩
set_option maxRecDepth 100000 in
set_option maxHeartbeats 4000000 in
theorem toPasses_any (v : Value) (P : List Pa) (B : Nat) (w : World) (hv : PaAt B w v P) (hl : P.length ≤ 1048576) (hs : ∀ i, i < P.length → (gp P i).1.length ≤ 1048576) :
    Calls Tryd.prog 6 #[v] w fun e w' => e = .returned (.slice (some ⟨w.heap.size, 0, none⟩) P.length P.length) ∧ PaAt w.heap.size w' (.slice (some ⟨w.heap.size, 0, none⟩) P.length P.length) P ∧ Below w.heap.size w w' := by
  obtain ⟨i0, hi, hz0, hz1, hz2⟩ := info_parts infoPass
  obtain ⟨a, cap, rfl, hv⟩ := hv
  have HV := hide hv
  have HS := hide hs
  clear hv hs
  go_enter Tryd.func6, Tryd.ntmps6
  go_wp2_with (at_make; refine wpList_make_full _ rfl _ _ 25 rfl w.heap.size 37 i0 (.agg #[.slice none 0 0, .int .i64 0]) 2 Tryd.underlying25 hi hz0 hz1 .i64 .i64 _ _ P.length rfl rfl rfl rfl ?b2 ?b3 ?b4 ?_)
  case b2 => rw [hz2]; omega
  case b3 => unfold maxLen; omega
  case b4 => omega
  intro w1 hown hgrow
  have H1 : Hid (PSt w w1 P.length P 0) := hide ⟨_, fun i hi => by omega, hown, madeB hgrow⟩
  clear hown hgrow
  go_wp2
  go_loopw [4] (fun i wr => ∃ k : Nat, k ≤ P.length ∧ i = .int .i64 k ∧ Hid (PSt w wr P.length P k)) (fun i _ => P.length - (intOf i).toNat)
  case atStart => exact ⟨0, Nat.zero_le _, rfl, H1⟩
  case round =>
    obtain ⟨k, hk, rfl, HO⟩ := hrel
    clear H1
    obtain ⟨_, _, hr3, hr4⟩ := unhide HO
    have hwl : w.heap.size < wr.heap.size := (hr3.lt w.heap.size rfl).2
    by_cases hlt : k < P.length
    · have hlt' : (k : Int) < (P.length : Int) := by omega
      rcases unhide HV with h' | ⟨b, off, rfl, _, hbs, hc⟩
      · rw [h'] at hlt; simp at hlt
      obtain ⟨u, c1, hu, c2⟩ := hc k hlt
      have d1 := (hr4.cell (p := ⟨b, off + k * 2, none⟩) hbs).trans c1
      have d2 := (hr4.cell (p := ⟨b, off + k * 2 + 1, none⟩) hbs).trans c2
      have CT := hide (fun W h => toPass_any u (gp P k).1 (gp P k).2 B W h ((unhide HS) k hlt))
      have I := hide (hu.below hr4)
      obtain ⟨ua, uc, hue⟩ := hu.form
      have HP := hide (fun W x (h : PSt w W P.length P k) hx => h.put (u := x) hlt hx)
      clear c1 c2 hu hc hr3
      generalize (gp P k).1 = L at *
      generalize (gp P k).2 = g at *
      subst hue
      go_wp2_with fail
      refine ((unhide CT) _ (unhide I)).mono ?_
      rintro e w2 ⟨q, rfl, ho2, hb2⟩
      have S2 := (unhide HO).below hb2
      have S3 := hide ((unhide HP) w2 _ S2 (ho2.down (by omega)))
      obtain ⟨xs, _, hr5, hr6⟩ := S2
      obtain ⟨x0, p0, q0⟩ := rowc_at hr5 (k * 2) (by omega)
      obtain ⟨x1, p1, q1⟩ := rowc_at hr5 (k * 2 + 1) (by omega)
      obtain ⟨y1, r1, s1⟩ := rowc_at (hr5.stored (k * 2) (.slice (some ⟨q, 0, none⟩) L.length L.length)).1 (k * 2 + 1) (by omega)
      clear HO HP CT hb2 hr5 hr6 d1 d2 I ho2
      go_wp2
      go_roundw
      case rel => exact ⟨k + 1, by omega, by go_num, S3⟩
      case measure => simp [intOf]; omega
    · obtain rfl : k = P.length := by omega
      have R := hide ((unhide HO).all)
      have B := hide hr4
      clear hr3 hr4 HO
      go_wp2
      go_ret
      exact ⟨rfl, unhide R, unhide B⟩
end Go.Proofs.YtfjnjednliacdaaDoor.Pas
