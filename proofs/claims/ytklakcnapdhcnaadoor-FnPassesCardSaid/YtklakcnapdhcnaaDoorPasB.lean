/- A copy of a rule, of rules, of a pass, of passes. -/
import Derived.Test.YtklakcnapdhcnaaDoorPasA
namespace Go.Proofs.YtklakcnapdhcnaaDoor.Pas
open Go.RowKit
set_option linter.unusedVariables false
theorem madeB {w w1 : World} (h : w.grownBy w1 none) : Below w.heap.size w w1 := (Below.refl _ _).grown h (Nat.le_refl _) (fun k hk => by cases hk)
theorem infoWr : (Tryd.prog.info? 40).map (fun i => (i.zero, i.size, i.bytes)) = some (some (.agg #[.string ⟨#[]⟩, .string ⟨#[]⟩, .string ⟨#[]⟩, .string ⟨#[]⟩, .int .i64 0]), 5, 72) := by kernel_rfl
theorem infoPass : (Tryd.prog.info? 37).map (fun i => (i.zero, i.size, i.bytes)) = some (some (.agg #[.slice none 0 0, .int .i64 0]), 2, 32) := by kernel_rfl
theorem RuAt.put {B : Nat} {w : World} {v : Value} {L : List Ru} {g j : Nat} {x : Value} (h : RuAt B w v L) (hg : g < B) : RuAt B (w.setCell ⟨g, j, none⟩ x) v L :=
  h.at (by simp) fun b hB _ => heap_setCell_other w ⟨g, j, none⟩ b x (by show b ≠ g; omega)
theorem rowc_at {w : World} {B g n c s : Nat} {e : TypeId} {xs : List Value} (h : w.ownsRow B e s (.slice (some ⟨g, 0, none⟩) n c) n xs) (j : Nat) (hj : j < n * s) : ∃ x, w.cell? ⟨g, j, none⟩ = some x ∧ w.frozen? ⟨g, j, none⟩ = false := by
  have hn : xs.length = n * s := h.1
  have := h.cellAt j hj
  rw [List.getElem?_eq_getElem (by omega)] at this
  exact ⟨_, this, h.frozenAt j⟩
/-- Five values set into a row. -/
def set5 (xs : List Value) (j : Nat) (r : Ru) : List Value := ((((xs.set j (.string r.1)).set (j + 1) (.string r.2.1)).set (j + 2) (.string r.2.2.1)).set (j + 3) (.string r.2.2.2.1)).set (j + 4) (.int .i64 r.2.2.2.2)
theorem set5_len (xs : List Value) (j : Nat) (r : Ru) : (set5 xs j r).length = xs.length := by simp [set5]
theorem set5_at (xs : List Value) (j : Nat) (r : Ru) (h : j + 5 ≤ xs.length) : (set5 xs j r)[j]? = some (.string r.1) ∧ (set5 xs j r)[j + 1]? = some (.string r.2.1) ∧ (set5 xs j r)[j + 2]? = some (.string r.2.2.1) ∧ (set5 xs j r)[j + 3]? = some (.string r.2.2.2.1) ∧ (set5 xs j r)[j + 4]? = some (.int .i64 r.2.2.2.2) := by
  unfold set5
  simp only [List.getElem?_set, List.length_set]
  refine ⟨?_, ?_, ?_, ?_, ?_⟩
  · rw [if_neg (by omega), if_neg (by omega), if_neg (by omega), if_neg (by omega), if_pos trivial, if_pos (by omega)]
  · rw [if_neg (by omega), if_neg (by omega), if_neg (by omega), if_pos trivial, if_pos (by omega)]
  · rw [if_neg (by omega), if_neg (by omega), if_pos trivial, if_pos (by omega)]
  · rw [if_neg (by omega), if_pos trivial, if_pos (by omega)]
  · rw [if_pos trivial, if_pos (by omega)]
theorem set5_ne (xs : List Value) (j i : Nat) (r : Ru) (h : i < j ∨ j + 5 ≤ i) : (set5 xs j r)[i]? = xs[i]? := by
  unfold set5
  simp only [List.getElem?_set, List.length_set]
  rw [if_neg (by omega), if_neg (by omega), if_neg (by omega), if_neg (by omega), if_neg (by omega)]
/-- Cells of a row that hold the first k rules. -/
def Has (xs : List Value) (L : List Ru) (k : Nat) : Prop :=
  ∀ i, i < k → xs[i * 5]? = some (.string (gr L i).1) ∧ xs[i * 5 + 1]? = some (.string (gr L i).2.1) ∧ xs[i * 5 + 2]? = some (.string (gr L i).2.2.1) ∧ xs[i * 5 + 3]? = some (.string (gr L i).2.2.2.1) ∧ xs[i * 5 + 4]? = some (.int .i64 (gr L i).2.2.2.2)
theorem Has.put {xs : List Value} {L : List Ru} {k : Nat} (h : Has xs L k) (hl : k * 5 + 5 ≤ xs.length) : Has (set5 xs (k * 5) (gr L k)) L (k + 1) := by
  intro i hi
  by_cases e : i = k
  · subst e
    exact set5_at xs (i * 5) (gr L i) hl
  · have := h i (by omega)
    rw [set5_ne _ _ _ _ (by omega), set5_ne _ _ _ _ (by omega), set5_ne _ _ _ _ (by omega), set5_ne _ _ _ _ (by omega), set5_ne _ _ _ _ (by omega)]
    exact this
/-- The row when k rules are copied. -/
def RSt (w0 w : World) (n : Nat) (L : List Ru) (k : Nat) : Prop :=
  ∃ xs : List Value, Has xs L k ∧ w.ownsRow w0.heap.size 40 5 (.slice (some ⟨w0.heap.size, 0, none⟩) n n) n xs ∧ Below w0.heap.size w0 w
theorem RSt.all {w0 w : World} {L : List Ru} (h : RSt w0 w L.length L L.length) : RuAt w0.heap.size w (.slice (some ⟨w0.heap.size, 0, none⟩) L.length L.length) L := by
  obtain ⟨xs, h1, h2, h3⟩ := h
  refine ⟨_, _, rfl, ?_⟩
  by_cases e : L = []
  · exact .inl e
  · have hlt : w0.heap.size < w.heap.size := (h2.lt w0.heap.size rfl).2
    refine .inr ⟨w0.heap.size, 0, rfl, Nat.le_refl _, hlt, fun i hi => ?_⟩
    obtain ⟨c0, c1, c2, c3, c4⟩ := h1 i hi
    rw [Nat.zero_add]
    exact ⟨(h2.cellAt (i * 5) (by omega)).trans c0, (h2.cellAt (i * 5 + 1) (by omega)).trans c1, (h2.cellAt (i * 5 + 2) (by omega)).trans c2, (h2.cellAt (i * 5 + 3) (by omega)).trans c3, (h2.cellAt (i * 5 + 4) (by omega)).trans c4⟩
theorem own5 {w : World} {B g n c : Nat} {e : TypeId} {xs : List Value} (h : w.ownsRow B e 5 (.slice (some ⟨g, 0, none⟩) n c) n xs) (j : Nat) (r : Ru) :
    (((((w.setCell ⟨g, j, none⟩ (.string r.1)).setCell ⟨g, j + 1, none⟩ (.string r.2.1)).setCell ⟨g, j + 2, none⟩ (.string r.2.2.1)).setCell ⟨g, j + 3, none⟩ (.string r.2.2.2.1)).setCell ⟨g, j + 4, none⟩ (.int .i64 r.2.2.2.2)).ownsRow B e 5 (.slice (some ⟨g, 0, none⟩) n c) n (set5 xs j r) :=
  (((((h.stored j _).1.stored (j + 1) _).1.stored (j + 2) _).1.stored (j + 3) _).1.stored (j + 4) _).1
theorem RSt.put {w0 w : World} {n : Nat} {L : List Ru} {k : Nat} (h : RSt w0 w n L k) (hk : k < n) :
    RSt w0 (((((w.setCell ⟨w0.heap.size, k * 5, none⟩ (.string (gr L k).1)).setCell ⟨w0.heap.size, k * 5 + 1, none⟩ (.string (gr L k).2.1)).setCell ⟨w0.heap.size, k * 5 + 2, none⟩ (.string (gr L k).2.2.1)).setCell ⟨w0.heap.size, k * 5 + 3, none⟩ (.string (gr L k).2.2.2.1)).setCell ⟨w0.heap.size, k * 5 + 4, none⟩ (.int .i64 (gr L k).2.2.2.2)) n L (k + 1) := by
  obtain ⟨xs, h1, h2, h3⟩ := h
  have hx : xs.length = n * 5 := h2.1
  refine ⟨set5 xs (k * 5) (gr L k), h1.put (by omega), own5 h2 (k * 5) (gr L k), ?_⟩
  exact ((((h3.setCell (p := ⟨w0.heap.size, k * 5, none⟩) (Nat.le_refl _) _).setCell (p := ⟨w0.heap.size, k * 5 + 1, none⟩) (Nat.le_refl _) _).setCell (p := ⟨w0.heap.size, k * 5 + 2, none⟩) (Nat.le_refl _) _).setCell (p := ⟨w0.heap.size, k * 5 + 3, none⟩) (Nat.le_refl _) _).setCell (p := ⟨w0.heap.size, k * 5 + 4, none⟩) (Nat.le_refl _) _
theorem RSt.below {w0 w w' : World} {n : Nat} {L : List Ru} {k : Nat} (h : RSt w0 w n L k) (hb : Below w.heap.size w w') : RSt w0 w' n L k := by
  obtain ⟨xs, h1, h2, h3⟩ := h
  exact ⟨xs, h1, ownsRow_below h2 hb, h3.trans (hb.mono h3.size)⟩
/-- The row when k passes are copied. -/
def PSt (w0 w : World) (n : Nat) (P : List Pa) (k : Nat) : Prop :=
  ∃ xs : List Value, (∀ i, i < k → ∃ u, xs[i * 2]? = some u ∧ RuAt (w0.heap.size + 1) w u (gp P i).1 ∧ xs[i * 2 + 1]? = some (.int .i64 (gp P i).2)) ∧ w.ownsRow w0.heap.size 37 2 (.slice (some ⟨w0.heap.size, 0, none⟩) n n) n xs ∧ Below w0.heap.size w0 w
theorem PSt.below {w0 w w' : World} {n : Nat} {P : List Pa} {k : Nat} (h : PSt w0 w n P k) (hb : Below w.heap.size w w') : PSt w0 w' n P k := by
  obtain ⟨xs, h1, h2, h3⟩ := h
  refine ⟨xs, fun i hi => ?_, ownsRow_below h2 hb, h3.trans (hb.mono h3.size)⟩
  obtain ⟨u, c1, hu, c2⟩ := h1 i hi
  exact ⟨u, c1, hu.below hb, c2⟩
theorem PSt.put {w0 w : World} {n : Nat} {P : List Pa} {k : Nat} {u : Value} (h : PSt w0 w n P k) (hk : k < n) (hu : RuAt (w0.heap.size + 1) w u (gp P k).1) :
    PSt w0 ((w.setCell ⟨w0.heap.size, k * 2, none⟩ u).setCell ⟨w0.heap.size, k * 2 + 1, none⟩ (.int .i64 (gp P k).2)) n P (k + 1) := by
  obtain ⟨xs, h1, h2, h3⟩ := h
  have hx : xs.length = n * 2 := h2.1
  refine ⟨(xs.set (k * 2) u).set (k * 2 + 1) (.int .i64 (gp P k).2), fun i hi => ?_, ((h2.stored (k * 2) _).1.stored (k * 2 + 1) _).1, ?_⟩
  · simp only [List.getElem?_set, List.length_set]
    by_cases e : i = k
    · subst e
      refine ⟨u, ?_, (hu.put (by omega)).put (by omega), ?_⟩
      · rw [if_neg (by omega), if_pos rfl, if_pos (by omega)]
      · rw [if_pos rfl, if_pos (by omega)]
    · obtain ⟨u', c1, hu', c2⟩ := h1 i (by omega)
      refine ⟨u', ?_, (hu'.put (by omega)).put (by omega), ?_⟩
      · rw [if_neg (by omega), if_neg (by omega)]; exact c1
      · rw [if_neg (by omega), if_neg (by omega)]; exact c2
  · exact (h3.setCell (p := ⟨w0.heap.size, k * 2, none⟩) (Nat.le_refl _) _).setCell (p := ⟨w0.heap.size, k * 2 + 1, none⟩) (Nat.le_refl _) _
theorem PSt.all {w0 w : World} {P : List Pa} (h : PSt w0 w P.length P P.length) : PaAt w0.heap.size w (.slice (some ⟨w0.heap.size, 0, none⟩) P.length P.length) P := by
  obtain ⟨xs, h1, h2, h3⟩ := h
  refine ⟨_, _, rfl, ?_⟩
  by_cases e : P = []
  · exact .inl e
  · have hlt : w0.heap.size < w.heap.size := (h2.lt w0.heap.size rfl).2
    refine .inr ⟨w0.heap.size, 0, rfl, Nat.le_refl _, hlt, fun i hi => ?_⟩
    obtain ⟨u, c1, hu, c2⟩ := h1 i hi
    rw [Nat.zero_add]
    exact ⟨u, (h2.cellAt (i * 2) (by omega)).trans c1, hu.down (by omega), (h2.cellAt (i * 2 + 1) (by omega)).trans c2⟩
end Go.Proofs.YtklakcnapdhcnaaDoor.Pas
