/- Arguments that hold a font, opened. -/
import Derived.Test.YtccnjjkechdknaaSpnO
import Derived.Test.YtccnjjkechdknaaKrnO
import Derived.Test.YtccnjjkechdknaaFrlO
namespace Go.Proofs.Ytccnjjkechdknaa.Fnt
open Go.ChangeShapes Go.WideShapes Go.ChangeAt Go.RowKit Go.Deep
set_option linter.unusedVariables false
section
variable {H : Type} {enc : TypeId × Value → H} {w : World} {base : Nat} {held : Bool}
theorem lspans_cells : Try.prog.cellsOf 22 = 1 := by kernel_rfl
theorem lrules_cells : Try.prog.cellsOf 23 = 1 := by kernel_rfl
theorem lkerns_cells : Try.prog.cellsOf 24 = 1 := by kernel_rfl
theorem lfont_cells : Try.prog.cellsOf 26 = 5 := by kernel_rfl
theorem i64_cells : Try.prog.cellsOf 2 = 1 := by kernel_rfl
theorem sps_cell {fuel : Nat} {u : Value} {y : DataW H × List MemPlace} (h : DataW.trod enc Try.prog w base (fun _ => true) held fuel 22 [u] = some y) : ∃ a c L, u = .slice a L.length c ∧ SpsAt w u L ∧ L.length ≤ maxLen := by
  have hs : ∃ a l c, u = .slice a l c := by
    rcases open_slice Try.underlying22 h with ⟨hcs, _⟩ | ⟨x, l, c, m, n, D, Pl, hcs, _⟩
    · simp at hcs; exact ⟨none, 0, 0, hcs⟩
    · simp at hcs; exact ⟨some x, l, c, hcs⟩
  obtain ⟨a, l, c, rfl⟩ := hs
  obtain ⟨d, ps⟩ := y
  obtain ⟨L, h1, h2⟩ := open_spans a l c rfl ⟨fuel, h⟩
  have h1' := h1
  obtain ⟨a', c', e, _⟩ := h1'
  injection e with e1 e2 e3
  subst e2
  exact ⟨a, c, L, rfl, h1, h2⟩
theorem krn_cell {fuel : Nat} {u : Value} {y : DataW H × List MemPlace} (h : DataW.trod enc Try.prog w base (fun _ => true) held fuel 24 [u] = some y) : ∃ a c L, u = .slice a L.length c ∧ Krn.SpsAt w u L ∧ L.length ≤ maxLen := by
  have hs : ∃ a l c, u = .slice a l c := by
    rcases open_slice Try.underlying24 h with ⟨hcs, _⟩ | ⟨x, l, c, m, n, D, Pl, hcs, _⟩
    · simp at hcs; exact ⟨none, 0, 0, hcs⟩
    · simp at hcs; exact ⟨some x, l, c, hcs⟩
  obtain ⟨a, l, c, rfl⟩ := hs
  obtain ⟨d, ps⟩ := y
  obtain ⟨L, h1, h2⟩ := Krn.open_spans a l c rfl ⟨fuel, h⟩
  have h1' := h1
  obtain ⟨a', c', e, _⟩ := h1'
  injection e with e1 e2 e3
  subst e2
  exact ⟨a, c, L, rfl, h1, h2⟩
theorem rul_cell {fuel : Nat} {u : Value} {y : DataW H × List MemPlace} (h : DataW.trod enc Try.prog w base (fun _ => true) held fuel 23 [u] = some y) : ∃ a c n Q, u = .slice a n c ∧ Frl.RuI w u n Q ∧ n ≤ maxLen ∧ Frl.AllB Q maxLen := by
  have hs : ∃ a l c, u = .slice a l c := by
    rcases open_slice Try.underlying23 h with ⟨hcs, _⟩ | ⟨x, l, c, m, n, D, Pl, hcs, _⟩
    · simp at hcs; exact ⟨none, 0, 0, hcs⟩
    · simp at hcs; exact ⟨some x, l, c, hcs⟩
  obtain ⟨a, l, c, rfl⟩ := hs
  obtain ⟨d, ps⟩ := y
  obtain ⟨n, Q, h1, h2, h3⟩ := Frl.open_rules a l c rfl ⟨fuel, h⟩
  have h1' := h1
  obtain ⟨_, a', c', e, _⟩ := h1'
  injection e with e1 e2 e3
  subst e2
  exact ⟨a, c, l, Q, rfl, h1, h2, h3⟩
set_option maxRecDepth 100000 in
theorem open_font {b0 : Nat} {r : Reach} {v : Value} {d : DataW H} {ps : List MemPlace} (hval : Value.okWide Try.prog w r b0 26 v) (h : DataW.Trod enc Try.prog w base (fun _ => true) held 26 v d ps) :
    ∃ wd a1 a2 a3 a4 c1 c2 c3 c4 LW n Q LK LA, v = .agg #[.int .i64 wd, .slice a1 (List.length LW) c1, .slice a2 n c2, .slice a3 (List.length LK) c3, .slice a4 (List.length LA) c4] ∧ SpsAt w (.slice a1 (List.length LW) c1) LW ∧ Frl.RuI w (.slice a2 n c2) n Q ∧ Krn.SpsAt w (.slice a3 (List.length LK) c3) LK ∧ SpsAt w (.slice a4 (List.length LA) c4) LA ∧ List.length LW ≤ maxLen ∧ n ≤ maxLen ∧ Frl.AllB Q maxLen ∧ List.length LK ≤ maxLen ∧ List.length LA ≤ maxLen := by
  obtain ⟨fuel, hf⟩ := h
  obtain ⟨cs, rfl, hcs⟩ := okWide_struct Try.underlying26 hval
  rw [lfont_cells] at hcs
  obtain ⟨xs, k, hk, hxy, _, hxl, hfl⟩ := DataW.trod_struct Try.underlying26 hf
  obtain ⟨v0, v1, v2, v3, v4, rfl⟩ : ∃ v0 v1 v2 v3 v4, cs = #[v0, v1, v2, v3, v4] := by
    obtain ⟨l⟩ := cs
    match l, hcs with
    | [v0, v1, v2, v3, v4], _ => exact ⟨v0, v1, v2, v3, v4, rfl⟩
  have g0 := hfl 0 _ rfl
  have g1 := hfl 1 _ rfl
  have g2 := hfl 2 _ rfl
  have g3 := hfl 3 _ rfl
  have g4 := hfl 4 _ rfl
  simp [lspans_cells, lrules_cells, lkerns_cells, i64_cells, Value.cells] at g0 g1 g2 g3 g4
  have j0 : ∃ y, DataW.trod enc Try.prog w base (fun _ => true) held k 2 [v0] = some y := by
    match xs, hxl with
    | [y0, y1, y2, y3, y4], _ => exact ⟨_, g0⟩
  have j1 : ∃ y, DataW.trod enc Try.prog w base (fun _ => true) held k 22 [v1] = some y := by
    match xs, hxl with
    | [y0, y1, y2, y3, y4], _ => exact ⟨_, g1⟩
  have j2 : ∃ y, DataW.trod enc Try.prog w base (fun _ => true) held k 23 [v2] = some y := by
    match xs, hxl with
    | [y0, y1, y2, y3, y4], _ => exact ⟨_, g2⟩
  have j3 : ∃ y, DataW.trod enc Try.prog w base (fun _ => true) held k 24 [v3] = some y := by
    match xs, hxl with
    | [y0, y1, y2, y3, y4], _ => exact ⟨_, g3⟩
  have j4 : ∃ y, DataW.trod enc Try.prog w base (fun _ => true) held k 22 [v4] = some y := by
    match xs, hxl with
    | [y0, y1, y2, y3, y4], _ => exact ⟨_, g4⟩
  obtain ⟨_, j0⟩ := j0
  obtain ⟨_, j1⟩ := j1
  obtain ⟨_, j2⟩ := j2
  obtain ⟨_, j3⟩ := j3
  obtain ⟨_, j4⟩ := j4
  obtain ⟨wd, q0, _⟩ := DataW.trod_int Try.underlying2 j0
  obtain ⟨a1, c1, LW, rfl, s1, m1⟩ := sps_cell j1
  obtain ⟨a2, c2, n, Q, rfl, s2, m2, m5⟩ := rul_cell j2
  obtain ⟨a3, c3, LK, rfl, s3, m3⟩ := krn_cell j3
  obtain ⟨a4, c4, LA, rfl, s4, m4⟩ := sps_cell j4
  simp at q0
  subst q0
  exact ⟨wd, a1, a2, a3, a4, c1, c2, c3, c4, LW, n, Q, LK, LA, rfl, s1, s2, s3, s4, m1, m2, m5, m3, m4⟩
end
end Go.Proofs.Ytccnjjkechdknaa.Fnt
