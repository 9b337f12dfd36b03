/- An argument that is a rope, opened. -/
import Derived.Test.YtaipnmmlfbfcnaaDoorRpfP
namespace Go.Proofs.YtaipnmmlfbfcnaaDoor.Rop
open Go.ChangeShapes Go.WideShapes Go.ChangeAt Go.RowKit Go.Deep Rwc
set_option linter.unusedVariables false
section
variable {H : Type} {enc : TypeId × Value → H} {w : World} {base : Nat} {held : Bool}
theorem lrope_cells : Tryd.prog.cellsOf 25 = 2 := by kernel_rfl
theorem lnodes_cells : Tryd.prog.cellsOf 22 = 1 := by kernel_rfl
theorem lmarks_cells : Tryd.prog.cellsOf 23 = 1 := by kernel_rfl
set_option maxRecDepth 100000 in
theorem open_rope {b0 : Nat} {r : Reach} {v : Value} {d : DataW H} {ps : List MemPlace} (hval : Value.okWide Tryd.prog w r b0 25 v) (h : DataW.Trod enc Tryd.prog w base (fun _ => true) held 25 v d ps) :
    ∃ v1 v2 L M, v = .agg #[v1, v2] ∧ nd_At 0 w v1 L ∧ mk_At 0 w v2 M ∧ nd_FR L ∧ mk_FR M := by
  obtain ⟨fuel, hf⟩ := h
  obtain ⟨cs, rfl, hcs⟩ := okWide_struct Tryd.underlying25 hval
  rw [lrope_cells] at hcs
  obtain ⟨xs, k, hk, hxy, _, hxl, hfl⟩ := DataW.trod_struct Tryd.underlying25 hf
  obtain ⟨v0, v1, rfl⟩ : ∃ v0 v1, cs = #[v0, v1] := by
    obtain ⟨l⟩ := cs
    match l, hcs with
    | [v0, v1], _ => exact ⟨v0, v1, rfl⟩
  have g0 := hfl 0 _ rfl
  have g1 := hfl 1 _ rfl
  simp [lnodes_cells, lmarks_cells, Value.cells] at g0 g1
  have j0 : ∃ y, DataW.trod enc Tryd.prog w base (fun _ => true) held k 22 [v0] = some y := by
    match xs, hxl with
    | [y0, y1], _ => exact ⟨_, g0⟩
  have j1 : ∃ y, DataW.trod enc Tryd.prog w base (fun _ => true) held k 23 [v1] = some y := by
    match xs, hxl with
    | [y0, y1], _ => exact ⟨_, g1⟩
  obtain ⟨_, j0⟩ := j0
  obtain ⟨_, j1⟩ := j1
  obtain ⟨L, a1, a2, a3⟩ := nd_open j0
  obtain ⟨M, b1, b2, b3⟩ := mk_open j1
  exact ⟨v0, v1, L, M, rfl, a1, b1, ⟨by unfold maxLen at a2; omega, a3⟩, ⟨by unfold maxLen at b2; omega, b3⟩⟩
end
end Go.Proofs.YtaipnmmlfbfcnaaDoor.Rop
