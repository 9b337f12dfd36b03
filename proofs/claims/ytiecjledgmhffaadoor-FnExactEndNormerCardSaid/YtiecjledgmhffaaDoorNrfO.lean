/- A normer that came in. -/
import Derived.Test.YtiecjledgmhffaaDoorNmlL
import Derived.OpenShut
import Derived.ShutString
namespace Go.Proofs.YtiecjledgmhffaaDoor
open Go.ChangeShapes Go.WideShapes Go.ChangeAt Go.RowKit
theorem normer_cells : Tryd.prog.cellsOf 25 = 2 := by kernel_rfl
theorem int_cells1 : Tryd.prog.cellsOf 2 = 1 := by kernel_rfl
theorem str_cells1 : Tryd.prog.cellsOf 9 = 1 := by kernel_rfl
set_option maxRecDepth 100000 in
theorem open_normer {H : Type} {enc : TypeId × Value → H} {w : World} {held : Bool} {b0 : Nat} {r : Reach} {base : Nat} {v : Value} {d : DataW H} {ps : List MemPlace} (hval : Value.okWide Tryd.prog w r b0 25 v) (h : DataW.Trod enc Tryd.prog w base (fun _ => true) held 25 v d ps) :
    ∃ (f : Int) (s : ByteArray), v = .agg #[.int .i64 f, .string s] ∧ (Lit.int .i64 f).wf = true ∧ s.size ≤ maxLen := by
  obtain ⟨fuel, hf⟩ := h
  obtain ⟨cs, rfl, hcs⟩ := okWide_struct Tryd.underlying25 hval
  rw [normer_cells] at hcs
  obtain ⟨xs, k, hk, hxy, _, hxl, hfl⟩ := DataW.trod_struct Tryd.underlying25 hf
  obtain ⟨vi, vd, rfl⟩ : ∃ vi vd, cs = #[vi, vd] := by
    obtain ⟨l⟩ := cs
    match l, hcs with
    | [vi, vd], _ => exact ⟨vi, vd, rfl⟩
  have g0 := hfl 0 _ rfl
  have g1 := hfl 1 _ rfl
  simp [int_cells1, str_cells1, Value.cells] at g0 g1
  have j0 : ∃ y, DataW.trod enc Tryd.prog w base (fun _ => true) held k 2 [vi] = some y := by
    match xs, hxl with
    | [y0, y1], _ => exact ⟨_, g0⟩
  have j1 : ∃ y, DataW.trod enc Tryd.prog w base (fun _ => true) held k 9 [vd] = some y := by
    match xs, hxl with
    | [y0, y1], _ => exact ⟨_, g1⟩
  obtain ⟨_, j0⟩ := j0
  obtain ⟨_, j1⟩ := j1
  obtain ⟨n, e0, _, hw⟩ := DataW.trod_int Tryd.underlying2 j0
  obtain ⟨s, e1, _, hs⟩ := DataW.trod_string Tryd.underlying9 j1
  injection e0 with e0 _
  injection e1 with e1 _
  exact ⟨n, s, by rw [e0, e1], hw, hs⟩
end Go.Proofs.YtiecjledgmhffaaDoor
