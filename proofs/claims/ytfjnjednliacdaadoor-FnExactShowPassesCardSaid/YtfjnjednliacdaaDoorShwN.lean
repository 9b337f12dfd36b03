/- What the row's list says of the names of the forms. -/
import Derived.Test.YtfjnjednliacdaaDoorShwK
import Derived.ProofKit
import Derived.OpenShut
import Derived.LaidMore
import Derived.Lib.LaidU8T
namespace Go.Proofs.YtfjnjednliacdaaDoor.Pas
open Go.ChangeShapes Go.WideShapes Go.ChangeAt Go.RowKit
theorem gNam : Tryd.prog.globalNamed "loop.example/g00044/impl.normNames" = some 0 := by kernel_rfl
theorem gNamType : (Tryd.prog.globals[0]?).map (·.type) = some 43 := by kernel_rfl
theorem cellsNam : Tryd.prog.cellsOf 43 = 5 := by kernel_rfl
theorem cellsStr : Tryd.prog.cellsOf 9 = 1 := by kernel_rfl
theorem laid_nam : (Rows.laid_loop_example_g00044_impl_normNames : DataW Unit) = .agg [.lit (.string [110, 111, 110, 101]), .lit (.string [68]), .lit (.string [67]), .lit (.string [75, 68]), .lit (.string [75, 67])] := by kernel_rfl
set_option maxRecDepth 100000 in
theorem namAt_of {W : World} (h : Lib.VarReads Tryd.prog W "loop.example/g00044/impl.normNames" Rows.laid_loop_example_g00044_impl_normNames) : NamAt W := by
  rw [laid_nam] at h
  obtain ⟨g', t', cs, fuel, p, hg', ht', hvar, hd⟩ := h
  obtain rfl := Option.some.inj (gNam.symm.trans hg')
  obtain rfl := Option.some.inj (gNamType.symm.trans ht')
  obtain ⟨xs, m, _, hx, hl, hn, hel⟩ := DataW.trod_array Tryd.underlying43 hd
  rw [cellsStr] at hel
  rw [cellsNam] at hl
  simp only [Prod.mk.injEq, DataW.agg.injEq] at hx
  have hmap := hx.1
  clear hx hd
  have hpos : 0 < W.heap.size := by
    unfold World.var? at hvar
    rw [hg'] at hvar
    simp only [Option.bind_some] at hvar
    cases hh : W.heap[0]? with
    | none => rw [hh] at hvar; cases hvar
    | some o => exact (Array.getElem?_eq_some_iff.1 hh).1
  refine ⟨hpos, fun i hi => ?_⟩
  have hxi := hel i (by omega)
  have hlx : i < xs.length := by omega
  rw [List.getElem?_eq_getElem hlx] at hxi
  obtain ⟨s, c0, e0, _⟩ := DataW.trod_string Tryd.underlying9 hxi
  have h1 : (xs.map (·.1))[i]? = some xs[i].1 := by simp [hlx]
  rw [← hmap, e0] at h1
  have k0 : cs.toList[i]? = some (.string s) := by
    have := congrArg (·[0]?) c0
    simpa [List.getElem?_take, List.getElem?_drop] using this
  have cell := fun j => World.var?_cell hg' hvar j
  rw [cell, ← Array.getElem?_toList, k0]
  have hs : s = nmS i := by
    have : i = 0 ∨ i = 1 ∨ i = 2 ∨ i = 3 ∨ i = 4 := by omega
    rcases this with rfl | rfl | rfl | rfl | rfl
    all_goals
      simp at h1
      apply Go.WideShapes.bytes_inj
      rw [← h1]
      rfl
  rw [hs]
end Go.Proofs.YtfjnjednliacdaaDoor.Pas
