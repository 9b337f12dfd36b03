/- What the row's list says of the blocks of case, as the walks ask it. -/
import Derived.Test.YtamigjljgepfiaaGreatDoorCasJ
import Derived.ProofKit
import Derived.OpenShut
import Derived.LaidMore
import Derived.Lib.SmallJoins
namespace Go.Proofs.YtamigjljgepfiaaGreatDoor
open Go.ChangeShapes Go.WideShapes Go.ChangeAt Go.RowKit
namespace Cas
theorem gBlk : Tryz.prog.globalNamed "loop.example/g00044/impl.caseBlocks" = some 0 := by kernel_rfl
theorem gBlkType : (Tryz.prog.globals[0]?).map (·.type) = some 104 := by kernel_rfl
theorem cellsArr : Tryz.prog.cellsOf 104 = 24 := by kernel_rfl
theorem cellsBlk : Tryz.prog.cellsOf 103 = 4 := by kernel_rfl
theorem cellsInt : Tryz.prog.cellsOf 2 = 1 := by kernel_rfl
def rowD {H : Type} (r : B4) : DataW H := .agg [.lit (.int .i64 r.1), .lit (.int .i64 r.2.1), .lit (.int .i64 r.2.2.1), .lit (.int .i64 r.2.2.2)]
theorem laid_eq : (Rows.laid_loop_example_g00044_impl_caseBlocks : DataW Unit) = .agg (blks.map rowD) := by kernel_rfl
theorem laid_cell {cs : List Value} {i : Nat} {v : Value} (h : (cs.drop i).take 1 = [v]) : cs[i]? = some v := by
  have := congrArg (·[0]?) h
  simpa [List.getElem?_take, List.getElem?_drop] using this
theorem sub_cell {cs : List Value} {a b : Nat} {v : Value} (h : (((cs.drop a).take 4).drop b).take 1 = [v]) (hb : b < 4) : cs[a + b]? = some v := by
  have := laid_cell h
  simpa [List.getElem?_take, List.getElem?_drop, hb] using this
set_option maxRecDepth 100000 in
theorem blkAt_of_laid {W : World} (h : laidMetH Tryz.prog [("loop.example/g00044/impl.caseBlocks", Rows.laid_loop_example_g00044_impl_caseBlocks)] W) : BlkAt W := by
  rw [MakeChecks.laidMetH_plain _ _ _ (by kernel_rfl)] at h
  obtain ⟨ps, ⟨g', t', cs, fuel, p, q, hg', ht', hvar, hd, _, _⟩, _⟩ := h
  obtain rfl := Option.some.inj (gBlk.symm.trans hg')
  obtain rfl := Option.some.inj (gBlkType.symm.trans ht')
  rw [laid_eq] at hd
  obtain ⟨xs, m, _, hx, hl, hn, hel⟩ := DataW.trod_array Tryz.underlying104 hd
  rw [cellsBlk] at hel
  rw [cellsArr] at hl
  simp only [Prod.mk.injEq, DataW.agg.injEq] at hx
  have hmap := hx.1
  clear hx hd
  have hpos : 0 < W.heap.size := by
    unfold World.var? at hvar
    rw [hg'] at hvar
    simp only [Option.bind_some] at hvar
    cases hh : W.heap[0]? with
    | none => rw [hh] at hvar; cases hvar
    | some o => exact (Array.getElem?_eq_some_iff.1 hh).1
  have fin : ∀ i, i < 6 → W.cell? ⟨0, i * 4, none⟩ = some (.int .i64 (bk i).1) ∧ W.cell? ⟨0, i * 4 + 1, none⟩ = some (.int .i64 (bk i).2.1) ∧ W.cell? ⟨0, i * 4 + 2, none⟩ = some (.int .i64 (bk i).2.2.1) ∧ W.cell? ⟨0, i * 4 + 3, none⟩ = some (.int .i64 (bk i).2.2.2) := by
    intro i hi
    have hxi := hel i (by omega)
    have hlx : i < xs.length := by omega
    rw [List.getElem?_eq_getElem hlx] at hxi
    have hi1 : xs[i].1 = rowD (bk i) := by
      have h1 : (xs.map (·.1))[i]? = some xs[i].1 := by simp [hlx]
      rw [← hmap] at h1
      have hlt : i < blks.length := hi
      simp only [List.getElem?_map, List.getElem?_eq_getElem hlt, Option.map_some, Option.some.injEq] at h1
      rw [← h1]
      unfold bk
      rw [List.getD_eq_getElem?_getD, List.getElem?_eq_getElem hlt]; rfl
    obtain ⟨y0, y1, y2, y3, n, hxe, _, h0, h1, h2, h3⟩ := Joins.trod_struct4 Tryz.underlying103 hxi
    rw [hxe] at hi1
    simp only [rowD, DataW.agg.injEq, List.cons.injEq, and_true] at hi1
    obtain ⟨d0, d1, d2, d3⟩ := hi1
    simp only [cellsInt] at h0 h1 h2 h3
    obtain ⟨z0, c0, e0, _⟩ := DataW.trod_int Tryz.underlying2 h0
    obtain ⟨z1, c1, e1, _⟩ := DataW.trod_int Tryz.underlying2 h1
    obtain ⟨z2, c2, e2, _⟩ := DataW.trod_int Tryz.underlying2 h2
    obtain ⟨z3, c3, e3, _⟩ := DataW.trod_int Tryz.underlying2 h3
    have k0 := sub_cell c0 (by decide)
    have k1 := sub_cell c1 (by decide)
    have k2 := sub_cell c2 (by decide)
    have k3 := sub_cell c3 (by decide)
    rw [e0] at d0; rw [e1] at d1; rw [e2] at d2; rw [e3] at d3
    simp only [DataW.lit.injEq, Lit.int.injEq, true_and] at d0 d1 d2 d3
    have cell := fun j => World.var?_cell hg' hvar j
    refine ⟨?_, ?_, ?_, ?_⟩
    · rw [cell, ← Array.getElem?_toList, ← d0]; exact k0
    · rw [cell, ← Array.getElem?_toList, ← d1]; exact k1
    · rw [cell, ← Array.getElem?_toList, ← d2]; exact k2
    · rw [cell, ← Array.getElem?_toList, ← d3]; exact k3
  refine ⟨hpos, fun j hj => ?_⟩
  have hi : j / 4 < 6 := by omega
  obtain ⟨k0, k1, k2, k3⟩ := fin (j / 4) hi
  have hm : j % 4 = 0 ∨ j % 4 = 1 ∨ j % 4 = 2 ∨ j % 4 = 3 := by omega
  have hf : ∀ i, i < 6 → flat.getD (i * 4) 0 = (bk i).1 ∧ flat.getD (i * 4 + 1) 0 = (bk i).2.1 ∧ flat.getD (i * 4 + 2) 0 = (bk i).2.2.1 ∧ flat.getD (i * 4 + 3) 0 = (bk i).2.2.2 := by decide
  obtain ⟨f0, f1, f2, f3⟩ := hf (j / 4) hi
  rcases hm with h | h | h | h
  · rw [show j = j / 4 * 4 by omega, k0, f0]
  · rw [show j = j / 4 * 4 + 1 by omega, k1, f1]
  · rw [show j = j / 4 * 4 + 2 by omega, k2, f2]
  · rw [show j = j / 4 * 4 + 3 by omega, k3, f3]
end Cas
end Go.Proofs.YtamigjljgepfiaaGreatDoor
