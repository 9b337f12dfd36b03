/- Several texts in one. -/
import Derived.Test.YtbaedapnikhdgaaGreatDoorRowB
import Derived.ProofKit
import Derived.OpenShut
import Derived.Lib.LaidU8T
import Derived.Lib.SmallJoins
import Derived.Test.YtbaedapnikhdgaaGreatDoorDR
import Derived.ShutString
import Derived.ChangeAt
/- What the row's list says of the table, as the walks ask it. -/
namespace Go.Proofs.YtbaedapnikhdgaaGreatDoor
open Go.ChangeShapes Go.WideShapes Go.ChangeAt Go.RowKit
theorem gRep : Tryz.prog.globalNamed "loop.example/g00044/impl.repertoire" = some 2 := by kernel_rfl
theorem gRepType : (Tryz.prog.globals[2]?).map (·.type) = some 115 := by kernel_rfl
theorem cellsArr : Tryz.prog.cellsOf 115 = 196 := by kernel_rfl
theorem cellsRep : Tryz.prog.cellsOf 102 = 4 := by kernel_rfl
theorem cellsU16 : Tryz.prog.cellsOf 100 = 1 := by kernel_rfl
theorem cellsU8 : Tryz.prog.cellsOf 5 = 1 := by kernel_rfl
def rowD {H : Type} (r : Int × Int × Int × Int) : DataW H := .agg [.lit (.int .u16 r.1), .lit (.int .u16 r.2.1), .lit (.int .u8 r.2.2.1), .lit (.int .u8 r.2.2.2)]
theorem laid_eq : (Rows.laid_loop_example_g00044_impl_repertoire : DataW Unit) = .agg (tab.map rowD) := by kernel_rfl
theorem laid_cell {cs : List Value} {i : Nat} {v : Value} (h : (cs.drop i).take 1 = [v]) : cs[i]? = some v := by
  have := congrArg (·[0]?) h
  simpa [List.getElem?_take, List.getElem?_drop] using this
theorem sub_cell {cs : List Value} {a b : Nat} {v : Value} (h : (((cs.drop a).take 4).drop b).take 1 = [v]) (hb : b < 4) : cs[a + b]? = some v := by
  have := laid_cell h
  simpa [List.getElem?_take, List.getElem?_drop, hb] using this
set_option maxRecDepth 100000 in
theorem tabAt_of_reads {W : World} (h : Lib.VarReads Tryz.prog W "loop.example/g00044/impl.repertoire" Rows.laid_loop_example_g00044_impl_repertoire) : TabAt W := by
  obtain ⟨g', t', cs, fuel, p, hg', ht', hvar, hd⟩ := h
  obtain rfl := Option.some.inj (gRep.symm.trans hg')
  obtain rfl := Option.some.inj (gRepType.symm.trans ht')
  rw [laid_eq] at hd
  obtain ⟨xs, m, _, hx, hl, hn, hel⟩ := DataW.trod_array Tryz.underlying115 hd
  rw [cellsRep] at hel
  rw [cellsArr] at hl
  simp only [Prod.mk.injEq, DataW.agg.injEq] at hx
  have hmap := hx.1
  clear hx hd
  have hpos : 2 < W.heap.size := by
    unfold World.var? at hvar
    rw [hg'] at hvar
    simp only [Option.bind_some] at hvar
    cases hh : W.heap[2]? with
    | none => rw [hh] at hvar; cases hvar
    | some o => exact (Array.getElem?_eq_some_iff.1 hh).1
  refine ⟨hpos, fun i hi => ?_⟩
  have hxi := hel i (by omega)
  have hlx : i < xs.length := by omega
  rw [List.getElem?_eq_getElem hlx] at hxi
  have hi1 : xs[i].1 = rowD (tab.getD i Z4) := by
    have h1 : (xs.map (·.1))[i]? = some xs[i].1 := by simp [hlx]
    rw [← hmap] at h1
    have hlt : i < tab.length := by rw [tab_length]; exact hi
    simp only [List.getElem?_map, List.getElem?_eq_getElem hlt, Option.map_some, Option.some.injEq] at h1
    rw [← h1, get_tab i hlt]
  obtain ⟨y0, y1, y2, y3, n, hxe, _, h0, h1, h2, h3⟩ := Joins.trod_struct4 Tryz.underlying102 hxi
  rw [hxe] at hi1
  simp only [rowD, DataW.agg.injEq, List.cons.injEq, and_true] at hi1
  obtain ⟨d0, d1, d2, d3⟩ := hi1
  simp only [cellsU16, cellsU8] at h0 h1 h2 h3
  obtain ⟨z0, c0, e0, _⟩ := DataW.trod_int Tryz.underlying100 h0
  obtain ⟨z1, c1, e1, _⟩ := DataW.trod_int Tryz.underlying100 h1
  obtain ⟨z2, c2, e2, _⟩ := DataW.trod_int Tryz.underlying5 h2
  obtain ⟨z3, c3, e3, _⟩ := DataW.trod_int Tryz.underlying5 h3
  have k0 := sub_cell c0 (by decide)
  have k1 := sub_cell c1 (by decide)
  have k2 := sub_cell c2 (by decide)
  have k3 := sub_cell c3 (by decide)
  rw [e0] at d0; rw [e1] at d1; rw [e2] at d2; rw [e3] at d3
  simp only [DataW.lit.injEq, Lit.int.injEq, true_and] at d0 d1 d2 d3
  have cell := fun j => World.var?_cell hg' hvar j
  refine ⟨?_, ?_, ?_, ?_⟩
  · rw [cell, ← Array.getElem?_toList]; unfold F; rw [← d0]; exact k0
  · rw [cell, ← Array.getElem?_toList]; unfold L; rw [← d1]; exact k1
  · rw [cell, ← Array.getElem?_toList]; unfold C; rw [← d2]; exact k2
  · rw [cell, ← Array.getElem?_toList]; unfold S; rw [← d3]; exact k3
end Go.Proofs.YtbaedapnikhdgaaGreatDoor
/- A code of draws that came in. -/
namespace Go.Proofs.YtbaedapnikhdgaaGreatDoor.Dr
open Go.ChangeShapes Go.WideShapes Go.ChangeAt Go.RowKit
theorem open_code {H : Type} {enc : TypeId × Value → H} {W : World} {held : Bool} {a : Option Addr} {len cap : Nat} {d : DataW H} {ps : List MemPlace} (h : DataW.Trod enc Tryz.prog W 0 (fun _ => true) held 22 (.slice a len cap) d ps) : CodeIn W a len ∧ len ≤ maxLen := by
  obtain ⟨fuel, hf⟩ := h
  rcases open_ints Tryz.underlying22 Tryz.underlying5 (by kernel_rfl) hf with ⟨hcs, _⟩ | ⟨x, l, c, zs, hcs, _, hl, hm, hz, _, hcell, hwz⟩
  · simp [Value.cells] at hcs
    obtain ⟨rfl, rfl, rfl⟩ := hcs
    exact ⟨.inl rfl, Nat.zero_le _⟩
  · simp [Value.cells] at hcs
    obtain ⟨rfl, rfl, rfl⟩ := hcs
    have hz' : zs.length = cap := by simpa using hz
    refine ⟨?_, by omega⟩
    by_cases h0 : len = 0
    · exact .inl h0
    · obtain ⟨b, off, spot⟩ := x
      have hc0 := hcell 0 (by omega)
      have hspot : spot = none := by simpa [Addr.add] using World.cell?_spot hc0
      subst hspot
      refine .inr ⟨b, off, rfl, block_lt_of_cell (a := ⟨b, off, none⟩) (by simpa [Addr.add] using hc0), fun i hi => ?_⟩
      have hci := hcell i (by omega)
      have ea : (⟨b, off, none⟩ : Addr).add i = ⟨b, off + i, none⟩ := by unfold Addr.add; split <;> simp_all
      rw [ea] at hci
      have hb := bounds_u8 (hwz (zs.getD i 0) (by simp [List.getD, show i < zs.length by omega]))
      exact ⟨_, hci, by omega, by omega⟩
end Go.Proofs.YtbaedapnikhdgaaGreatDoor.Dr
