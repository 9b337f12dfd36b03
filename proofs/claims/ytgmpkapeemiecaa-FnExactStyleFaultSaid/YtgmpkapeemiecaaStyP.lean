/- A style that came in. -/
import Derived.Test.YtgmpkapeemiecaaStyO
namespace Go.Proofs.Ytgmpkapeemiecaa.Sty
open Go.ChangeShapes Go.WideShapes Go.ChangeAt Go.RowKit
theorem style_cells : Try.prog.cellsOf 34 = 4 := by kernel_rfl
theorem int_cells1 : Try.prog.cellsOf 2 = 1 := by kernel_rfl
set_option maxRecDepth 100000 in
theorem open_style {H : Type} {enc : TypeId × Value → H} {w : World} {held : Bool} {b0 : Nat} {r : Reach} {base : Nat} {v : Value} {d : DataW H} {ps : List MemPlace} (hval : Value.okWide Try.prog w r b0 34 v) (h : DataW.Trod enc Try.prog w base (fun _ => true) held 34 v d ps) :
    ∃ (a0 a1 a2 : Int) (u : Value) (K : List ByteArray), v = .agg #[.int .i64 a0, .int .i64 a1, .int .i64 a2, u] ∧ StrsAt w u K ∧ K.length ≤ maxLen ∧ ∀ i, i < K.length → (nthS K i).size ≤ maxLen := by
  obtain ⟨fuel, hf⟩ := h
  obtain ⟨cs, rfl, hcs⟩ := okWide_struct Try.underlying34 hval
  rw [style_cells] at hcs
  obtain ⟨xs, k, hk, hxy, _, hxl, hfl⟩ := DataW.trod_struct Try.underlying34 hf
  obtain ⟨v0, v1, v2, v3, rfl⟩ : ∃ v0 v1 v2 v3, cs = #[v0, v1, v2, v3] := by
    obtain ⟨l⟩ := cs
    match l, hcs with
    | [v0, v1, v2, v3], _ => exact ⟨v0, v1, v2, v3, rfl⟩
  have g0 := hfl 0 _ rfl
  have g1 := hfl 1 _ rfl
  have g2 := hfl 2 _ rfl
  have g3 := hfl 3 _ rfl
  simp [int_cells1, strs_cells1, Value.cells] at g0 g1 g2 g3
  match xs, hxl with
  | [y0, y1, y2, y3], _ =>
    obtain ⟨n0, e0, _, _⟩ := DataW.trod_int Try.underlying2 g0
    obtain ⟨n1, e1, _, _⟩ := DataW.trod_int Try.underlying2 g1
    obtain ⟨n2, e2, _, _⟩ := DataW.trod_int Try.underlying2 g2
    obtain ⟨K, q1, q2, q3⟩ := strs_cell g3
    injection e0 with e0 _
    injection e1 with e1 _
    injection e2 with e2 _
    exact ⟨n0, n1, n2, v3, K, by rw [e0, e1, e2], q1, q2, q3⟩
end Go.Proofs.Ytgmpkapeemiecaa.Sty
