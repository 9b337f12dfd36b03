/- Costs that came in. -/
import Derived.Test.YtkcmkcokfjcedaaDoorStrC
import Derived.OpenShut
import Derived.ShutString
import Derived.ChangeAt
import Derived.Deep.Strs
namespace Go.Proofs.YtkcmkcokfjcedaaDoor.Kin
open Go.ChangeShapes Go.WideShapes Go.ChangeAt Go.RowKit
theorem costs_cells : Tryd.prog.cellsOf 24 = 6 := by kernel_rfl
theorem int_cells1 : Tryd.prog.cellsOf 2 = 1 := by kernel_rfl
theorem strs_cells1 : Tryd.prog.cellsOf 22 = 1 := by kernel_rfl
theorem strs_cell {H : Type} {enc : TypeId × Value → H} {w : World} {base : Nat} {held : Bool} {fuel : Nat} {u : Value} {y : DataW H × List MemPlace} (h : DataW.trod enc Tryd.prog w base (fun _ => true) held fuel 22 [u] = some y) :
    ∃ l : List ByteArray, StrsAt w u l ∧ l.length ≤ maxLen ∧ ∀ i, i < l.length → (nthS l i).size ≤ maxLen := by
  rcases Go.Deep.open_strs Tryd.underlying22 Tryd.underlying9 (by kernel_rfl) h with ⟨hcs, _⟩ | ⟨x, len, cap, m, Sx, hcs, _, hl, hm, hmm, _, hc⟩
  · simp at hcs
    subst hcs
    exact ⟨[], ⟨none, 0, rfl, .inl rfl⟩, Nat.zero_le _, fun i hi => absurd hi (Nat.not_lt_zero _)⟩
  · simp at hcs
    subst hcs
    simp only [if_true] at hmm
    subst hmm
    have hlen : ((List.range len).map Sx).length = len := by simp
    have hn : ∀ i, i < len → nthS ((List.range len).map Sx) i = Sx i := fun i hi => by simp [nthS, List.getD, hi]
    refine ⟨(List.range len).map Sx, ⟨some x, m, by rw [hlen], ?_⟩, by rw [hlen]; omega, fun i hi => ?_⟩
    · by_cases h0 : len = 0
      · exact .inl (by rw [h0]; rfl)
      · obtain ⟨b, off, spot⟩ := x
        have hc0 := (hc 0 (by omega)).1
        have hspot : spot = none := by simpa [Addr.add] using World.cell?_spot hc0
        subst hspot
        refine .inr ⟨b, off, rfl, block_lt_of_cell (a := ⟨b, off, none⟩) (by simpa [Addr.add] using hc0), fun i hi => ?_⟩
        rw [hlen] at hi
        have hci := (hc i (by omega)).1
        have ea : (⟨b, off, none⟩ : Addr).add i = ⟨b, off + i, none⟩ := by unfold Addr.add; split <;> simp_all
        rw [ea] at hci
        rw [hn i hi]
        exact hci
    · rw [hlen] at hi
      rw [hn i hi]
      exact (hc i (by omega)).2
set_option maxRecDepth 100000 in
theorem open_costs {H : Type} {enc : TypeId × Value → H} {w : World} {held : Bool} {b0 : Nat} {r : Reach} {base : Nat} {v : Value} {d : DataW H} {ps : List MemPlace} (hval : Value.okWide Tryd.prog w r b0 24 v) (h : DataW.Trod enc Tryd.prog w base (fun _ => true) held 24 v d ps) :
    ∃ (a0 a1 a2 a3 a4 : Int) (u : Value) (K : List ByteArray), v = .agg #[.int .i64 a0, .int .i64 a1, .int .i64 a2, .int .i64 a3, .int .i64 a4, u] ∧ StrsAt w u K ∧ K.length ≤ maxLen ∧ ∀ i, i < K.length → (nthS K i).size ≤ maxLen := by
  obtain ⟨fuel, hf⟩ := h
  obtain ⟨cs, rfl, hcs⟩ := okWide_struct Tryd.underlying24 hval
  rw [costs_cells] at hcs
  obtain ⟨xs, k, hk, hxy, _, hxl, hfl⟩ := DataW.trod_struct Tryd.underlying24 hf
  obtain ⟨v0, v1, v2, v3, v4, v5, rfl⟩ : ∃ v0 v1 v2 v3 v4 v5, cs = #[v0, v1, v2, v3, v4, v5] := by
    obtain ⟨l⟩ := cs
    match l, hcs with
    | [v0, v1, v2, v3, v4, v5], _ => exact ⟨v0, v1, v2, v3, v4, v5, rfl⟩
  have g0 := hfl 0 _ rfl
  have g1 := hfl 1 _ rfl
  have g2 := hfl 2 _ rfl
  have g3 := hfl 3 _ rfl
  have g4 := hfl 4 _ rfl
  have g5 := hfl 5 _ rfl
  simp [int_cells1, strs_cells1, Value.cells] at g0 g1 g2 g3 g4 g5
  match xs, hxl with
  | [y0, y1, y2, y3, y4, y5], _ =>
    obtain ⟨n0, e0, _, _⟩ := DataW.trod_int Tryd.underlying2 g0
    obtain ⟨n1, e1, _, _⟩ := DataW.trod_int Tryd.underlying2 g1
    obtain ⟨n2, e2, _, _⟩ := DataW.trod_int Tryd.underlying2 g2
    obtain ⟨n3, e3, _, _⟩ := DataW.trod_int Tryd.underlying2 g3
    obtain ⟨n4, e4, _, _⟩ := DataW.trod_int Tryd.underlying2 g4
    obtain ⟨K, q1, q2, q3⟩ := strs_cell g5
    injection e0 with e0 _
    injection e1 with e1 _
    injection e2 with e2 _
    injection e3 with e3 _
    injection e4 with e4 _
    exact ⟨n0, n1, n2, n3, n4, v5, K, by rw [e0, e1, e2, e3, e4], q1, q2, q3⟩
end Go.Proofs.YtkcmkcokfjcedaaDoor.Kin
