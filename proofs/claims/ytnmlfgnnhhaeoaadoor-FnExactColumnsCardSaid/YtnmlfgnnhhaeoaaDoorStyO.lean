/- A slice of strings that came in. -/
import Derived.Test.YtnmlfgnnhhaeoaaDoorStrA
import Derived.ProofKit
import Derived.OpenShut
import Derived.ShutString
import Derived.ChangeOld
import Derived.ChangeAt
import Derived.Below
import Derived.Deep.Strs
import Derived.WalkKit
namespace Go.Proofs.YtnmlfgnnhhaeoaaDoor.Sty
open Go.ChangeShapes Go.WideShapes Go.ChangeAt Go.RowKit
theorem strs_cells1 : Tryd.prog.cellsOf 22 = 1 := by kernel_rfl
theorem strs_cell {H : Type} {enc : TypeId × Value → H} {w : World} {base : Nat} {held : Bool} {fuel : Nat} {u : Value} {y : DataW H × List MemPlace} (h : DataW.trod enc Tryd.prog w base (fun _ => true) held fuel 22 [u] = some y) :
    ∃ l : List ByteArray, StrsAt w u l ∧ l.length ≤ maxLen ∧ ∀ i, i < l.length → (nthS l i).size ≤ maxLen := by
  rcases Go.Deep.open_strs Tryd.underlying22 Tryd.underlying9 (by kernel_rfl) h with ⟨hcs, _⟩ | ⟨x, len, cap, m, Sx, hcs, _, hl, hm, hmm, _, hc⟩
  · simp at hcs
    subst hcs
    exact ⟨[], ⟨none, 0, rfl, .inl rfl⟩, Nat.zero_le _, fun i hi => absurd hi (Nat.not_lt_zero _)⟩
  · simp at hcs
    subst hcs
    simp only [if_true] at hmm
    subst hmm
    have hlen : ((List.range len).map Sx).length = len := by simp
    have hn : ∀ i, i < len → nthS ((List.range len).map Sx) i = Sx i := fun i hi => by simp [nthS, List.getD, hi]
    refine ⟨(List.range len).map Sx, ⟨some x, m, by rw [hlen], ?_⟩, by rw [hlen]; omega, fun i hi => ?_⟩
    · by_cases h0 : len = 0
      · exact .inl (by rw [h0]; rfl)
      · obtain ⟨b, off, spot⟩ := x
        have hc0 := (hc 0 (by omega)).1
        have hspot : spot = none := by simpa [Addr.add] using World.cell?_spot hc0
        subst hspot
        refine .inr ⟨b, off, rfl, block_lt_of_cell (a := ⟨b, off, none⟩) (by simpa [Addr.add] using hc0), fun i hi => ?_⟩
        rw [hlen] at hi
        have hci := (hc i (by omega)).1
        have ea : (⟨b, off, none⟩ : Addr).add i = ⟨b, off + i, none⟩ := by unfold Addr.add; split <;> simp_all
        rw [ea] at hci
        rw [hn i hi]
        exact hci
    · rw [hlen] at hi
      rw [hn i hi]
      exact (hc i (by omega)).2
set_option maxRecDepth 100000 in
theorem open_row {H : Type} {enc : TypeId × Value → H} {w : World} {base : Nat} {held : Bool} {a : Option Addr} {len cap : Nat} {y : DataW H × List MemPlace} (h : ∃ fuel, DataW.trod enc Tryd.prog w base (fun _ => true) held fuel 22 (Value.slice a len cap).cells.toList = some y) :
    ∃ l : List ByteArray, StrsAt w (.slice a len cap) l ∧ l.length ≤ maxLen ∧ ∀ i, i < l.length → (nthS l i).size ≤ maxLen := by
  obtain ⟨fuel, hf⟩ := h
  exact strs_cell hf
end Go.Proofs.YtnmlfgnnhhaeoaaDoor.Sty
