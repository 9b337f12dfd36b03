/- What a row's list of both tables says, as the walks ask it. -/
import Derived.Test.YtamigjljgepfiaaGreatDoorLaidB
import Derived.Test.YtamigjljgepfiaaGreatDoorLaidC
import Derived.Test.YtamigjljgepfiaaGreatDoorLowL
namespace Go.Proofs.YtamigjljgepfiaaGreatDoor
open Go.ChangeShapes Go.WideShapes Go.ChangeAt Go.RowKit
theorem laid_parts {P : Program} {n0 n1 : String} {d0 d1 : DataW Unit} {W : World} (h : laidMet P [(n0, d0), (n1, d1)] W) : laidMet P [(n0, d0)] W ∧ laidMet P [(n1, d1)] W := by
  obtain ⟨ps, ⟨g, t, cs, f, p, q, h1, h2, h3, h4, h5, rfl⟩, hn, hc⟩ := h
  refine ⟨⟨MemPlace.row ⟨g, 0, none⟩ cs.size ++ p, ⟨g, t, cs, f, p, [], h1, h2, h3, h4, rfl, by simp⟩, (List.nodup_append.1 hn).1, fun b off hm => hc b off (List.mem_append.2 (.inl hm))⟩, ⟨q, h5, (List.nodup_append.1 hn).2.1, fun b off hm => hc b off (List.mem_append.2 (.inr hm))⟩⟩
theorem both_of_laid {W : World} (h : laidMetH Tryz.prog [("loop.example/g00044/impl.repertoire", Rows.laid_loop_example_g00044_impl_repertoire), ("loop.example/g00044/impl.caseBlocks", Rows.laid_loop_example_g00044_impl_caseBlocks)] W) : Cas.Both W := by
  rw [MakeChecks.laidMetH_plain _ _ _ (by kernel_rfl)] at h
  obtain ⟨h1, h2⟩ := laid_parts h
  exact ⟨tabAt_of_laid (by rw [MakeChecks.laidMetH_plain _ _ _ (by kernel_rfl)]; exact h1), Cas.blkAt_of_laid (by rw [MakeChecks.laidMetH_plain _ _ _ (by kernel_rfl)]; exact h2)⟩
end Go.Proofs.YtamigjljgepfiaaGreatDoor
