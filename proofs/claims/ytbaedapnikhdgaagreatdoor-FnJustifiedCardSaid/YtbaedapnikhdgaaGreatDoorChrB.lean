/- Of each point whether a character starts with it, as the program tells it: the walk. -/
import Derived.Test.YtbaedapnikhdgaaGreatDoorChrA
import Derived.Laws.MakeOwn
namespace Go.Proofs.YtbaedapnikhdgaaGreatDoor
namespace Chr
open Go.RowKit
theorem info4 : (Tryz.prog.info? 4).map (fun i => (i.zero, i.size, i.bytes)) = some (some (.bool false), 1, 1) := by kernel_rfl
theorem first_st (w : World) (L : List Int) : CSt w (((w.alloc (.cells ruleC 99)).alloc (.cells (List.replicate L.length (Value.bool false)).toArray 4)).alloc (.cells #[.int .i64 (-1), .int .i64 (-1), .int .i64 (-1), .int .i64 0, .bool false] 73)) L 0 0 := by
  refine ⟨below3 _ _ _ _, ((rul_new w).below (bel2 _ _ _)), ?_, ?_⟩
  · have e : (w.alloc (.cells ruleC 99)).heap.size = w.heap.size + 1 := by simp
    rw [stL_zero, ← e, Below.heap_alloc _ _ _ (by simp)]
    exact heap_alloc_last _ _
  · have e : ((w.alloc (.cells ruleC 99)).alloc (.cells (List.replicate L.length (Value.bool false)).toArray 4)).heap.size = w.heap.size + 2 := by simp
    rw [← e]
    exact heap_alloc_last _ _
end Chr
end Go.Proofs.YtbaedapnikhdgaaGreatDoor
