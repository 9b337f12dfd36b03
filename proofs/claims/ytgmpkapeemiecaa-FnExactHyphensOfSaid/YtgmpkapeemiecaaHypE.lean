/- A row of digits held against nil. -/
import Derived.Test.YtgmpkapeemiecaaHypR
import Derived.Laws.Cover3
namespace Go.Proofs.Ytgmpkapeemiecaa
namespace Hyp
open Go.RowKit
theorem nil_yes (W : World) : (binOp .eql 53 (.slice none 0 0) (.slice none 0 0)).run Try.prog W = .ok (.bool true) W := by
  simp [binOp, go_sem, run_equal_slice_nil (P := Try.prog) W 53 5 _ _ _ Try.underlying53]
theorem nil_no (a : Addr) (n c : Nat) (W : World) : (binOp .eql 53 (.slice (some a) n c) (.slice none 0 0)).run Try.prog W = .ok (.bool false) W := by
  simp [binOp, go_sem, run_equal_slice_nil (P := Try.prog) W 53 5 _ _ _ Try.underlying53]
end Hyp
end Go.Proofs.Ytgmpkapeemiecaa
