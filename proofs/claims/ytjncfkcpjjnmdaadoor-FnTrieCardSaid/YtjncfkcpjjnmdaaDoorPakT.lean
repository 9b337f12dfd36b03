/- The table of powers of ten, as the program's text lays it. -/
import Derived.Test.YtjncfkcpjjnmdaaDoorPakJ
import Derived.Lib.LaidU8
import Derived.WalkSmall
namespace Go.Proofs.YtjncfkcpjjnmdaaDoor
theorem pow_glob : Tryd.prog.globalNamed "internal/strconv.uint64pow10" = some 0 := by kernel_rfl
theorem pow_type : (Tryd.prog.globals[0]?).map (·.type) = some 101 := by kernel_rfl
theorem tab_of {W : World} (h : Lib.VarReads Tryd.prog W "internal/strconv.uint64pow10" (Lib.tabData .u64 Lib.pow10Tab)) : Lib.TabBelow Tryd.prog W.heap.size W "internal/strconv.uint64pow10" .u64 Lib.pow10Tab := by
  obtain ⟨g, t, cs, fuel, p, h1, h2, h3, h4⟩ := h
  obtain rfl := Option.some.inj (pow_glob.symm.trans h1)
  obtain rfl := Option.some.inj (pow_type.symm.trans h2)
  have hT : Lib.TabIs Tryd.prog W "internal/strconv.uint64pow10" .u64 Lib.pow10Tab := by
    unfold Lib.TabIs
    rw [h3, ← Lib.cells_of_tab Tryd.underlying101 Tryd.underlying68 (by kernel_rfl) (by kernel_rfl) h4]
  have hlt : 0 < W.heap.size := block_lt_of_cell (a := ⟨0, 0, none⟩) (hT.cell pow_glob 0 (by rw [Lib.pow10Tab_length]; omega))
  exact fun w' hb => var?_below hb pow_glob hlt hT
end Go.Proofs.YtjncfkcpjjnmdaaDoor
