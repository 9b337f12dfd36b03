/- Of each point whether a character starts with it, as the program tells it: the walk. -/
import Derived.Test.YtjcgchmncgihbaaDoorChrA
import Derived.Laws.MakeOwn
namespace Go.Proofs.YtjcgchmncgihbaaDoor
namespace Chr
open Go.RowKit
theorem info4 : (Tryd.prog.info? 4).map (fun i => (i.zero, i.size, i.bytes)) = some (some (.bool false), 1, 1) := by kernel_rfl
end Chr
end Go.Proofs.YtjcgchmncgihbaaDoor
