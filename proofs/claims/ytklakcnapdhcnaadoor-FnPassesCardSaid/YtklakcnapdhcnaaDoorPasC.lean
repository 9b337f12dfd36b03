/- Rules and passes that are alike. -/
import Derived.Test.YtklakcnapdhcnaaDoorPasB
namespace Go.Proofs.YtklakcnapdhcnaaDoor.Pas
open Go.RowKit
set_option linter.unusedVariables false
theorem drewB (w : World) : Below w.heap.size w w.drew := ⟨rfl, rfl, rfl, Nat.le_refl _, fun _ _ => rfl⟩
end Go.Proofs.YtklakcnapdhcnaaDoor.Pas
