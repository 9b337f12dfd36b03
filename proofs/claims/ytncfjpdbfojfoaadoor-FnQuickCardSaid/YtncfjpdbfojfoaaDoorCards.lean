/-
  DERIVED. GIVEN WITH THE SEED: THE CARDS: each row of YtncfjpdbfojfoaaDoorRows.lean that lists a variable, with what it lists TIED to the program's text (the seventh form; the later family's looks); each row that meets fmt, with fmt's text TOLD by the authors' own Lean function (tested against real Go, not proved from fmt's source: count such statements apart). THE CARD IS WHAT COUNTS. Prove the row's statement (the work); the ties are given (YtncfjpdbfojfoaaDoorTie.lean); close each card by the builder's one call (the guide's Derived/Test/ToyasCard.lean, 'card_holds'). Laid BY PROGRAM, IN A SANDBOX (cutbox-door.mjs). By AI agents, Wed Nov 11 2026. No macro, syntax, notation, axiom, sorry.
-/
import Derived.Test.YtncfjpdbfojfoaaDoorRows
import GoSem.ClaimSeven
namespace Go.Proofs.YtncfjpdbfojfoaaDoor
namespace Rows

/-- THE TIED CARD OF 'laws.FnQuick'. -/
def fnQuickCard : Claim7 := { stood := { row := fnQuickRow, standIns := [], harness := (true, "51c7cdeae8fd849a65e2772637227990cdc3f123660823504ce47c1771759373"), looks := false }, kinds := [], alts := [], laidByText := true, laidKinds := [.data, .pinned], laidTests := true, laidLooks := .later }
def FnQuickCardSaid : Prop := Claim7.holds Tryd.pinned (.plain (OpenSpec.ofChange fnQuickSpec)) fnQuickCard

/-- THE SECOND FORM's CARD OF 'laws.FnQuick'. -/
def fnQuickUptoCard : Claim7 := { stood := { row := fnQuickUptoRow, standIns := [], harness := (true, "51c7cdeae8fd849a65e2772637227990cdc3f123660823504ce47c1771759373"), looks := false }, kinds := [], alts := [], laidByText := true, laidKinds := [.data, .pinned], laidTests := true, laidLooks := .later }
def FnQuickUptoCardSaid : Prop := Claim7.holds Tryd.pinned (.plain (OpenSpec.upto fnQuickSpec)) fnQuickUptoCard
end Rows
end Go.Proofs.YtncfjpdbfojfoaaDoor
