/-
  DERIVED. GIVEN WITH THE SEED: THE CARDS: each row of YtefbfffngmhjfaaDoorRows.lean that lists a variable, with what it lists TIED to the program's text (the seventh form; the later family's looks); each row that meets fmt, with fmt's text TOLD by the authors' own Lean function (tested against real Go, not proved from fmt's source: count such statements apart). THE CARD IS WHAT COUNTS. Prove the row's statement (the work); the ties are given (YtefbfffngmhjfaaDoorTie.lean); close each card by the builder's one call (the guide's Derived/Test/ToyasCard.lean, 'card_holds'). Laid BY PROGRAM, IN A SANDBOX (cutbox-door.mjs). By AI agents, Wed Nov 11 2026. No macro, syntax, notation, axiom, sorry.
-/
import Derived.Test.YtefbfffngmhjfaaDoorRows
import GoSem.ClaimSeven
namespace Go.Proofs.YtefbfffngmhjfaaDoor
namespace Rows

/-- THE TIED CARD OF 'laws.FnExactReadPasses'. -/
def fnExactReadPassesCard : Claim7 := { stood := { row := fnExactReadPassesRow, standIns := [], harness := (true, "c8202dc2fa50333cc84358da5c086034a7717daaffc922d6fb42ce23842bd0bb"), looks := false }, kinds := [], alts := [], laidByText := true, laidKinds := [.data, .data, .pinned], laidTests := true, laidLooks := .later }
def FnExactReadPassesCardSaid : Prop := Claim7.holds Tryd.pinned (.plain (OpenSpec.ofChange fnExactReadPassesSpec)) fnExactReadPassesCard

/-- THE SECOND FORM's CARD OF 'laws.FnExactReadPasses'. -/
def fnExactReadPassesUptoCard : Claim7 := { stood := { row := fnExactReadPassesUptoRow, standIns := [], harness := (true, "c8202dc2fa50333cc84358da5c086034a7717daaffc922d6fb42ce23842bd0bb"), looks := false }, kinds := [], alts := [], laidByText := true, laidKinds := [.data, .data, .pinned], laidTests := true, laidLooks := .later }
def FnExactReadPassesUptoCardSaid : Prop := Claim7.holds Tryd.pinned (.plain (OpenSpec.upto fnExactReadPassesSpec)) fnExactReadPassesUptoCard
end Rows
end Go.Proofs.YtefbfffngmhjfaaDoor
