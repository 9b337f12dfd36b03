/-
  DERIVED. GIVEN WITH THE SEED: THE CARDS: each row of YtfjnjednliacdaaDoorRows.lean that lists a variable, with what it lists TIED to the program's text (the seventh form; the later family's looks); each row that meets fmt, with fmt's text TOLD by the authors' own Lean function (tested against real Go, not proved from fmt's source: count such statements apart). THE CARD IS WHAT COUNTS. Prove the row's statement (the work); the ties are given (YtfjnjednliacdaaDoorTie.lean); close each card by the builder's one call (the guide's Derived/Test/ToyasCard.lean, 'card_holds'). Laid BY PROGRAM, IN A SANDBOX (cutbox-door.mjs). By AI agents, Wed Nov 11 2026. No macro, syntax, notation, axiom, sorry.
-/
import Derived.Test.YtfjnjednliacdaaDoorRows
import GoSem.ClaimSeven
namespace Go.Proofs.YtfjnjednliacdaaDoor
namespace Rows

/-- THE TIED CARD OF 'laws.FnExactShowPasses'. -/
def fnExactShowPassesCard : Claim7 := { stood := { row := fnExactShowPassesRow, standIns := [], harness := (true, "08c3931195abd0ecf8f9b2428678a5f90f3248c86ae37393e68e22f639705c66"), looks := false }, kinds := [], alts := [], laidByText := true, laidKinds := [.data, .data, .pinned], laidTests := true, laidLooks := .later }
def FnExactShowPassesCardSaid : Prop := Claim7.holds Tryd.pinned (.plain (OpenSpec.ofChange fnExactShowPassesSpec)) fnExactShowPassesCard

/-- THE SECOND FORM's CARD OF 'laws.FnExactShowPasses'. -/
def fnExactShowPassesUptoCard : Claim7 := { stood := { row := fnExactShowPassesUptoRow, standIns := [], harness := (true, "08c3931195abd0ecf8f9b2428678a5f90f3248c86ae37393e68e22f639705c66"), looks := false }, kinds := [], alts := [], laidByText := true, laidKinds := [.data, .data, .pinned], laidTests := true, laidLooks := .later }
def FnExactShowPassesUptoCardSaid : Prop := Claim7.holds Tryd.pinned (.plain (OpenSpec.upto fnExactShowPassesSpec)) fnExactShowPassesUptoCard
end Rows
end Go.Proofs.YtfjnjednliacdaaDoor
