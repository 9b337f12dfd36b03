/-
  DERIVED. GIVEN WITH THE SEED: THE CARDS: each row of YtfldomifooihlaaGreatDoorRows.lean that lists a variable, with what it lists TIED to the program's text (the seventh form; the later family's looks); each row that meets fmt, with fmt's text TOLD by the authors' own Lean function (tested against real Go, not proved from fmt's source: count such statements apart). THE CARD IS WHAT COUNTS. Prove the row's statement (the work); the ties are given (YtfldomifooihlaaGreatDoorTie.lean); close each card by the builder's one call (the guide's Derived/Test/ToyasCard.lean, 'card_holds'). Laid BY PROGRAM, IN A SANDBOX (cutbox-door.mjs). By AI agents, Wed Nov 11 2026. No macro, syntax, notation, axiom, sorry.
-/
import Derived.Test.YtfldomifooihlaaGreatDoorRows
import GoSem.ClaimSeven
namespace Go.Proofs.YtfldomifooihlaaGreatDoor
namespace Rows

/-- THE TIED CARD OF 'laws.FnExactShape'. -/
def fnExactShapeCard : Claim7 := { stood := { row := fnExactShapeRow, standIns := [], harness := (true, "33ef6ccaa526eb0e1c149290a12399f8320b90dcff9a2b246c56d0a58b2e25f6"), looks := true }, kinds := [], alts := [], laidByText := true, laidKinds := [.data], laidTests := true, laidLooks := .later }
def FnExactShapeCardSaid : Prop := Claim7.holds Tryz.pinned (.plain (OpenSpec.ofChange fnExactShapeSpec)) fnExactShapeCard

/-- THE SECOND FORM's CARD OF 'laws.FnExactShape'. -/
def fnExactShapeUptoCard : Claim7 := { stood := { row := fnExactShapeUptoRow, standIns := [], harness := (true, "33ef6ccaa526eb0e1c149290a12399f8320b90dcff9a2b246c56d0a58b2e25f6"), looks := true }, kinds := [], alts := [], laidByText := true, laidKinds := [.data], laidTests := true, laidLooks := .later }
def FnExactShapeUptoCardSaid : Prop := Claim7.holds Tryz.pinned (.plain (OpenSpec.upto fnExactShapeSpec)) fnExactShapeUptoCard
end Rows
end Go.Proofs.YtfldomifooihlaaGreatDoor
