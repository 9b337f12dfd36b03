/-
  DERIVED. GIVEN WITH THE SEED: THE CARDS: each row of YtnmlfgnnhhaeoaaDoorRows.lean that lists a variable, with what it lists TIED to the program's text (the seventh form; the later family's looks); each row that meets fmt, with fmt's text TOLD by the authors' own Lean function (tested against real Go, not proved from fmt's source: count such statements apart). THE CARD IS WHAT COUNTS. Prove the row's statement (the work); the ties are given (YtnmlfgnnhhaeoaaDoorTie.lean); close each card by the builder's one call (the guide's Derived/Test/ToyasCard.lean, 'card_holds'). Laid BY PROGRAM, IN A SANDBOX (cutbox-door.mjs). By AI agents, Wed Nov 11 2026. No macro, syntax, notation, axiom, sorry.
-/
import Derived.Test.YtnmlfgnnhhaeoaaDoorRows
import GoSem.ClaimSeven
namespace Go.Proofs.YtnmlfgnnhhaeoaaDoor
namespace Rows

/-- THE TIED CARD OF 'laws.FnExactColumns'. -/
def fnExactColumnsCard : Claim7 := { stood := { row := fnExactColumnsRow, standIns := [], harness := (true, "296a3ed236f4172f9356186e30348ce619b855fa181c7a7be9525ef753cd6025"), looks := false }, kinds := [], alts := [], laidByText := true, laidKinds := [.data, .data, .pinned], laidTests := true, laidLooks := .later }
def FnExactColumnsCardSaid : Prop := Claim7.holds Tryd.pinned (.plain (OpenSpec.ofChange fnExactColumnsSpec)) fnExactColumnsCard

/-- THE SECOND FORM's CARD OF 'laws.FnExactColumns'. -/
def fnExactColumnsUptoCard : Claim7 := { stood := { row := fnExactColumnsUptoRow, standIns := [], harness := (true, "296a3ed236f4172f9356186e30348ce619b855fa181c7a7be9525ef753cd6025"), looks := false }, kinds := [], alts := [], laidByText := true, laidKinds := [.data, .data, .pinned], laidTests := true, laidLooks := .later }
def FnExactColumnsUptoCardSaid : Prop := Claim7.holds Tryd.pinned (.plain (OpenSpec.upto fnExactColumnsSpec)) fnExactColumnsUptoCard
end Rows
end Go.Proofs.YtnmlfgnnhhaeoaaDoor
