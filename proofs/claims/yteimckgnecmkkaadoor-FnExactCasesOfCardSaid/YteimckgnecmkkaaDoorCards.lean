/-
  DERIVED. GIVEN WITH THE SEED: THE CARDS: each row of YteimckgnecmkkaaDoorRows.lean that lists a variable, with what it lists TIED to the program's text (the seventh form; the later family's looks); each row that meets fmt, with fmt's text TOLD by the authors' own Lean function (tested against real Go, not proved from fmt's source: count such statements apart). THE CARD IS WHAT COUNTS. Prove the row's statement (the work); the ties are given (YteimckgnecmkkaaDoorTie.lean); close each card by the builder's one call (the guide's Derived/Test/ToyasCard.lean, 'card_holds'). Laid BY PROGRAM, IN A SANDBOX (cutbox-door.mjs). By AI agents, Wed Nov 11 2026. No macro, syntax, notation, axiom, sorry.
-/
import Derived.Test.YteimckgnecmkkaaDoorRows
import GoSem.ClaimSeven
namespace Go.Proofs.YteimckgnecmkkaaDoor
namespace Rows

/-- THE TIED CARD OF 'laws.FnExactCasesOf'. -/
def fnExactCasesOfCard : Claim7 := { stood := { row := fnExactCasesOfRow, standIns := [], harness := (true, "aa3785fd52d95ca6cfe81e54dd0b76a4f545242a49726942e75520c838108f02"), looks := false }, kinds := [], alts := [], laidByText := true, laidKinds := [.data], laidTests := true, laidLooks := .later }
def FnExactCasesOfCardSaid : Prop := Claim7.holds Tryd.pinned (.plain (OpenSpec.ofChange fnExactCasesOfSpec)) fnExactCasesOfCard

/-- THE SECOND FORM's CARD OF 'laws.FnExactCasesOf'. -/
def fnExactCasesOfUptoCard : Claim7 := { stood := { row := fnExactCasesOfUptoRow, standIns := [], harness := (true, "aa3785fd52d95ca6cfe81e54dd0b76a4f545242a49726942e75520c838108f02"), looks := false }, kinds := [], alts := [], laidByText := true, laidKinds := [.data], laidTests := true, laidLooks := .later }
def FnExactCasesOfUptoCardSaid : Prop := Claim7.holds Tryd.pinned (.plain (OpenSpec.upto fnExactCasesOfSpec)) fnExactCasesOfUptoCard
end Rows
end Go.Proofs.YteimckgnecmkkaaDoor
