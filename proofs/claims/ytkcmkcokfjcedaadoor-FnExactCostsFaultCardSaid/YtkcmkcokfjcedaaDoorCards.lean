/-
  DERIVED. GIVEN WITH THE SEED: THE CARDS: each row of YtkcmkcokfjcedaaDoorRows.lean that lists a variable, with what it lists TIED to the program's text (the seventh form; the later family's looks); each row that meets fmt, with fmt's text TOLD by the authors' own Lean function (tested against real Go, not proved from fmt's source: count such statements apart). THE CARD IS WHAT COUNTS. Prove the row's statement (the work); the ties are given (YtkcmkcokfjcedaaDoorTie.lean); close each card by the builder's one call (the guide's Derived/Test/ToyasCard.lean, 'card_holds'). Laid BY PROGRAM, IN A SANDBOX (cutbox-door.mjs). By AI agents, Wed Nov 11 2026. No macro, syntax, notation, axiom, sorry.
-/
import Derived.Test.YtkcmkcokfjcedaaDoorRows
import GoSem.ClaimSeven
namespace Go.Proofs.YtkcmkcokfjcedaaDoor
namespace Rows

/-- THE TIED CARD OF 'laws.FnExactCostsFault'. -/
def fnExactCostsFaultCard : Claim7 := { stood := { row := fnExactCostsFaultRow, standIns := [], harness := (true, "53e71fb6296ba0ec93141e2b101fb17d4e5442c9a331485ee2152de1a5029cde"), looks := false }, kinds := [], alts := [], laidByText := true, laidKinds := [.data, .pinned], laidTests := true, laidLooks := .later }
def FnExactCostsFaultCardSaid : Prop := Claim7.holds Tryd.pinned (.plain (OpenSpec.ofChange fnExactCostsFaultSpec)) fnExactCostsFaultCard

/-- THE SECOND FORM's CARD OF 'laws.FnExactCostsFault'. -/
def fnExactCostsFaultUptoCard : Claim7 := { stood := { row := fnExactCostsFaultUptoRow, standIns := [], harness := (true, "53e71fb6296ba0ec93141e2b101fb17d4e5442c9a331485ee2152de1a5029cde"), looks := false }, kinds := [], alts := [], laidByText := true, laidKinds := [.data, .pinned], laidTests := true, laidLooks := .later }
def FnExactCostsFaultUptoCardSaid : Prop := Claim7.holds Tryd.pinned (.plain (OpenSpec.upto fnExactCostsFaultSpec)) fnExactCostsFaultUptoCard
end Rows
end Go.Proofs.YtkcmkcokfjcedaaDoor
