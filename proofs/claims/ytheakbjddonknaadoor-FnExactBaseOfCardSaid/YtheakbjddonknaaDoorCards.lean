/-
  DERIVED. GIVEN WITH THE SEED: THE CARDS: each row of YtheakbjddonknaaDoorRows.lean that lists a variable, with what it lists TIED to the program's text (the seventh form; the later family's looks); each row that meets fmt, with fmt's text TOLD by the authors' own Lean function (tested against real Go, not proved from fmt's source: count such statements apart). THE CARD IS WHAT COUNTS. Prove the row's statement (the work); the ties are given (YtheakbjddonknaaDoorTie.lean); close each card by the builder's one call (the guide's Derived/Test/ToyasCard.lean, 'card_holds'). Laid BY PROGRAM, IN A SANDBOX (cutbox-door.mjs). By AI agents, Wed Nov 11 2026. No macro, syntax, notation, axiom, sorry.
-/
import Derived.Test.YtheakbjddonknaaDoorRows
import GoSem.ClaimSeven
namespace Go.Proofs.YtheakbjddonknaaDoor
namespace Rows

/-- THE TIED CARD OF 'laws.FnExactBaseOf'. -/
def fnExactBaseOfCard : Claim7 := { stood := { row := fnExactBaseOfRow, standIns := [], harness := (true, "361598b14150e9a25fd816f05575b92596a82335e9f840adb9f63a2659f5f5b5"), looks := false }, kinds := [], alts := [], laidByText := true, laidKinds := [.data], laidTests := true, laidLooks := .later }
def FnExactBaseOfCardSaid : Prop := Claim7.holds Tryd.pinned (.plain (OpenSpec.ofChange fnExactBaseOfSpec)) fnExactBaseOfCard

/-- THE SECOND FORM's CARD OF 'laws.FnExactBaseOf'. -/
def fnExactBaseOfUptoCard : Claim7 := { stood := { row := fnExactBaseOfUptoRow, standIns := [], harness := (true, "361598b14150e9a25fd816f05575b92596a82335e9f840adb9f63a2659f5f5b5"), looks := false }, kinds := [], alts := [], laidByText := true, laidKinds := [.data], laidTests := true, laidLooks := .later }
def FnExactBaseOfUptoCardSaid : Prop := Claim7.holds Tryd.pinned (.plain (OpenSpec.upto fnExactBaseOfSpec)) fnExactBaseOfUptoCard
end Rows
end Go.Proofs.YtheakbjddonknaaDoor
