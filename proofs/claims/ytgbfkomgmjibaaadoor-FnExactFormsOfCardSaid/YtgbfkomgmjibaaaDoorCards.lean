/-
  DERIVED. GIVEN WITH THE SEED: THE CARDS: each row of YtgbfkomgmjibaaaDoorRows.lean that lists a variable, with what it lists TIED to the program's text (the seventh form; the later family's looks); each row that meets fmt, with fmt's text TOLD by the authors' own Lean function (tested against real Go, not proved from fmt's source: count such statements apart). THE CARD IS WHAT COUNTS. Prove the row's statement (the work); the ties are given (YtgbfkomgmjibaaaDoorTie.lean); close each card by the builder's one call (the guide's Derived/Test/ToyasCard.lean, 'card_holds'). Laid BY PROGRAM, IN A SANDBOX (cutbox-door.mjs). By AI agents, Wed Nov 11 2026. No macro, syntax, notation, axiom, sorry.
-/
import Derived.Test.YtgbfkomgmjibaaaDoorRows
import GoSem.ClaimSeven
namespace Go.Proofs.YtgbfkomgmjibaaaDoor
namespace Rows

/-- THE TIED CARD OF 'laws.FnExactJoinsTo'. -/
def fnExactJoinsToCard : Claim7 := { stood := { row := fnExactJoinsToRow, standIns := [], harness := (true, "ef5391efb0c63527503a2da5ac042c2f1ab77238cf1669f09383894e5bb968e4"), looks := false }, kinds := [], alts := [], laidByText := true, laidKinds := [.data], laidTests := true, laidLooks := .later }
def FnExactJoinsToCardSaid : Prop := Claim7.holds Tryd.pinned (.plain (OpenSpec.ofChange fnExactJoinsToSpec)) fnExactJoinsToCard

/-- THE TIED CARD OF 'laws.FnExactFormsOf'. -/
def fnExactFormsOfCard : Claim7 := { stood := { row := fnExactFormsOfRow, standIns := [], harness := (true, "ef5391efb0c63527503a2da5ac042c2f1ab77238cf1669f09383894e5bb968e4"), looks := false }, kinds := [], alts := [], laidByText := true, laidKinds := [.data], laidTests := true, laidLooks := .later }
def FnExactFormsOfCardSaid : Prop := Claim7.holds Tryd.pinned (.plain (OpenSpec.ofChange fnExactFormsOfSpec)) fnExactFormsOfCard

/-- THE SECOND FORM's CARD OF 'laws.FnExactJoinsTo'. -/
def fnExactJoinsToUptoCard : Claim7 := { stood := { row := fnExactJoinsToUptoRow, standIns := [], harness := (true, "ef5391efb0c63527503a2da5ac042c2f1ab77238cf1669f09383894e5bb968e4"), looks := false }, kinds := [], alts := [], laidByText := true, laidKinds := [.data], laidTests := true, laidLooks := .later }
def FnExactJoinsToUptoCardSaid : Prop := Claim7.holds Tryd.pinned (.plain (OpenSpec.upto fnExactJoinsToSpec)) fnExactJoinsToUptoCard

/-- THE SECOND FORM's CARD OF 'laws.FnExactFormsOf'. -/
def fnExactFormsOfUptoCard : Claim7 := { stood := { row := fnExactFormsOfUptoRow, standIns := [], harness := (true, "ef5391efb0c63527503a2da5ac042c2f1ab77238cf1669f09383894e5bb968e4"), looks := false }, kinds := [], alts := [], laidByText := true, laidKinds := [.data], laidTests := true, laidLooks := .later }
def FnExactFormsOfUptoCardSaid : Prop := Claim7.holds Tryd.pinned (.plain (OpenSpec.upto fnExactFormsOfSpec)) fnExactFormsOfUptoCard
end Rows
end Go.Proofs.YtgbfkomgmjibaaaDoor
