/-
  DERIVED. GIVEN WITH THE SEED: THE CARDS: each row of YtdooabbhjikecaaDoorRows.lean that lists a variable, with what it lists TIED to the program's text (the seventh form; the later family's looks); each row that meets fmt, with fmt's text TOLD by the authors' own Lean function (tested against real Go, not proved from fmt's source: count such statements apart). THE CARD IS WHAT COUNTS. Prove the row's statement (the work); the ties are given (YtdooabbhjikecaaDoorTie.lean); close each card by the builder's one call (the guide's Derived/Test/ToyasCard.lean, 'card_holds'). Laid BY PROGRAM, IN A SANDBOX (cutbox-door.mjs). By AI agents, Wed Nov 11 2026. No macro, syntax, notation, axiom, sorry.
-/
import Derived.Test.YtdooabbhjikecaaDoorRows
import GoSem.ClaimSeven
namespace Go.Proofs.YtdooabbhjikecaaDoor
namespace Rows

/-- THE TIED CARD OF 'laws.FnExactEncodeLabel'. -/
def fnExactEncodeLabelCard : Claim7 := { stood := { row := fnExactEncodeLabelRow, standIns := [], harness := (true, "fb5d8744ded5ca115814dcead496ba8e32dccf147f2175586f57e6d8a0ec8d34"), looks := false }, kinds := [], alts := [], laidByText := true, laidKinds := [.data, .pinned], laidTests := true, laidLooks := .later }
def FnExactEncodeLabelCardSaid : Prop := Claim7.holds Tryd.pinned (.plain (OpenSpec.ofChange fnExactEncodeLabelSpec)) fnExactEncodeLabelCard

/-- THE SECOND FORM's CARD OF 'laws.FnExactEncodeLabel'. -/
def fnExactEncodeLabelUptoCard : Claim7 := { stood := { row := fnExactEncodeLabelUptoRow, standIns := [], harness := (true, "fb5d8744ded5ca115814dcead496ba8e32dccf147f2175586f57e6d8a0ec8d34"), looks := false }, kinds := [], alts := [], laidByText := true, laidKinds := [.data, .pinned], laidTests := true, laidLooks := .later }
def FnExactEncodeLabelUptoCardSaid : Prop := Claim7.holds Tryd.pinned (.plain (OpenSpec.upto fnExactEncodeLabelSpec)) fnExactEncodeLabelUptoCard
end Rows
end Go.Proofs.YtdooabbhjikecaaDoor
