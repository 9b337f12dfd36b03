/-
  DERIVED. GIVEN WITH THE SEED: THE CARDS: each row of YtaebmajaefpcfaaDoorRows.lean that lists a variable, with what it lists TIED to the program's text (the seventh form; the later family's looks); each row that meets fmt, with fmt's text TOLD by the authors' own Lean function (tested against real Go, not proved from fmt's source: count such statements apart). THE CARD IS WHAT COUNTS. Prove the row's statement (the work); the ties are given (YtaebmajaefpcfaaDoorTie.lean); close each card by the builder's one call (the guide's Derived/Test/ToyasCard.lean, 'card_holds'). Laid BY PROGRAM, IN A SANDBOX (cutbox-door.mjs). By AI agents, Wed Nov 11 2026. No macro, syntax, notation, axiom, sorry.
-/
import Derived.Test.YtaebmajaefpcfaaDoorRows
import GoSem.ClaimSeven
namespace Go.Proofs.YtaebmajaefpcfaaDoor
namespace Rows

/-- THE TIED CARD OF 'laws.FnExactPassesFault'. -/
def fnExactPassesFaultCard : Claim7 := { stood := { row := fnExactPassesFaultRow, standIns := [], harness := (true, "3f000468f0a8b391c8a0d629775b75761f90495870bcd9970c0bd937251aecb1"), looks := false }, kinds := [], alts := [], laidByText := true, laidKinds := [.data, .pinned], laidTests := true, laidLooks := .later }
def FnExactPassesFaultCardSaid : Prop := Claim7.holds Tryd.pinned (.plain (OpenSpec.ofChange fnExactPassesFaultSpec)) fnExactPassesFaultCard

/-- THE TIED CARD OF 'laws.FnExactTurnedPasses'. -/
def fnExactTurnedPassesCard : Claim7 := { stood := { row := fnExactTurnedPassesRow, standIns := [], harness := (true, "3f000468f0a8b391c8a0d629775b75761f90495870bcd9970c0bd937251aecb1"), looks := false }, kinds := [], alts := [], laidByText := true, laidKinds := [.data, .pinned], laidTests := true, laidLooks := .later }
def FnExactTurnedPassesCardSaid : Prop := Claim7.holds Tryd.pinned (.plain (OpenSpec.ofChange fnExactTurnedPassesSpec)) fnExactTurnedPassesCard

/-- THE SECOND FORM's CARD OF 'laws.FnExactPassesFault'. -/
def fnExactPassesFaultUptoCard : Claim7 := { stood := { row := fnExactPassesFaultUptoRow, standIns := [], harness := (true, "3f000468f0a8b391c8a0d629775b75761f90495870bcd9970c0bd937251aecb1"), looks := false }, kinds := [], alts := [], laidByText := true, laidKinds := [.data, .pinned], laidTests := true, laidLooks := .later }
def FnExactPassesFaultUptoCardSaid : Prop := Claim7.holds Tryd.pinned (.plain (OpenSpec.upto fnExactPassesFaultSpec)) fnExactPassesFaultUptoCard

/-- THE SECOND FORM's CARD OF 'laws.FnExactTurnedPasses'. -/
def fnExactTurnedPassesUptoCard : Claim7 := { stood := { row := fnExactTurnedPassesUptoRow, standIns := [], harness := (true, "3f000468f0a8b391c8a0d629775b75761f90495870bcd9970c0bd937251aecb1"), looks := false }, kinds := [], alts := [], laidByText := true, laidKinds := [.data, .pinned], laidTests := true, laidLooks := .later }
def FnExactTurnedPassesUptoCardSaid : Prop := Claim7.holds Tryd.pinned (.plain (OpenSpec.upto fnExactTurnedPassesSpec)) fnExactTurnedPassesUptoCard
end Rows
end Go.Proofs.YtaebmajaefpcfaaDoor
