/-
  DERIVED. GIVEN WITH THE SEED: THE CARDS: each row of YtomgficdlfadaaaDoorRows.lean that lists a variable, with what it lists TIED to the program's text (the seventh form; the later family's looks); each row that meets fmt, with fmt's text TOLD by the authors' own Lean function (tested against real Go, not proved from fmt's source: count such statements apart). THE CARD IS WHAT COUNTS. Prove the row's statement (the work); the ties are given (YtomgficdlfadaaaDoorTie.lean); close each card by the builder's one call (the guide's Derived/Test/ToyasCard.lean, 'card_holds'). Laid BY PROGRAM, IN A SANDBOX (cutbox-door.mjs). By AI agents, Wed Nov 11 2026. No macro, syntax, notation, axiom, sorry.
-/
import Derived.Test.YtomgficdlfadaaaDoorRows
import GoSem.ClaimSeven
namespace Go.Proofs.YtomgficdlfadaaaDoor
namespace Rows

/-- THE TIED CARD OF 'laws.FnExactScriptsOf'. -/
def fnExactScriptsOfCard : Claim7 := { stood := { row := fnExactScriptsOfRow, standIns := [], harness := (true, "5bd7f0ddcb7c683292f361091d82919a81c32988b9a7baaa07728d622aa761a3"), looks := false }, kinds := [], alts := [], laidByText := true, laidKinds := [.data], laidTests := true, laidLooks := .later }
def FnExactScriptsOfCardSaid : Prop := Claim7.holds Tryd.pinned (.plain (OpenSpec.ofChange fnExactScriptsOfSpec)) fnExactScriptsOfCard

/-- THE TIED CARD OF 'laws.FnExactIsMixed'. -/
def fnExactIsMixedCard : Claim7 := { stood := { row := fnExactIsMixedRow, standIns := [], harness := (true, "5bd7f0ddcb7c683292f361091d82919a81c32988b9a7baaa07728d622aa761a3"), looks := false }, kinds := [], alts := [], laidByText := true, laidKinds := [.data], laidTests := true, laidLooks := .later }
def FnExactIsMixedCardSaid : Prop := Claim7.holds Tryd.pinned (.plain (OpenSpec.ofChange fnExactIsMixedSpec)) fnExactIsMixedCard

/-- THE SECOND FORM's CARD OF 'laws.FnExactScriptsOf'. -/
def fnExactScriptsOfUptoCard : Claim7 := { stood := { row := fnExactScriptsOfUptoRow, standIns := [], harness := (true, "5bd7f0ddcb7c683292f361091d82919a81c32988b9a7baaa07728d622aa761a3"), looks := false }, kinds := [], alts := [], laidByText := true, laidKinds := [.data], laidTests := true, laidLooks := .later }
def FnExactScriptsOfUptoCardSaid : Prop := Claim7.holds Tryd.pinned (.plain (OpenSpec.upto fnExactScriptsOfSpec)) fnExactScriptsOfUptoCard

/-- THE SECOND FORM's CARD OF 'laws.FnExactIsMixed'. -/
def fnExactIsMixedUptoCard : Claim7 := { stood := { row := fnExactIsMixedUptoRow, standIns := [], harness := (true, "5bd7f0ddcb7c683292f361091d82919a81c32988b9a7baaa07728d622aa761a3"), looks := false }, kinds := [], alts := [], laidByText := true, laidKinds := [.data], laidTests := true, laidLooks := .later }
def FnExactIsMixedUptoCardSaid : Prop := Claim7.holds Tryd.pinned (.plain (OpenSpec.upto fnExactIsMixedSpec)) fnExactIsMixedUptoCard
end Rows
end Go.Proofs.YtomgficdlfadaaaDoor
