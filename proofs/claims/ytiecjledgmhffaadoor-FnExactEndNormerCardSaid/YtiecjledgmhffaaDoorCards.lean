/-
  DERIVED. GIVEN WITH THE SEED: THE CARDS: each row of YtiecjledgmhffaaDoorRows.lean that lists a variable, with what it lists TIED to the program's text (the seventh form; the later family's looks); each row that meets fmt, with fmt's text TOLD by the authors' own Lean function (tested against real Go, not proved from fmt's source: count such statements apart). THE CARD IS WHAT COUNTS. Prove the row's statement (the work); the ties are given (YtiecjledgmhffaaDoorTie.lean); close each card by the builder's one call (the guide's Derived/Test/ToyasCard.lean, 'card_holds'). Laid BY PROGRAM, IN A SANDBOX (cutbox-door.mjs). By AI agents, Wed Nov 11 2026. No macro, syntax, notation, axiom, sorry.
-/
import Derived.Test.YtiecjledgmhffaaDoorRows
import GoSem.ClaimSeven
namespace Go.Proofs.YtiecjledgmhffaaDoor
namespace Rows

/-- THE TIED CARD OF 'laws.FnExactQuickCheck'. -/
def fnExactQuickCheckCard : Claim7 := { stood := { row := fnExactQuickCheckRow, standIns := [], harness := (true, "a2841d4446dd0badcccc5e5fbfde9bc2ce42610f878c911efaa4c1f51ae5c095"), looks := false }, kinds := [], alts := [], laidByText := true, laidKinds := [.data, .pinned], laidTests := true, laidLooks := .later }
def FnExactQuickCheckCardSaid : Prop := Claim7.holds Tryd.pinned (.plain (OpenSpec.ofChange fnExactQuickCheckSpec)) fnExactQuickCheckCard

/-- THE TIED CARD OF 'laws.FnExactNormerFault'. -/
def fnExactNormerFaultCard : Claim7 := { stood := { row := fnExactNormerFaultRow, standIns := [], harness := (true, "a2841d4446dd0badcccc5e5fbfde9bc2ce42610f878c911efaa4c1f51ae5c095"), looks := false }, kinds := [], alts := [], laidByText := true, laidKinds := [.data, .pinned], laidTests := true, laidLooks := .later }
def FnExactNormerFaultCardSaid : Prop := Claim7.holds Tryd.pinned (.plain (OpenSpec.ofChange fnExactNormerFaultSpec)) fnExactNormerFaultCard

/-- THE TIED CARD OF 'laws.FnExactFeedNormer'. -/
def fnExactFeedNormerCard : Claim7 := { stood := { row := fnExactFeedNormerRow, standIns := [], harness := (true, "a2841d4446dd0badcccc5e5fbfde9bc2ce42610f878c911efaa4c1f51ae5c095"), looks := false }, kinds := [], alts := [], laidByText := true, laidKinds := [.data, .pinned], laidTests := true, laidLooks := .later }
def FnExactFeedNormerCardSaid : Prop := Claim7.holds Tryd.pinned (.plain (OpenSpec.ofChange fnExactFeedNormerSpec)) fnExactFeedNormerCard

/-- THE TIED CARD OF 'laws.FnExactEndNormer'. -/
def fnExactEndNormerCard : Claim7 := { stood := { row := fnExactEndNormerRow, standIns := [], harness := (true, "a2841d4446dd0badcccc5e5fbfde9bc2ce42610f878c911efaa4c1f51ae5c095"), looks := false }, kinds := [], alts := [], laidByText := true, laidKinds := [.data, .pinned], laidTests := true, laidLooks := .later }
def FnExactEndNormerCardSaid : Prop := Claim7.holds Tryd.pinned (.plain (OpenSpec.ofChange fnExactEndNormerSpec)) fnExactEndNormerCard

/-- THE SECOND FORM's CARD OF 'laws.FnExactQuickCheck'. -/
def fnExactQuickCheckUptoCard : Claim7 := { stood := { row := fnExactQuickCheckUptoRow, standIns := [], harness := (true, "a2841d4446dd0badcccc5e5fbfde9bc2ce42610f878c911efaa4c1f51ae5c095"), looks := false }, kinds := [], alts := [], laidByText := true, laidKinds := [.data, .pinned], laidTests := true, laidLooks := .later }
def FnExactQuickCheckUptoCardSaid : Prop := Claim7.holds Tryd.pinned (.plain (OpenSpec.upto fnExactQuickCheckSpec)) fnExactQuickCheckUptoCard

/-- THE SECOND FORM's CARD OF 'laws.FnExactNormerFault'. -/
def fnExactNormerFaultUptoCard : Claim7 := { stood := { row := fnExactNormerFaultUptoRow, standIns := [], harness := (true, "a2841d4446dd0badcccc5e5fbfde9bc2ce42610f878c911efaa4c1f51ae5c095"), looks := false }, kinds := [], alts := [], laidByText := true, laidKinds := [.data, .pinned], laidTests := true, laidLooks := .later }
def FnExactNormerFaultUptoCardSaid : Prop := Claim7.holds Tryd.pinned (.plain (OpenSpec.upto fnExactNormerFaultSpec)) fnExactNormerFaultUptoCard

/-- THE SECOND FORM's CARD OF 'laws.FnExactFeedNormer'. -/
def fnExactFeedNormerUptoCard : Claim7 := { stood := { row := fnExactFeedNormerUptoRow, standIns := [], harness := (true, "a2841d4446dd0badcccc5e5fbfde9bc2ce42610f878c911efaa4c1f51ae5c095"), looks := false }, kinds := [], alts := [], laidByText := true, laidKinds := [.data, .pinned], laidTests := true, laidLooks := .later }
def FnExactFeedNormerUptoCardSaid : Prop := Claim7.holds Tryd.pinned (.plain (OpenSpec.upto fnExactFeedNormerSpec)) fnExactFeedNormerUptoCard

/-- THE SECOND FORM's CARD OF 'laws.FnExactEndNormer'. -/
def fnExactEndNormerUptoCard : Claim7 := { stood := { row := fnExactEndNormerUptoRow, standIns := [], harness := (true, "a2841d4446dd0badcccc5e5fbfde9bc2ce42610f878c911efaa4c1f51ae5c095"), looks := false }, kinds := [], alts := [], laidByText := true, laidKinds := [.data, .pinned], laidTests := true, laidLooks := .later }
def FnExactEndNormerUptoCardSaid : Prop := Claim7.holds Tryd.pinned (.plain (OpenSpec.upto fnExactEndNormerSpec)) fnExactEndNormerUptoCard
end Rows
end Go.Proofs.YtiecjledgmhffaaDoor
