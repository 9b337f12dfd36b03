/-
  DERIVED. GIVEN WITH THE SEED: THE CARDS: each row of YtaipnmmlfbfcnaaDoorRows.lean that lists a variable, with what it lists TIED to the program's text (the seventh form; the later family's looks); each row that meets fmt, with fmt's text TOLD by the authors' own Lean function (tested against real Go, not proved from fmt's source: count such statements apart). THE CARD IS WHAT COUNTS. Prove the row's statement (the work); the ties are given (YtaipnmmlfbfcnaaDoorTie.lean); close each card by the builder's one call (the guide's Derived/Test/ToyasCard.lean, 'card_holds'). Laid BY PROGRAM, IN A SANDBOX (cutbox-door.mjs). By AI agents, Wed Nov 11 2026. No macro, syntax, notation, axiom, sorry.
-/
import Derived.Test.YtaipnmmlfbfcnaaDoorRows
import GoSem.ClaimSeven
namespace Go.Proofs.YtaipnmmlfbfcnaaDoor
namespace Rows

/-- THE TIED CARD OF 'laws.FnExactRopeFault'. -/
def fnExactRopeFaultCard : Claim7 := { stood := { row := fnExactRopeFaultRow, standIns := [], harness := (true, "7d37cb6ecde837820d76bb19916264f84735352fb624f3a4f245cf4aeb2029c0"), looks := false }, kinds := [], alts := [], laidByText := true, laidKinds := [.data, .pinned], laidTests := true, laidLooks := .later }
def FnExactRopeFaultCardSaid : Prop := Claim7.holds Tryd.pinned (.plain (OpenSpec.ofChange fnExactRopeFaultSpec)) fnExactRopeFaultCard

/-- THE TIED CARD OF 'laws.FnExactRopeText'. -/
def fnExactRopeTextCard : Claim7 := { stood := { row := fnExactRopeTextRow, standIns := [], harness := (true, "7d37cb6ecde837820d76bb19916264f84735352fb624f3a4f245cf4aeb2029c0"), looks := false }, kinds := [], alts := [], laidByText := true, laidKinds := [.data, .pinned], laidTests := true, laidLooks := .later }
def FnExactRopeTextCardSaid : Prop := Claim7.holds Tryd.pinned (.plain (OpenSpec.ofChange fnExactRopeTextSpec)) fnExactRopeTextCard

/-- THE TIED CARD OF 'laws.FnExactPiece'. -/
def fnExactPieceCard : Claim7 := { stood := { row := fnExactPieceRow, standIns := [], harness := (true, "7d37cb6ecde837820d76bb19916264f84735352fb624f3a4f245cf4aeb2029c0"), looks := false }, kinds := [], alts := [], laidByText := true, laidKinds := [.data, .pinned], laidTests := true, laidLooks := .later }
def FnExactPieceCardSaid : Prop := Claim7.holds Tryd.pinned (.plain (OpenSpec.ofChange fnExactPieceSpec)) fnExactPieceCard

/-- THE TIED CARD OF 'laws.FnExactLineAt'. -/
def fnExactLineAtCard : Claim7 := { stood := { row := fnExactLineAtRow, standIns := [], harness := (true, "7d37cb6ecde837820d76bb19916264f84735352fb624f3a4f245cf4aeb2029c0"), looks := false }, kinds := [], alts := [], laidByText := true, laidKinds := [.data, .pinned], laidTests := true, laidLooks := .later }
def FnExactLineAtCardSaid : Prop := Claim7.holds Tryd.pinned (.plain (OpenSpec.ofChange fnExactLineAtSpec)) fnExactLineAtCard

/-- THE TIED CARD OF 'laws.FnExactPlaceOfLine'. -/
def fnExactPlaceOfLineCard : Claim7 := { stood := { row := fnExactPlaceOfLineRow, standIns := [], harness := (true, "7d37cb6ecde837820d76bb19916264f84735352fb624f3a4f245cf4aeb2029c0"), looks := false }, kinds := [], alts := [], laidByText := true, laidKinds := [.data, .pinned], laidTests := true, laidLooks := .later }
def FnExactPlaceOfLineCardSaid : Prop := Claim7.holds Tryd.pinned (.plain (OpenSpec.ofChange fnExactPlaceOfLineSpec)) fnExactPlaceOfLineCard

/-- THE SECOND FORM's CARD OF 'laws.FnExactRopeFault'. -/
def fnExactRopeFaultUptoCard : Claim7 := { stood := { row := fnExactRopeFaultUptoRow, standIns := [], harness := (true, "7d37cb6ecde837820d76bb19916264f84735352fb624f3a4f245cf4aeb2029c0"), looks := false }, kinds := [], alts := [], laidByText := true, laidKinds := [.data, .pinned], laidTests := true, laidLooks := .later }
def FnExactRopeFaultUptoCardSaid : Prop := Claim7.holds Tryd.pinned (.plain (OpenSpec.upto fnExactRopeFaultSpec)) fnExactRopeFaultUptoCard

/-- THE SECOND FORM's CARD OF 'laws.FnExactRopeText'. -/
def fnExactRopeTextUptoCard : Claim7 := { stood := { row := fnExactRopeTextUptoRow, standIns := [], harness := (true, "7d37cb6ecde837820d76bb19916264f84735352fb624f3a4f245cf4aeb2029c0"), looks := false }, kinds := [], alts := [], laidByText := true, laidKinds := [.data, .pinned], laidTests := true, laidLooks := .later }
def FnExactRopeTextUptoCardSaid : Prop := Claim7.holds Tryd.pinned (.plain (OpenSpec.upto fnExactRopeTextSpec)) fnExactRopeTextUptoCard

/-- THE SECOND FORM's CARD OF 'laws.FnExactPiece'. -/
def fnExactPieceUptoCard : Claim7 := { stood := { row := fnExactPieceUptoRow, standIns := [], harness := (true, "7d37cb6ecde837820d76bb19916264f84735352fb624f3a4f245cf4aeb2029c0"), looks := false }, kinds := [], alts := [], laidByText := true, laidKinds := [.data, .pinned], laidTests := true, laidLooks := .later }
def FnExactPieceUptoCardSaid : Prop := Claim7.holds Tryd.pinned (.plain (OpenSpec.upto fnExactPieceSpec)) fnExactPieceUptoCard

/-- THE SECOND FORM's CARD OF 'laws.FnExactLineAt'. -/
def fnExactLineAtUptoCard : Claim7 := { stood := { row := fnExactLineAtUptoRow, standIns := [], harness := (true, "7d37cb6ecde837820d76bb19916264f84735352fb624f3a4f245cf4aeb2029c0"), looks := false }, kinds := [], alts := [], laidByText := true, laidKinds := [.data, .pinned], laidTests := true, laidLooks := .later }
def FnExactLineAtUptoCardSaid : Prop := Claim7.holds Tryd.pinned (.plain (OpenSpec.upto fnExactLineAtSpec)) fnExactLineAtUptoCard

/-- THE SECOND FORM's CARD OF 'laws.FnExactPlaceOfLine'. -/
def fnExactPlaceOfLineUptoCard : Claim7 := { stood := { row := fnExactPlaceOfLineUptoRow, standIns := [], harness := (true, "7d37cb6ecde837820d76bb19916264f84735352fb624f3a4f245cf4aeb2029c0"), looks := false }, kinds := [], alts := [], laidByText := true, laidKinds := [.data, .pinned], laidTests := true, laidLooks := .later }
def FnExactPlaceOfLineUptoCardSaid : Prop := Claim7.holds Tryd.pinned (.plain (OpenSpec.upto fnExactPlaceOfLineSpec)) fnExactPlaceOfLineUptoCard
end Rows
end Go.Proofs.YtaipnmmlfbfcnaaDoor
