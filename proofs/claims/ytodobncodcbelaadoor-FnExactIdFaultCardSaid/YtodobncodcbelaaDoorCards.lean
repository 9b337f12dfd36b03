/-
  DERIVED. GIVEN WITH THE SEED: THE CARDS: each row of YtodobncodcbelaaDoorRows.lean that lists a variable, with what it lists TIED to the program's text (the seventh form; the later family's looks); each row that meets fmt, with fmt's text TOLD by the authors' own Lean function (tested against real Go, not proved from fmt's source: count such statements apart). THE CARD IS WHAT COUNTS. Prove the row's statement (the work); the ties are given (YtodobncodcbelaaDoorTie.lean); close each card by the builder's one call (the guide's Derived/Test/ToyasCard.lean, 'card_holds'). Laid BY PROGRAM, IN A SANDBOX (cutbox-door.mjs). By AI agents, Wed Nov 11 2026. No macro, syntax, notation, axiom, sorry.
-/
import Derived.Test.YtodobncodcbelaaDoorRows
import GoSem.ClaimSeven
namespace Go.Proofs.YtodobncodcbelaaDoor
namespace Rows

/-- THE TIED CARD OF 'laws.FnExactIdFault'. -/
def fnExactIdFaultCard : Claim7 := { stood := { row := fnExactIdFaultRow, standIns := [], harness := (true, "5e0c1294bede57682ee09917d854a1c065fd50d43c7b5ead79624d2570f50b12"), looks := false }, kinds := [], alts := [], laidByText := true, laidKinds := [.data], laidTests := true, laidLooks := .later }
def FnExactIdFaultCardSaid : Prop := Claim7.holds Tryd.pinned (.plain (OpenSpec.ofChange fnExactIdFaultSpec)) fnExactIdFaultCard

/-- THE TIED CARD OF 'laws.FnExactSkeletonOf'. -/
def fnExactSkeletonOfCard : Claim7 := { stood := { row := fnExactSkeletonOfRow, standIns := [], harness := (true, "5e0c1294bede57682ee09917d854a1c065fd50d43c7b5ead79624d2570f50b12"), looks := false }, kinds := [], alts := [], laidByText := true, laidKinds := [.data], laidTests := true, laidLooks := .later }
def FnExactSkeletonOfCardSaid : Prop := Claim7.holds Tryd.pinned (.plain (OpenSpec.ofChange fnExactSkeletonOfSpec)) fnExactSkeletonOfCard

/-- THE TIED CARD OF 'laws.FnExactLookAlike'. -/
def fnExactLookAlikeCard : Claim7 := { stood := { row := fnExactLookAlikeRow, standIns := [], harness := (true, "5e0c1294bede57682ee09917d854a1c065fd50d43c7b5ead79624d2570f50b12"), looks := false }, kinds := [], alts := [], laidByText := true, laidKinds := [.data], laidTests := true, laidLooks := .later }
def FnExactLookAlikeCardSaid : Prop := Claim7.holds Tryd.pinned (.plain (OpenSpec.ofChange fnExactLookAlikeSpec)) fnExactLookAlikeCard

/-- THE SECOND FORM's CARD OF 'laws.FnExactIdFault'. -/
def fnExactIdFaultUptoCard : Claim7 := { stood := { row := fnExactIdFaultUptoRow, standIns := [], harness := (true, "5e0c1294bede57682ee09917d854a1c065fd50d43c7b5ead79624d2570f50b12"), looks := false }, kinds := [], alts := [], laidByText := true, laidKinds := [.data], laidTests := true, laidLooks := .later }
def FnExactIdFaultUptoCardSaid : Prop := Claim7.holds Tryd.pinned (.plain (OpenSpec.upto fnExactIdFaultSpec)) fnExactIdFaultUptoCard

/-- THE SECOND FORM's CARD OF 'laws.FnExactSkeletonOf'. -/
def fnExactSkeletonOfUptoCard : Claim7 := { stood := { row := fnExactSkeletonOfUptoRow, standIns := [], harness := (true, "5e0c1294bede57682ee09917d854a1c065fd50d43c7b5ead79624d2570f50b12"), looks := false }, kinds := [], alts := [], laidByText := true, laidKinds := [.data], laidTests := true, laidLooks := .later }
def FnExactSkeletonOfUptoCardSaid : Prop := Claim7.holds Tryd.pinned (.plain (OpenSpec.upto fnExactSkeletonOfSpec)) fnExactSkeletonOfUptoCard

/-- THE SECOND FORM's CARD OF 'laws.FnExactLookAlike'. -/
def fnExactLookAlikeUptoCard : Claim7 := { stood := { row := fnExactLookAlikeUptoRow, standIns := [], harness := (true, "5e0c1294bede57682ee09917d854a1c065fd50d43c7b5ead79624d2570f50b12"), looks := false }, kinds := [], alts := [], laidByText := true, laidKinds := [.data], laidTests := true, laidLooks := .later }
def FnExactLookAlikeUptoCardSaid : Prop := Claim7.holds Tryd.pinned (.plain (OpenSpec.upto fnExactLookAlikeSpec)) fnExactLookAlikeUptoCard
end Rows
end Go.Proofs.YtodobncodcbelaaDoor
