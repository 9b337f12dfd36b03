/-
  DERIVED. GIVEN WITH THE SEED: THE CARDS: each row of YtdlfilmmmaekmaaDoorRows.lean that lists a variable, with what it lists TIED to the program's text (the seventh form; the later family's looks); each row that meets fmt, with fmt's text TOLD by the authors' own Lean function (tested against real Go, not proved from fmt's source: count such statements apart). THE CARD IS WHAT COUNTS. Prove the row's statement (the work); the ties are given (YtdlfilmmmaekmaaDoorTie.lean); close each card by the builder's one call (the guide's Derived/Test/ToyasCard.lean, 'card_holds'). Laid BY PROGRAM, IN A SANDBOX (cutbox-door.mjs). By AI agents, Wed Nov 11 2026. No macro, syntax, notation, axiom, sorry.
-/
import Derived.Test.YtdlfilmmmaekmaaDoorRows
import GoSem.ClaimSeven
namespace Go.Proofs.YtdlfilmmmaekmaaDoor
namespace Rows

/-- THE TIED CARD OF 'laws.FnExactSpansOf'. -/
def fnExactSpansOfCard : Claim7 := { stood := { row := fnExactSpansOfRow, standIns := [], harness := (true, "06c1f6b8458757edcd4bca6c9ad2a52c7e6d018e22bbfbe2660efc63b22f83bd"), looks := false }, kinds := [], alts := [], laidByText := true, laidKinds := [.data], laidTests := true, laidLooks := .later }
def FnExactSpansOfCardSaid : Prop := Claim7.holds Tryd.pinned (.plain (OpenSpec.ofChange fnExactSpansOfSpec)) fnExactSpansOfCard

/-- THE SECOND FORM's CARD OF 'laws.FnExactSpansOf'. -/
def fnExactSpansOfUptoCard : Claim7 := { stood := { row := fnExactSpansOfUptoRow, standIns := [], harness := (true, "06c1f6b8458757edcd4bca6c9ad2a52c7e6d018e22bbfbe2660efc63b22f83bd"), looks := false }, kinds := [], alts := [], laidByText := true, laidKinds := [.data], laidTests := true, laidLooks := .later }
def FnExactSpansOfUptoCardSaid : Prop := Claim7.holds Tryd.pinned (.plain (OpenSpec.upto fnExactSpansOfSpec)) fnExactSpansOfUptoCard
end Rows
end Go.Proofs.YtdlfilmmmaekmaaDoor
