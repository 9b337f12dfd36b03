/-
  NARROWER THAN 'FOR EVERY INPUT', by the rows' own cells (each row's printed sentence says how): FnLabels: ifaces, laid · FnExactDecodeLabel: ifaces, laid.
  DERIVED. THE GIVEN ROWS OF THIS SEAT. 2 by the template 'for every input the law returns true; each argument reads behind the call as it read before'; 0 by the template 'total and deterministic' (their statements: YthjjojkabbepdaaDoorTotals.lean).
  GIVEN WITH THE SEED: the statements are not yours to turn. If you find one false, say at which input.
  Laid BY PROGRAM, IN A SANDBOX (cutbox-rows.mjs): the forced cells as the released guide's own fill.sh prints them over the translation d3ca0a7df324b017… (all of the seat's roots in one cut). By AI agents, Wed Nov 11 2026. No macro, syntax, notation, axiom, sorry.
-/
import Derived.Test.YthjjojkabbepdaaDoorChecked
import GoSem.PinnedTables
import GoSem.Claim
import GoSem.ClaimJoined
import GoSem.ClaimMapViews
import Derived.JoinedTies
import Derived.KernelRfl
namespace Go.Proofs.YthjjojkabbepdaaDoor
/- THE CELL 'sum', in the pinned program and in every row, IS THE sha256 OF THE DUMP (.gsa) THAT YthjjojkabbepdaaDoorProg.lean LOADS. Nothing in Lean hashes anything: it is a label: what it is worth is what the hold of that sum in a sandbox is worth. -/
noncomputable def Tryd.pinned : Pinned := { name := "ythjjojkabbepdaadoor", sum := "d3ca0a7df324b017693f2e7b9d991b18971340571086daeaef5206fef28f19ae", checked := Tryd.checked }
namespace Rows
def none {H : Type} : Left H := { results := [], args := [] }

/- WHAT THE LISTED PACKAGE-LEVEL VARIABLES READ AS WHEN THE CALL BEGINS. Each datum BY PROGRAM (the guide's laid-datum.mjs) off the statement by which the dump's own 'gosem.cut.vars' lays the variable. In a bare row this is a premise. The card (YthjjojkabbepdaaDoorCards.lean) ties it to the program's text. -/
def laid_unicode_utf8_acceptRanges {H : Type} : DataW H := .agg [.agg [.lit (.int .u8 128), .lit (.int .u8 191)], .agg [.lit (.int .u8 160), .lit (.int .u8 191)], .agg [.lit (.int .u8 128), .lit (.int .u8 159)], .agg [.lit (.int .u8 144), .lit (.int .u8 191)], .agg [.lit (.int .u8 128), .lit (.int .u8 143)], .agg [.lit (.int .u8 0), .lit (.int .u8 0)], .agg [.lit (.int .u8 0), .lit (.int .u8 0)], .agg [.lit (.int .u8 0), .lit (.int .u8 0)], .agg [.lit (.int .u8 0), .lit (.int .u8 0)], .agg [.lit (.int .u8 0), .lit (.int .u8 0)], .agg [.lit (.int .u8 0), .lit (.int .u8 0)], .agg [.lit (.int .u8 0), .lit (.int .u8 0)], .agg [.lit (.int .u8 0), .lit (.int .u8 0)], .agg [.lit (.int .u8 0), .lit (.int .u8 0)], .agg [.lit (.int .u8 0), .lit (.int .u8 0)], .agg [.lit (.int .u8 0), .lit (.int .u8 0)]]
def laid_errors_errorType {H : Type} : DataW H := .iface "internal/reflectlite.rtype" (.agg [.ptr (.lit (.string [101, 114, 114, 111, 114]))])
def laid_loop_example_g00044_impl_errTooLong {H : Type} : DataW H := .iface "*errors.errorString" (.ptr (.agg [.lit (.string [110, 97, 109, 101, 115, 58, 32, 105, 116, 32, 105, 115, 32, 116, 111, 111, 32, 108, 111, 110, 103, 32, 116, 111, 32, 98, 101, 32, 108, 111, 111, 107, 101, 100, 32, 97, 116])]))
def laid_loop_example_g00044_impl_errNoText {H : Type} : DataW H := .iface "*errors.errorString" (.ptr (.agg [.lit (.string [110, 97, 109, 101, 115, 58, 32, 110, 111, 32, 116, 101, 120, 116, 32, 105, 115, 32, 119, 114, 105, 116, 116, 101, 110, 32, 115, 111])]))
def laid_loop_example_g00044_impl_errNoRoom {H : Type} : DataW H := .iface "*errors.errorString" (.ptr (.agg [.lit (.string [110, 97, 109, 101, 115, 58, 32, 105, 116, 32, 104, 97, 115, 32, 110, 111, 32, 98, 121, 116, 101, 44, 32, 111, 114, 32, 116, 111, 111, 32, 109, 97, 110, 121])]))
/-- One of Go's own tables, pinned by name: the form's constant. -/
def laid_unicode_utf8_first : DataW Unit := Go.Pinned.utf8First

/-- 'laws.FnLabels': WHATEVER THE INPUT: true; the input reads as it did. -/
def fnLabelsSpec : ChangeSpec := { name := "fnLabels", vars := ["loop.example/g00044/impl.errTooLong", "loop.example/g00044/impl.errNoText", "loop.example/g00044/impl.errNoRoom"], fn := fun _ => fun
  | [d, g1, g2, g3] => { results := [.lit (.bool true)], args := [d], vars := [g1, g2, g3] }
  | _ => none }
def fnLabelsRow : OpenClaim := { program := "ythjjojkabbepdaadoor", sum := "d3ca0a7df324b017693f2e7b9d991b18971340571086daeaef5206fef28f19ae", func := "loop.example/g00044/laws.FnLabels", spec := "fnLabels", inPlace := ["slices.overlaps[int64]", "internal/reflectlite.ValueOf", "(internal/reflectlite.Value).Type", "(internal/reflectlite.Value).IsNil", "internal/reflectlite.TypeOf", "(internal/reflectlite.Value).Elem", "(internal/reflectlite.Value).Set"], unfollowed := true, recurses := true, named := ["unicode/utf8.first", "unicode/utf8.acceptRanges", "loop.example/g00044/impl.errTooLong", "loop.example/g00044/impl.errNoText", "errors.errorType", "loop.example/g00044/impl.errNoRoom"], ifaces := true, apart := false, laid := [("unicode/utf8.acceptRanges", laid_unicode_utf8_acceptRanges), ("errors.errorType", laid_errors_errorType), ("loop.example/g00044/impl.errTooLong", laid_loop_example_g00044_impl_errTooLong), ("loop.example/g00044/impl.errNoText", laid_loop_example_g00044_impl_errNoText), ("loop.example/g00044/impl.errNoRoom", laid_loop_example_g00044_impl_errNoRoom), ("unicode/utf8.first", laid_unicode_utf8_first)] }
def FnLabelsSaid : Prop := fnLabelsRow.holds Tryd.pinned (OpenSpec.ofChange fnLabelsSpec)

/-- ITS FALSE NEIGHBOUR: 'it returns false'. Refute it at one input. -/
def fnLabelsWrong : ChangeSpec := { name := "fnLabels", vars := ["loop.example/g00044/impl.errTooLong", "loop.example/g00044/impl.errNoText", "loop.example/g00044/impl.errNoRoom"], fn := fun _ => fun
  | [d, g1, g2, g3] => { results := [.lit (.bool false)], args := [d], vars := [g1, g2, g3] }
  | _ => none }
def FnLabelsWrongFalsely : Prop := fnLabelsRow.holds Tryd.pinned (OpenSpec.ofChange fnLabelsWrong)

/-- 'laws.FnExactDecodeLabel': WHATEVER THE INPUT: true; the input reads as it did. -/
def fnExactDecodeLabelSpec : ChangeSpec := { name := "fnExactDecodeLabel", vars := ["loop.example/g00044/impl.errTooLong", "loop.example/g00044/impl.errNoText", "loop.example/g00044/impl.errNoRoom"], fn := fun _ => fun
  | [d, g1, g2, g3] => { results := [.lit (.bool true)], args := [d], vars := [g1, g2, g3] }
  | _ => none }
def fnExactDecodeLabelRow : OpenClaim := { program := "ythjjojkabbepdaadoor", sum := "d3ca0a7df324b017693f2e7b9d991b18971340571086daeaef5206fef28f19ae", func := "loop.example/g00044/laws.FnExactDecodeLabel", spec := "fnExactDecodeLabel", inPlace := ["slices.overlaps[int64]", "internal/reflectlite.ValueOf", "(internal/reflectlite.Value).Type", "(internal/reflectlite.Value).IsNil", "internal/reflectlite.TypeOf", "(internal/reflectlite.Value).Elem", "(internal/reflectlite.Value).Set"], unfollowed := true, recurses := true, named := ["loop.example/g00044/impl.errTooLong", "loop.example/g00044/impl.errNoText", "errors.errorType", "loop.example/g00044/impl.errNoRoom"], ifaces := true, apart := false, laid := [("errors.errorType", laid_errors_errorType), ("loop.example/g00044/impl.errTooLong", laid_loop_example_g00044_impl_errTooLong), ("loop.example/g00044/impl.errNoText", laid_loop_example_g00044_impl_errNoText), ("loop.example/g00044/impl.errNoRoom", laid_loop_example_g00044_impl_errNoRoom)] }
def FnExactDecodeLabelSaid : Prop := fnExactDecodeLabelRow.holds Tryd.pinned (OpenSpec.ofChange fnExactDecodeLabelSpec)

/-- ITS FALSE NEIGHBOUR: 'it returns false'. Refute it at one input. -/
def fnExactDecodeLabelWrong : ChangeSpec := { name := "fnExactDecodeLabel", vars := ["loop.example/g00044/impl.errTooLong", "loop.example/g00044/impl.errNoText", "loop.example/g00044/impl.errNoRoom"], fn := fun _ => fun
  | [d, g1, g2, g3] => { results := [.lit (.bool false)], args := [d], vars := [g1, g2, g3] }
  | _ => none }
def FnExactDecodeLabelWrongFalsely : Prop := fnExactDecodeLabelRow.holds Tryd.pinned (OpenSpec.ofChange fnExactDecodeLabelWrong)

/- THE SECOND FORM. 'bulk': how many values and letters a reading holds, each counted each time it is reached (what is shared counts as often as it is met; a slice's spare places count too). A statement '..UptoSaid' is the law's where the arguments, and the package variables that the reading takes, are together of bulk at most 1048576: NARROWER than '..Said'. Prove '..Said' where nothing that the law and all that it calls make is longer than what came in: it says more and counts as full. Else prove '..UptoSaid'. A law counts once. -/
mutual
def uptoBulk {H : Type} : DataW H → Nat
  | .lit (.string bytes) => bytes.length + 1
  | .lit _ => 1
  | .nil => 1
  | .ptr d => uptoBulk d + 1
  | .slice elems spare => uptoBulkAll elems + uptoBulkAll spare + 1
  | .agg parts => uptoBulkAll parts + 1
  | .iface _ d => uptoBulk d + 1
  | .map entries => uptoBulkEntries entries + 1
  | .held _ => 1
def uptoBulkAll {H : Type} : List (DataW H) → Nat
  | [] => 0
  | d :: r => uptoBulk d + uptoBulkAll r
def uptoBulkEntries {H : Type} : List (Lit × DataW H) → Nat
  | [] => 0
  | x :: r => uptoBulkEntry x + uptoBulkEntries r
def uptoBulkEntry {H : Type} : Lit × DataW H → Nat
  | (.string bytes, d) => bytes.length + uptoBulk d + 1
  | (_, d) => uptoBulk d + 1
 end
def uptoSmall : (H : Type) → List (DataW H) → Bool := fun _ ds => decide (uptoBulkAll ds ≤ 1048576)
def OpenSpec.upto (s : _root_.Go.ChangeSpec) : _root_.Go.OpenSpec := { _root_.Go.OpenSpec.ofChange s with cond := some uptoSmall }

/-- 'laws.FnLabels', WHERE WHAT IT READS IS OF BULK AT MOST 1048576: true; the input reads as it did. -/
def fnLabelsUptoRow : OpenClaim := { program := "ythjjojkabbepdaadoor", sum := "d3ca0a7df324b017693f2e7b9d991b18971340571086daeaef5206fef28f19ae", func := "loop.example/g00044/laws.FnLabels", spec := "fnLabels", inPlace := ["slices.overlaps[int64]", "internal/reflectlite.ValueOf", "(internal/reflectlite.Value).Type", "(internal/reflectlite.Value).IsNil", "internal/reflectlite.TypeOf", "(internal/reflectlite.Value).Elem", "(internal/reflectlite.Value).Set"], unfollowed := true, recurses := true, named := ["unicode/utf8.first", "unicode/utf8.acceptRanges", "loop.example/g00044/impl.errTooLong", "loop.example/g00044/impl.errNoText", "errors.errorType", "loop.example/g00044/impl.errNoRoom"], ifaces := true, apart := false, laid := [("unicode/utf8.acceptRanges", laid_unicode_utf8_acceptRanges), ("errors.errorType", laid_errors_errorType), ("loop.example/g00044/impl.errTooLong", laid_loop_example_g00044_impl_errTooLong), ("loop.example/g00044/impl.errNoText", laid_loop_example_g00044_impl_errNoText), ("loop.example/g00044/impl.errNoRoom", laid_loop_example_g00044_impl_errNoRoom), ("unicode/utf8.first", laid_unicode_utf8_first)], narrowed := true }
def FnLabelsUptoSaid : Prop := fnLabelsUptoRow.holds Tryd.pinned (OpenSpec.upto fnLabelsSpec)

/-- 'laws.FnExactDecodeLabel', WHERE WHAT IT READS IS OF BULK AT MOST 1048576: true; the input reads as it did. -/
def fnExactDecodeLabelUptoRow : OpenClaim := { program := "ythjjojkabbepdaadoor", sum := "d3ca0a7df324b017693f2e7b9d991b18971340571086daeaef5206fef28f19ae", func := "loop.example/g00044/laws.FnExactDecodeLabel", spec := "fnExactDecodeLabel", inPlace := ["slices.overlaps[int64]", "internal/reflectlite.ValueOf", "(internal/reflectlite.Value).Type", "(internal/reflectlite.Value).IsNil", "internal/reflectlite.TypeOf", "(internal/reflectlite.Value).Elem", "(internal/reflectlite.Value).Set"], unfollowed := true, recurses := true, named := ["loop.example/g00044/impl.errTooLong", "loop.example/g00044/impl.errNoText", "errors.errorType", "loop.example/g00044/impl.errNoRoom"], ifaces := true, apart := false, laid := [("errors.errorType", laid_errors_errorType), ("loop.example/g00044/impl.errTooLong", laid_loop_example_g00044_impl_errTooLong), ("loop.example/g00044/impl.errNoText", laid_loop_example_g00044_impl_errNoText), ("loop.example/g00044/impl.errNoRoom", laid_loop_example_g00044_impl_errNoRoom)], narrowed := true }
def FnExactDecodeLabelUptoSaid : Prop := fnExactDecodeLabelUptoRow.holds Tryd.pinned (OpenSpec.upto fnExactDecodeLabelSpec)

end Rows
end Go.Proofs.YthjjojkabbepdaaDoor
