/-
  No cell of these rows narrows 'for every input' (looked for: loops, veiled, ifaces, maps, wideKeys, modest, calm, conditions, laid).
  DERIVED. THE GIVEN ROWS OF THIS SEAT. 6 by the template 'for every input the law returns true; each argument reads behind the call as it read before'; 0 by the template 'total and deterministic' (their statements: YtiianallpmfcbaaTotals.lean).
  GIVEN WITH THE SEED: the statements are not yours to turn. If you find one false, say at which input.
  Laid BY PROGRAM, IN A SANDBOX (cutbox-rows.mjs): the forced cells as the released guide's own fill.sh prints them over the translation 26b404c01e5e9c84… (all of the seat's roots in one cut). By AI agents, Wed Nov 11 2026. No macro, syntax, notation, axiom, sorry.
-/
import Derived.Test.YtiianallpmfcbaaChecked
import GoSem.Claim
import GoSem.ClaimJoined
import GoSem.ClaimMapViews
import Derived.JoinedTies
import Derived.KernelRfl
namespace Go.Proofs.Ytiianallpmfcbaa
/- THE CELL 'sum', in the pinned program and in every row, IS THE sha256 OF THE DUMP (.gsa) THAT YtiianallpmfcbaaProg.lean LOADS. Nothing in Lean hashes anything: it is a label: what it is worth is what the hold of that sum in a sandbox is worth. -/
noncomputable def Try.pinned : Pinned := { name := "ytiianallpmfcbaa", sum := "26b404c01e5e9c8431185ead786690b0269f694830ab4eccaf87196672f4fcfc", checked := Try.checked }
namespace Rows
def none {H : Type} : Left H := { results := [], args := [] }

/-- 'laws.FnCodes': WHATEVER THE INPUT: true; the input reads as it did. -/
def fnCodesSpec : ChangeSpec := { name := "fnCodes", fn := fun _ => fun
  | [d] => { results := [.lit (.bool true)], args := [d] }
  | _ => none }
def fnCodesRow : OpenClaim := { program := "ytiianallpmfcbaa", sum := "26b404c01e5e9c8431185ead786690b0269f694830ab4eccaf87196672f4fcfc", func := "loop.example/g00044/laws.FnCodes", spec := "fnCodes", unfollowed := true, recurses := true, apart := false }
def FnCodesSaid : Prop := fnCodesRow.holds Try.pinned (OpenSpec.ofChange fnCodesSpec)

/-- ITS FALSE NEIGHBOUR: 'it returns false'. Refute it at one input. -/
def fnCodesWrong : ChangeSpec := { name := "fnCodes", fn := fun _ => fun
  | [d] => { results := [.lit (.bool false)], args := [d] }
  | _ => none }
def FnCodesWrongFalsely : Prop := fnCodesRow.holds Try.pinned (OpenSpec.ofChange fnCodesWrong)

/-- 'laws.FnExactEncode': WHATEVER THE INPUT: true; the input reads as it did. -/
def fnExactEncodeSpec : ChangeSpec := { name := "fnExactEncode", fn := fun _ => fun
  | [d1, d2] => { results := [.lit (.bool true)], args := [d1, d2] }
  | _ => none }
def fnExactEncodeRow : OpenClaim := { program := "ytiianallpmfcbaa", sum := "26b404c01e5e9c8431185ead786690b0269f694830ab4eccaf87196672f4fcfc", func := "loop.example/g00044/laws.FnExactEncode", spec := "fnExactEncode", unfollowed := true, recurses := true, apart := false }
def FnExactEncodeSaid : Prop := fnExactEncodeRow.holds Try.pinned (OpenSpec.ofChange fnExactEncodeSpec)

/-- ITS FALSE NEIGHBOUR: 'it returns false'. Refute it at one input. -/
def fnExactEncodeWrong : ChangeSpec := { name := "fnExactEncode", fn := fun _ => fun
  | [d1, d2] => { results := [.lit (.bool false)], args := [d1, d2] }
  | _ => none }
def FnExactEncodeWrongFalsely : Prop := fnExactEncodeRow.holds Try.pinned (OpenSpec.ofChange fnExactEncodeWrong)

/-- 'laws.FnExactDecode': WHATEVER THE INPUT: true; the input reads as it did. -/
def fnExactDecodeSpec : ChangeSpec := { name := "fnExactDecode", fn := fun _ => fun
  | [d1, d2] => { results := [.lit (.bool true)], args := [d1, d2] }
  | _ => none }
def fnExactDecodeRow : OpenClaim := { program := "ytiianallpmfcbaa", sum := "26b404c01e5e9c8431185ead786690b0269f694830ab4eccaf87196672f4fcfc", func := "loop.example/g00044/laws.FnExactDecode", spec := "fnExactDecode", unfollowed := true, recurses := true, apart := false }
def FnExactDecodeSaid : Prop := fnExactDecodeRow.holds Try.pinned (OpenSpec.ofChange fnExactDecodeSpec)

/-- ITS FALSE NEIGHBOUR: 'it returns false'. Refute it at one input. -/
def fnExactDecodeWrong : ChangeSpec := { name := "fnExactDecode", fn := fun _ => fun
  | [d1, d2] => { results := [.lit (.bool false)], args := [d1, d2] }
  | _ => none }
def FnExactDecodeWrongFalsely : Prop := fnExactDecodeRow.holds Try.pinned (OpenSpec.ofChange fnExactDecodeWrong)

/-- 'laws.FnExactDecoderFault': WHATEVER THE INPUT: true; the input reads as it did. -/
def fnExactDecoderFaultSpec : ChangeSpec := { name := "fnExactDecoderFault", fn := fun _ => fun
  | [d] => { results := [.lit (.bool true)], args := [d] }
  | _ => none }
def fnExactDecoderFaultRow : OpenClaim := { program := "ytiianallpmfcbaa", sum := "26b404c01e5e9c8431185ead786690b0269f694830ab4eccaf87196672f4fcfc", func := "loop.example/g00044/laws.FnExactDecoderFault", spec := "fnExactDecoderFault", unfollowed := true, recurses := true, apart := false }
def FnExactDecoderFaultSaid : Prop := fnExactDecoderFaultRow.holds Try.pinned (OpenSpec.ofChange fnExactDecoderFaultSpec)

/-- ITS FALSE NEIGHBOUR: 'it returns false'. Refute it at one input. -/
def fnExactDecoderFaultWrong : ChangeSpec := { name := "fnExactDecoderFault", fn := fun _ => fun
  | [d] => { results := [.lit (.bool false)], args := [d] }
  | _ => none }
def FnExactDecoderFaultWrongFalsely : Prop := fnExactDecoderFaultRow.holds Try.pinned (OpenSpec.ofChange fnExactDecoderFaultWrong)

/-- 'laws.FnExactFeedDecoder': WHATEVER THE INPUT: true; the input reads as it did. -/
def fnExactFeedDecoderSpec : ChangeSpec := { name := "fnExactFeedDecoder", fn := fun _ => fun
  | [d1, d2] => { results := [.lit (.bool true)], args := [d1, d2] }
  | _ => none }
def fnExactFeedDecoderRow : OpenClaim := { program := "ytiianallpmfcbaa", sum := "26b404c01e5e9c8431185ead786690b0269f694830ab4eccaf87196672f4fcfc", func := "loop.example/g00044/laws.FnExactFeedDecoder", spec := "fnExactFeedDecoder", unfollowed := true, recurses := true, apart := false }
def FnExactFeedDecoderSaid : Prop := fnExactFeedDecoderRow.holds Try.pinned (OpenSpec.ofChange fnExactFeedDecoderSpec)

/-- ITS FALSE NEIGHBOUR: 'it returns false'. Refute it at one input. -/
def fnExactFeedDecoderWrong : ChangeSpec := { name := "fnExactFeedDecoder", fn := fun _ => fun
  | [d1, d2] => { results := [.lit (.bool false)], args := [d1, d2] }
  | _ => none }
def FnExactFeedDecoderWrongFalsely : Prop := fnExactFeedDecoderRow.holds Try.pinned (OpenSpec.ofChange fnExactFeedDecoderWrong)

/-- 'laws.FnExactEndDecoder': WHATEVER THE INPUT: true; the input reads as it did. -/
def fnExactEndDecoderSpec : ChangeSpec := { name := "fnExactEndDecoder", fn := fun _ => fun
  | [d] => { results := [.lit (.bool true)], args := [d] }
  | _ => none }
def fnExactEndDecoderRow : OpenClaim := { program := "ytiianallpmfcbaa", sum := "26b404c01e5e9c8431185ead786690b0269f694830ab4eccaf87196672f4fcfc", func := "loop.example/g00044/laws.FnExactEndDecoder", spec := "fnExactEndDecoder", unfollowed := true, recurses := true, apart := false }
def FnExactEndDecoderSaid : Prop := fnExactEndDecoderRow.holds Try.pinned (OpenSpec.ofChange fnExactEndDecoderSpec)

/-- ITS FALSE NEIGHBOUR: 'it returns false'. Refute it at one input. -/
def fnExactEndDecoderWrong : ChangeSpec := { name := "fnExactEndDecoder", fn := fun _ => fun
  | [d] => { results := [.lit (.bool false)], args := [d] }
  | _ => none }
def FnExactEndDecoderWrongFalsely : Prop := fnExactEndDecoderRow.holds Try.pinned (OpenSpec.ofChange fnExactEndDecoderWrong)

/- THE SECOND FORM. 'bulk': how many values and letters a reading holds, each counted each time it is reached (what is shared counts as often as it is met; a slice's spare places count too). A statement '..UptoSaid' is the law's where the arguments, and the package variables that the reading takes, are together of bulk at most 1048576: NARROWER than '..Said'. Prove '..Said' where nothing that the law and all that it calls make is longer than what came in: it says more and counts as full. Else prove '..UptoSaid'. A law counts once. -/
mutual
def uptoBulk {H : Type} : DataW H → Nat
  | .lit (.string bytes) => bytes.length + 1
  | .lit _ => 1
  | .nil => 1
  | .ptr d => uptoBulk d + 1
  | .slice elems spare => uptoBulkAll elems + uptoBulkAll spare + 1
  | .agg parts => uptoBulkAll parts + 1
  | .iface _ d => uptoBulk d + 1
  | .map entries => uptoBulkEntries entries + 1
  | .held _ => 1
def uptoBulkAll {H : Type} : List (DataW H) → Nat
  | [] => 0
  | d :: r => uptoBulk d + uptoBulkAll r
def uptoBulkEntries {H : Type} : List (Lit × DataW H) → Nat
  | [] => 0
  | x :: r => uptoBulkEntry x + uptoBulkEntries r
def uptoBulkEntry {H : Type} : Lit × DataW H → Nat
  | (.string bytes, d) => bytes.length + uptoBulk d + 1
  | (_, d) => uptoBulk d + 1
 end
def uptoSmall : (H : Type) → List (DataW H) → Bool := fun _ ds => decide (uptoBulkAll ds ≤ 1048576)
def OpenSpec.upto (s : _root_.Go.ChangeSpec) : _root_.Go.OpenSpec := { _root_.Go.OpenSpec.ofChange s with cond := some uptoSmall }

/-- 'laws.FnCodes', WHERE WHAT IT READS IS OF BULK AT MOST 1048576: true; the input reads as it did. -/
def fnCodesUptoRow : OpenClaim := { program := "ytiianallpmfcbaa", sum := "26b404c01e5e9c8431185ead786690b0269f694830ab4eccaf87196672f4fcfc", func := "loop.example/g00044/laws.FnCodes", spec := "fnCodes", unfollowed := true, recurses := true, apart := false, narrowed := true }
def FnCodesUptoSaid : Prop := fnCodesUptoRow.holds Try.pinned (OpenSpec.upto fnCodesSpec)

/-- 'laws.FnExactEncode', WHERE WHAT IT READS IS OF BULK AT MOST 1048576: true; the input reads as it did. -/
def fnExactEncodeUptoRow : OpenClaim := { program := "ytiianallpmfcbaa", sum := "26b404c01e5e9c8431185ead786690b0269f694830ab4eccaf87196672f4fcfc", func := "loop.example/g00044/laws.FnExactEncode", spec := "fnExactEncode", unfollowed := true, recurses := true, apart := false, narrowed := true }
def FnExactEncodeUptoSaid : Prop := fnExactEncodeUptoRow.holds Try.pinned (OpenSpec.upto fnExactEncodeSpec)

/-- 'laws.FnExactDecode', WHERE WHAT IT READS IS OF BULK AT MOST 1048576: true; the input reads as it did. -/
def fnExactDecodeUptoRow : OpenClaim := { program := "ytiianallpmfcbaa", sum := "26b404c01e5e9c8431185ead786690b0269f694830ab4eccaf87196672f4fcfc", func := "loop.example/g00044/laws.FnExactDecode", spec := "fnExactDecode", unfollowed := true, recurses := true, apart := false, narrowed := true }
def FnExactDecodeUptoSaid : Prop := fnExactDecodeUptoRow.holds Try.pinned (OpenSpec.upto fnExactDecodeSpec)

/-- 'laws.FnExactDecoderFault', WHERE WHAT IT READS IS OF BULK AT MOST 1048576: true; the input reads as it did. -/
def fnExactDecoderFaultUptoRow : OpenClaim := { program := "ytiianallpmfcbaa", sum := "26b404c01e5e9c8431185ead786690b0269f694830ab4eccaf87196672f4fcfc", func := "loop.example/g00044/laws.FnExactDecoderFault", spec := "fnExactDecoderFault", unfollowed := true, recurses := true, apart := false, narrowed := true }
def FnExactDecoderFaultUptoSaid : Prop := fnExactDecoderFaultUptoRow.holds Try.pinned (OpenSpec.upto fnExactDecoderFaultSpec)

/-- 'laws.FnExactFeedDecoder', WHERE WHAT IT READS IS OF BULK AT MOST 1048576: true; the input reads as it did. -/
def fnExactFeedDecoderUptoRow : OpenClaim := { program := "ytiianallpmfcbaa", sum := "26b404c01e5e9c8431185ead786690b0269f694830ab4eccaf87196672f4fcfc", func := "loop.example/g00044/laws.FnExactFeedDecoder", spec := "fnExactFeedDecoder", unfollowed := true, recurses := true, apart := false, narrowed := true }
def FnExactFeedDecoderUptoSaid : Prop := fnExactFeedDecoderUptoRow.holds Try.pinned (OpenSpec.upto fnExactFeedDecoderSpec)

/-- 'laws.FnExactEndDecoder', WHERE WHAT IT READS IS OF BULK AT MOST 1048576: true; the input reads as it did. -/
def fnExactEndDecoderUptoRow : OpenClaim := { program := "ytiianallpmfcbaa", sum := "26b404c01e5e9c8431185ead786690b0269f694830ab4eccaf87196672f4fcfc", func := "loop.example/g00044/laws.FnExactEndDecoder", spec := "fnExactEndDecoder", unfollowed := true, recurses := true, apart := false, narrowed := true }
def FnExactEndDecoderUptoSaid : Prop := fnExactEndDecoderUptoRow.holds Try.pinned (OpenSpec.upto fnExactEndDecoderSpec)

end Rows
end Go.Proofs.Ytiianallpmfcbaa
