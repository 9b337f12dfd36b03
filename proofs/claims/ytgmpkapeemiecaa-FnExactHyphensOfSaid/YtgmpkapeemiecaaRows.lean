/-
  No cell of these rows narrows 'for every input' (looked for: loops, veiled, ifaces, maps, wideKeys, modest, calm, conditions, laid).
  DERIVED. THE GIVEN ROWS OF THIS SEAT. 3 by the template 'for every input the law returns true; each argument reads behind the call as it read before'; 0 by the template 'total and deterministic' (their statements: YtgmpkapeemiecaaTotals.lean).
  GIVEN WITH THE SEED: the statements are not yours to turn. If you find one false, say at which input.
  Laid BY PROGRAM, IN A SANDBOX (cutbox-rows.mjs): the forced cells as the released guide's own fill.sh prints them over the translation 33b1fb8ba1eb39d4… (all of the seat's roots in one cut). By AI agents, Wed Nov 11 2026. No macro, syntax, notation, axiom, sorry.
-/
import Derived.Test.YtgmpkapeemiecaaChecked
import GoSem.Claim
import GoSem.ClaimJoined
import GoSem.ClaimMapViews
import Derived.JoinedTies
import Derived.KernelRfl
namespace Go.Proofs.Ytgmpkapeemiecaa
/- THE CELL 'sum', in the pinned program and in every row, IS THE sha256 OF THE DUMP (.gsa) THAT YtgmpkapeemiecaaProg.lean LOADS. Nothing in Lean hashes anything: it is a label: what it is worth is what the hold of that sum in a sandbox is worth. -/
noncomputable def Try.pinned : Pinned := { name := "ytgmpkapeemiecaa", sum := "33b1fb8ba1eb39d4c95ca54b6999e8a523fc719950670406cb18f8162c3109a6", checked := Try.checked }
namespace Rows
def none {H : Type} : Left H := { results := [], args := [] }

/-- 'laws.FnExactPatternsFault': WHATEVER THE INPUT: true; the input reads as it did. -/
def fnExactPatternsFaultSpec : ChangeSpec := { name := "fnExactPatternsFault", fn := fun _ => fun
  | [d] => { results := [.lit (.bool true)], args := [d] }
  | _ => none }
def fnExactPatternsFaultRow : OpenClaim := { program := "ytgmpkapeemiecaa", sum := "33b1fb8ba1eb39d4c95ca54b6999e8a523fc719950670406cb18f8162c3109a6", func := "loop.example/g00044/laws.FnExactPatternsFault", spec := "fnExactPatternsFault", inPlace := ["internal/bytealg.IndexByteString", "internal/bytealg.IndexString"], named := ["internal/bytealg.MaxLen"], apart := false }
def FnExactPatternsFaultSaid : Prop := fnExactPatternsFaultRow.holds Try.pinned (OpenSpec.ofChange fnExactPatternsFaultSpec)

/-- ITS FALSE NEIGHBOUR: 'it returns false'. Refute it at one input. -/
def fnExactPatternsFaultWrong : ChangeSpec := { name := "fnExactPatternsFault", fn := fun _ => fun
  | [d] => { results := [.lit (.bool false)], args := [d] }
  | _ => none }
def FnExactPatternsFaultWrongFalsely : Prop := fnExactPatternsFaultRow.holds Try.pinned (OpenSpec.ofChange fnExactPatternsFaultWrong)

/-- 'laws.FnExactHyphensOf': WHATEVER THE INPUT: true; the input reads as it did. -/
def fnExactHyphensOfSpec : ChangeSpec := { name := "fnExactHyphensOf", fn := fun _ => fun
  | [d1, d2] => { results := [.lit (.bool true)], args := [d1, d2] }
  | _ => none }
def fnExactHyphensOfRow : OpenClaim := { program := "ytgmpkapeemiecaa", sum := "33b1fb8ba1eb39d4c95ca54b6999e8a523fc719950670406cb18f8162c3109a6", func := "loop.example/g00044/laws.FnExactHyphensOf", spec := "fnExactHyphensOf", inPlace := ["internal/bytealg.IndexByteString", "internal/bytealg.IndexString"], unfollowed := true, recurses := true, named := ["internal/bytealg.MaxLen"], apart := false }
def FnExactHyphensOfSaid : Prop := fnExactHyphensOfRow.holds Try.pinned (OpenSpec.ofChange fnExactHyphensOfSpec)

/-- ITS FALSE NEIGHBOUR: 'it returns false'. Refute it at one input. -/
def fnExactHyphensOfWrong : ChangeSpec := { name := "fnExactHyphensOf", fn := fun _ => fun
  | [d1, d2] => { results := [.lit (.bool false)], args := [d1, d2] }
  | _ => none }
def FnExactHyphensOfWrongFalsely : Prop := fnExactHyphensOfRow.holds Try.pinned (OpenSpec.ofChange fnExactHyphensOfWrong)

/-- 'laws.FnExactStyleFault': WHATEVER THE INPUT: true; the input reads as it did. -/
def fnExactStyleFaultSpec : ChangeSpec := { name := "fnExactStyleFault", fn := fun _ => fun
  | [d] => { results := [.lit (.bool true)], args := [d] }
  | _ => none }
def fnExactStyleFaultRow : OpenClaim := { program := "ytgmpkapeemiecaa", sum := "33b1fb8ba1eb39d4c95ca54b6999e8a523fc719950670406cb18f8162c3109a6", func := "loop.example/g00044/laws.FnExactStyleFault", spec := "fnExactStyleFault", inPlace := ["internal/bytealg.IndexByteString", "internal/bytealg.IndexString"], named := ["internal/bytealg.MaxLen"], apart := false }
def FnExactStyleFaultSaid : Prop := fnExactStyleFaultRow.holds Try.pinned (OpenSpec.ofChange fnExactStyleFaultSpec)

/-- ITS FALSE NEIGHBOUR: 'it returns false'. Refute it at one input. -/
def fnExactStyleFaultWrong : ChangeSpec := { name := "fnExactStyleFault", fn := fun _ => fun
  | [d] => { results := [.lit (.bool false)], args := [d] }
  | _ => none }
def FnExactStyleFaultWrongFalsely : Prop := fnExactStyleFaultRow.holds Try.pinned (OpenSpec.ofChange fnExactStyleFaultWrong)

/- THE SECOND FORM. 'bulk': how many values and letters a reading holds, each counted each time it is reached (what is shared counts as often as it is met; a slice's spare places count too). A statement '..UptoSaid' is the law's where the arguments, and the package variables that the reading takes, are together of bulk at most 1048576: NARROWER than '..Said'. Prove '..Said' where nothing that the law and all that it calls make is longer than what came in: it says more and counts as full. Else prove '..UptoSaid'. A law counts once. -/
mutual
def uptoBulk {H : Type} : DataW H → Nat
  | .lit (.string bytes) => bytes.length + 1
  | .lit _ => 1
  | .nil => 1
  | .ptr d => uptoBulk d + 1
  | .slice elems spare => uptoBulkAll elems + uptoBulkAll spare + 1
  | .agg parts => uptoBulkAll parts + 1
  | .iface _ d => uptoBulk d + 1
  | .map entries => uptoBulkEntries entries + 1
  | .held _ => 1
def uptoBulkAll {H : Type} : List (DataW H) → Nat
  | [] => 0
  | d :: r => uptoBulk d + uptoBulkAll r
def uptoBulkEntries {H : Type} : List (Lit × DataW H) → Nat
  | [] => 0
  | x :: r => uptoBulkEntry x + uptoBulkEntries r
def uptoBulkEntry {H : Type} : Lit × DataW H → Nat
  | (.string bytes, d) => bytes.length + uptoBulk d + 1
  | (_, d) => uptoBulk d + 1
 end
def uptoSmall : (H : Type) → List (DataW H) → Bool := fun _ ds => decide (uptoBulkAll ds ≤ 1048576)
def OpenSpec.upto (s : _root_.Go.ChangeSpec) : _root_.Go.OpenSpec := { _root_.Go.OpenSpec.ofChange s with cond := some uptoSmall }

/-- 'laws.FnExactPatternsFault', WHERE WHAT IT READS IS OF BULK AT MOST 1048576: true; the input reads as it did. -/
def fnExactPatternsFaultUptoRow : OpenClaim := { program := "ytgmpkapeemiecaa", sum := "33b1fb8ba1eb39d4c95ca54b6999e8a523fc719950670406cb18f8162c3109a6", func := "loop.example/g00044/laws.FnExactPatternsFault", spec := "fnExactPatternsFault", inPlace := ["internal/bytealg.IndexByteString", "internal/bytealg.IndexString"], named := ["internal/bytealg.MaxLen"], apart := false, narrowed := true }
def FnExactPatternsFaultUptoSaid : Prop := fnExactPatternsFaultUptoRow.holds Try.pinned (OpenSpec.upto fnExactPatternsFaultSpec)

/-- 'laws.FnExactHyphensOf', WHERE WHAT IT READS IS OF BULK AT MOST 1048576: true; the input reads as it did. -/
def fnExactHyphensOfUptoRow : OpenClaim := { program := "ytgmpkapeemiecaa", sum := "33b1fb8ba1eb39d4c95ca54b6999e8a523fc719950670406cb18f8162c3109a6", func := "loop.example/g00044/laws.FnExactHyphensOf", spec := "fnExactHyphensOf", inPlace := ["internal/bytealg.IndexByteString", "internal/bytealg.IndexString"], unfollowed := true, recurses := true, named := ["internal/bytealg.MaxLen"], apart := false, narrowed := true }
def FnExactHyphensOfUptoSaid : Prop := fnExactHyphensOfUptoRow.holds Try.pinned (OpenSpec.upto fnExactHyphensOfSpec)

/-- 'laws.FnExactStyleFault', WHERE WHAT IT READS IS OF BULK AT MOST 1048576: true; the input reads as it did. -/
def fnExactStyleFaultUptoRow : OpenClaim := { program := "ytgmpkapeemiecaa", sum := "33b1fb8ba1eb39d4c95ca54b6999e8a523fc719950670406cb18f8162c3109a6", func := "loop.example/g00044/laws.FnExactStyleFault", spec := "fnExactStyleFault", inPlace := ["internal/bytealg.IndexByteString", "internal/bytealg.IndexString"], named := ["internal/bytealg.MaxLen"], apart := false, narrowed := true }
def FnExactStyleFaultUptoSaid : Prop := fnExactStyleFaultUptoRow.holds Try.pinned (OpenSpec.upto fnExactStyleFaultSpec)

end Rows
end Go.Proofs.Ytgmpkapeemiecaa
