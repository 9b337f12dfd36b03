/-
  NARROWER THAN 'FOR EVERY INPUT', by the rows' own cells (each row's printed sentence says how): FnTrie: laid · FnCases: laid · FnChars: laid · FnExactSimpleLower: laid · FnExactSimpleUpper: laid · FnExactCasesOf: laid · FnExactCharCuts: laid · FnExactChars: laid · FnExactNextChar: laid · FnExactLastChar: laid · FnExactWordCuts: laid · FnExactWords: laid.
  DERIVED. THE GIVEN ROWS OF THIS SEAT. 12 by the template 'for every input the law returns true; each argument reads behind the call as it read before'; 0 by the template 'total and deterministic' (their statements: YtommeaklnndcnaaDoorTotals.lean).
  GIVEN WITH THE SEED: the statements are not yours to turn. If you find one false, say at which input.
  Laid BY PROGRAM, IN A SANDBOX (cutbox-rows.mjs): the forced cells as the released guide's own fill.sh prints them over the translation 13298d793be5b89a… (all of the seat's roots in one cut). By AI agents, Wed Nov 11 2026. No macro, syntax, notation, axiom, sorry.
-/
import Derived.Test.YtommeaklnndcnaaDoorChecked
import GoSem.Claim
import GoSem.ClaimJoined
import GoSem.ClaimMapViews
import Derived.JoinedTies
import Derived.KernelRfl
namespace Go.Proofs.YtommeaklnndcnaaDoor
/- THE CELL 'sum', in the pinned program and in every row, IS THE sha256 OF THE DUMP (.gsa) THAT YtommeaklnndcnaaDoorProg.lean LOADS. Nothing in Lean hashes anything: it is a label: what it is worth is what the hold of that sum in a sandbox is worth. -/
noncomputable def Tryd.pinned : Pinned := { name := "ytommeaklnndcnaadoor", sum := "13298d793be5b89ae0f12263d507017c5f1779294c5ab8aad8785ae1c8a055eb", checked := Tryd.checked }
namespace Rows
def none {H : Type} : Left H := { results := [], args := [] }

/- WHAT THE LISTED PACKAGE-LEVEL VARIABLES READ AS WHEN THE CALL BEGINS. Each datum BY PROGRAM (the guide's laid-datum.mjs) off the statement by which the dump's own 'gosem.cut.vars' lays the variable. In a bare row this is a premise. The card (YtommeaklnndcnaaDoorCards.lean) ties it to the program's text. -/
def laid_math_bits_deBruijn32tab {H : Type} : DataW H := .agg [.lit (.int .u8 0), .lit (.int .u8 1), .lit (.int .u8 28), .lit (.int .u8 2), .lit (.int .u8 29), .lit (.int .u8 14), .lit (.int .u8 24), .lit (.int .u8 3), .lit (.int .u8 30), .lit (.int .u8 22), .lit (.int .u8 20), .lit (.int .u8 15), .lit (.int .u8 25), .lit (.int .u8 17), .lit (.int .u8 4), .lit (.int .u8 8), .lit (.int .u8 31), .lit (.int .u8 27), .lit (.int .u8 13), .lit (.int .u8 23), .lit (.int .u8 21), .lit (.int .u8 19), .lit (.int .u8 16), .lit (.int .u8 7), .lit (.int .u8 26), .lit (.int .u8 12), .lit (.int .u8 18), .lit (.int .u8 6), .lit (.int .u8 11), .lit (.int .u8 5), .lit (.int .u8 10), .lit (.int .u8 9)]
def laid_math_bits_deBruijn64tab {H : Type} : DataW H := .agg [.lit (.int .u8 0), .lit (.int .u8 1), .lit (.int .u8 56), .lit (.int .u8 2), .lit (.int .u8 57), .lit (.int .u8 49), .lit (.int .u8 28), .lit (.int .u8 3), .lit (.int .u8 61), .lit (.int .u8 58), .lit (.int .u8 42), .lit (.int .u8 50), .lit (.int .u8 38), .lit (.int .u8 29), .lit (.int .u8 17), .lit (.int .u8 4), .lit (.int .u8 62), .lit (.int .u8 47), .lit (.int .u8 59), .lit (.int .u8 36), .lit (.int .u8 45), .lit (.int .u8 43), .lit (.int .u8 51), .lit (.int .u8 22), .lit (.int .u8 53), .lit (.int .u8 39), .lit (.int .u8 33), .lit (.int .u8 30), .lit (.int .u8 24), .lit (.int .u8 18), .lit (.int .u8 12), .lit (.int .u8 5), .lit (.int .u8 63), .lit (.int .u8 55), .lit (.int .u8 48), .lit (.int .u8 27), .lit (.int .u8 60), .lit (.int .u8 41), .lit (.int .u8 37), .lit (.int .u8 16), .lit (.int .u8 46), .lit (.int .u8 35), .lit (.int .u8 44), .lit (.int .u8 21), .lit (.int .u8 52), .lit (.int .u8 32), .lit (.int .u8 23), .lit (.int .u8 11), .lit (.int .u8 54), .lit (.int .u8 26), .lit (.int .u8 40), .lit (.int .u8 15), .lit (.int .u8 34), .lit (.int .u8 20), .lit (.int .u8 31), .lit (.int .u8 10), .lit (.int .u8 25), .lit (.int .u8 14), .lit (.int .u8 19), .lit (.int .u8 9), .lit (.int .u8 13), .lit (.int .u8 8), .lit (.int .u8 7), .lit (.int .u8 6)]
def laid_internal_strconv_uint64pow10 {H : Type} : DataW H := .agg [.lit (.int .u64 1), .lit (.int .u64 10), .lit (.int .u64 100), .lit (.int .u64 1000), .lit (.int .u64 10000), .lit (.int .u64 100000), .lit (.int .u64 1000000), .lit (.int .u64 10000000), .lit (.int .u64 100000000), .lit (.int .u64 1000000000), .lit (.int .u64 10000000000), .lit (.int .u64 100000000000), .lit (.int .u64 1000000000000), .lit (.int .u64 10000000000000), .lit (.int .u64 100000000000000), .lit (.int .u64 1000000000000000), .lit (.int .u64 10000000000000000), .lit (.int .u64 100000000000000000), .lit (.int .u64 1000000000000000000), .lit (.int .u64 10000000000000000000)]
def laid_loop_example_g00044_impl_caseBlocks {H : Type} : DataW H := .agg [.agg [.lit (.int .i64 65), .lit (.int .i64 26), .lit (.int .i64 0), .lit (.int .i64 32)], .agg [.lit (.int .i64 512), .lit (.int .i64 32), .lit (.int .i64 0), .lit (.int .i64 32)], .agg [.lit (.int .i64 576), .lit (.int .i64 4), .lit (.int .i64 4), .lit (.int .i64 8)], .agg [.lit (.int .i64 8192), .lit (.int .i64 208), .lit (.int .i64 0), .lit (.int .i64 208)], .agg [.lit (.int .i64 8704), .lit (.int .i64 208), .lit (.int .i64 0), .lit (.int .i64 208)], .agg [.lit (.int .i64 9216), .lit (.int .i64 208), .lit (.int .i64 0), .lit (.int .i64 208)]]
def laid_loop_example_g00044_impl_repertoire {H : Type} : DataW H := .agg [.agg [.lit (.int .u16 0), .lit (.int .u16 31), .lit (.int .u8 1), .lit (.int .u8 0)], .agg [.lit (.int .u16 32), .lit (.int .u16 32), .lit (.int .u8 2), .lit (.int .u8 0)], .agg [.lit (.int .u16 33), .lit (.int .u16 47), .lit (.int .u8 9), .lit (.int .u8 0)], .agg [.lit (.int .u16 48), .lit (.int .u16 57), .lit (.int .u8 8), .lit (.int .u8 0)], .agg [.lit (.int .u16 58), .lit (.int .u16 64), .lit (.int .u8 9), .lit (.int .u8 0)], .agg [.lit (.int .u16 65), .lit (.int .u16 90), .lit (.int .u8 4), .lit (.int .u8 1)], .agg [.lit (.int .u16 91), .lit (.int .u16 96), .lit (.int .u8 9), .lit (.int .u8 0)], .agg [.lit (.int .u16 97), .lit (.int .u16 122), .lit (.int .u8 5), .lit (.int .u8 1)], .agg [.lit (.int .u16 123), .lit (.int .u16 126), .lit (.int .u8 9), .lit (.int .u8 0)], .agg [.lit (.int .u16 127), .lit (.int .u16 159), .lit (.int .u8 1), .lit (.int .u8 0)], .agg [.lit (.int .u16 160), .lit (.int .u16 160), .lit (.int .u8 2), .lit (.int .u8 0)], .agg [.lit (.int .u16 161), .lit (.int .u16 172), .lit (.int .u8 10), .lit (.int .u8 0)], .agg [.lit (.int .u16 173), .lit (.int .u16 173), .lit (.int .u8 11), .lit (.int .u8 0)], .agg [.lit (.int .u16 174), .lit (.int .u16 191), .lit (.int .u8 10), .lit (.int .u8 0)], .agg [.lit (.int .u16 512), .lit (.int .u16 543), .lit (.int .u8 4), .lit (.int .u8 2)], .agg [.lit (.int .u16 544), .lit (.int .u16 575), .lit (.int .u8 5), .lit (.int .u8 2)], .agg [.lit (.int .u16 576), .lit (.int .u16 579), .lit (.int .u8 4), .lit (.int .u8 2)], .agg [.lit (.int .u16 580), .lit (.int .u16 583), .lit (.int .u8 6), .lit (.int .u8 2)], .agg [.lit (.int .u16 584), .lit (.int .u16 587), .lit (.int .u8 5), .lit (.int .u8 2)], .agg [.lit (.int .u16 592), .lit (.int .u16 601), .lit (.int .u8 8), .lit (.int .u8 2)], .agg [.lit (.int .u16 608), .lit (.int .u16 609), .lit (.int .u8 5), .lit (.int .u8 2)], .agg [.lit (.int .u16 1280), .lit (.int .u16 1311), .lit (.int .u8 7), .lit (.int .u8 5)], .agg [.lit (.int .u16 1360), .lit (.int .u16 1369), .lit (.int .u8 8), .lit (.int .u8 5)], .agg [.lit (.int .u16 1536), .lit (.int .u16 1567), .lit (.int .u8 7), .lit (.int .u8 6)], .agg [.lit (.int .u16 1568), .lit (.int .u16 1579), .lit (.int .u8 3), .lit (.int .u8 6)], .agg [.lit (.int .u16 1584), .lit (.int .u16 1585), .lit (.int .u8 3), .lit (.int .u8 6)], .agg [.lit (.int .u16 1616), .lit (.int .u16 1625), .lit (.int .u8 8), .lit (.int .u8 6)], .agg [.lit (.int .u16 1792), .lit (.int .u16 1810), .lit (.int .u8 7), .lit (.int .u8 7)], .agg [.lit (.int .u16 1824), .lit (.int .u16 1844), .lit (.int .u8 7), .lit (.int .u8 7)], .agg [.lit (.int .u16 1857), .lit (.int .u16 1883), .lit (.int .u8 7), .lit (.int .u8 7)], .agg [.lit (.int .u16 2048), .lit (.int .u16 2095), .lit (.int .u8 7), .lit (.int .u8 8)], .agg [.lit (.int .u16 4096), .lit (.int .u16 4159), .lit (.int .u8 3), .lit (.int .u8 0)], .agg [.lit (.int .u16 7680), .lit (.int .u16 7748), .lit (.int .u8 10), .lit (.int .u8 0)], .agg [.lit (.int .u16 7760), .lit (.int .u16 7785), .lit (.int .u8 10), .lit (.int .u8 0)], .agg [.lit (.int .u16 7936), .lit (.int .u16 7947), .lit (.int .u8 11), .lit (.int .u8 0)], .agg [.lit (.int .u16 7953), .lit (.int .u16 7954), .lit (.int .u8 11), .lit (.int .u8 0)], .agg [.lit (.int .u16 8064), .lit (.int .u16 8064), .lit (.int .u8 2), .lit (.int .u8 0)], .agg [.lit (.int .u16 8192), .lit (.int .u16 8399), .lit (.int .u8 4), .lit (.int .u8 1)], .agg [.lit (.int .u16 8400), .lit (.int .u16 8607), .lit (.int .u8 5), .lit (.int .u8 1)], .agg [.lit (.int .u16 8704), .lit (.int .u16 8911), .lit (.int .u8 4), .lit (.int .u8 1)], .agg [.lit (.int .u16 8912), .lit (.int .u16 9119), .lit (.int .u8 5), .lit (.int .u8 1)], .agg [.lit (.int .u16 9216), .lit (.int .u16 9423), .lit (.int .u8 4), .lit (.int .u8 1)], .agg [.lit (.int .u16 9424), .lit (.int .u16 9631), .lit (.int .u8 5), .lit (.int .u8 1)], .agg [.lit (.int .u16 9728), .lit (.int .u16 9753), .lit (.int .u8 4), .lit (.int .u8 1)], .agg [.lit (.int .u16 9984), .lit (.int .u16 10009), .lit (.int .u8 10), .lit (.int .u8 0)], .agg [.lit (.int .u16 10016), .lit (.int .u16 10025), .lit (.int .u8 8), .lit (.int .u8 0)], .agg [.lit (.int .u16 10032), .lit (.int .u16 10035), .lit (.int .u8 10), .lit (.int .u8 0)], .agg [.lit (.int .u16 12288), .lit (.int .u16 23459), .lit (.int .u8 7), .lit (.int .u8 7)], .agg [.lit (.int .u16 24576), .lit (.int .u16 26623), .lit (.int .u8 7), .lit (.int .u8 9)]]

/-- 'laws.FnTrie': WHATEVER THE INPUT: true; the input reads as it did. -/
def fnTrieSpec : ChangeSpec := { name := "fnTrie", fn := fun _ => fun
  | [d1, d2] => { results := [.lit (.bool true)], args := [d1, d2] }
  | _ => none }
def fnTrieRow : OpenClaim := { program := "ytommeaklnndcnaadoor", sum := "13298d793be5b89ae0f12263d507017c5f1779294c5ab8aad8785ae1c8a055eb", func := "loop.example/g00044/laws.FnTrie", spec := "fnTrie", unfollowed := true, recurses := true, named := ["internal/strconv.uint64pow10", "math/bits.deBruijn32tab", "math/bits.deBruijn64tab"], plainKeys := false, apart := false, laid := [("math/bits.deBruijn32tab", laid_math_bits_deBruijn32tab), ("math/bits.deBruijn64tab", laid_math_bits_deBruijn64tab), ("internal/strconv.uint64pow10", laid_internal_strconv_uint64pow10)] }
def FnTrieSaid : Prop := fnTrieRow.holds Tryd.pinned (OpenSpec.ofChange fnTrieSpec)

/-- ITS FALSE NEIGHBOUR: 'it returns false'. Refute it at one input. -/
def fnTrieWrong : ChangeSpec := { name := "fnTrie", fn := fun _ => fun
  | [d1, d2] => { results := [.lit (.bool false)], args := [d1, d2] }
  | _ => none }
def FnTrieWrongFalsely : Prop := fnTrieRow.holds Tryd.pinned (OpenSpec.ofChange fnTrieWrong)

/-- 'laws.FnCases': WHATEVER THE INPUT: true; the input reads as it did. -/
def fnCasesSpec : ChangeSpec := { name := "fnCases", vars := ["loop.example/g00044/impl.caseBlocks"], fn := fun _ => fun
  | [d, g1] => { results := [.lit (.bool true)], args := [d], vars := [g1] }
  | _ => none }
def fnCasesRow : OpenClaim := { program := "ytommeaklnndcnaadoor", sum := "13298d793be5b89ae0f12263d507017c5f1779294c5ab8aad8785ae1c8a055eb", func := "loop.example/g00044/laws.FnCases", spec := "fnCases", unfollowed := true, recurses := true, named := ["loop.example/g00044/impl.caseBlocks"], plainKeys := false, apart := false, laid := [("loop.example/g00044/impl.caseBlocks", laid_loop_example_g00044_impl_caseBlocks)] }
def FnCasesSaid : Prop := fnCasesRow.holds Tryd.pinned (OpenSpec.ofChange fnCasesSpec)

/-- ITS FALSE NEIGHBOUR: 'it returns false'. Refute it at one input. -/
def fnCasesWrong : ChangeSpec := { name := "fnCases", vars := ["loop.example/g00044/impl.caseBlocks"], fn := fun _ => fun
  | [d, g1] => { results := [.lit (.bool false)], args := [d], vars := [g1] }
  | _ => none }
def FnCasesWrongFalsely : Prop := fnCasesRow.holds Tryd.pinned (OpenSpec.ofChange fnCasesWrong)

/-- 'laws.FnChars': WHATEVER THE INPUT: true; the input reads as it did. -/
def fnCharsSpec : ChangeSpec := { name := "fnChars", vars := ["loop.example/g00044/impl.repertoire"], fn := fun _ => fun
  | [d, g1] => { results := [.lit (.bool true)], args := [d], vars := [g1] }
  | _ => none }
def fnCharsRow : OpenClaim := { program := "ytommeaklnndcnaadoor", sum := "13298d793be5b89ae0f12263d507017c5f1779294c5ab8aad8785ae1c8a055eb", func := "loop.example/g00044/laws.FnChars", spec := "fnChars", unfollowed := true, recurses := true, named := ["loop.example/g00044/impl.repertoire"], plainKeys := false, apart := false, laid := [("loop.example/g00044/impl.repertoire", laid_loop_example_g00044_impl_repertoire)] }
def FnCharsSaid : Prop := fnCharsRow.holds Tryd.pinned (OpenSpec.ofChange fnCharsSpec)

/-- ITS FALSE NEIGHBOUR: 'it returns false'. Refute it at one input. -/
def fnCharsWrong : ChangeSpec := { name := "fnChars", vars := ["loop.example/g00044/impl.repertoire"], fn := fun _ => fun
  | [d, g1] => { results := [.lit (.bool false)], args := [d], vars := [g1] }
  | _ => none }
def FnCharsWrongFalsely : Prop := fnCharsRow.holds Tryd.pinned (OpenSpec.ofChange fnCharsWrong)

/-- 'laws.FnExactSimpleLower': WHATEVER THE INPUT: true; the input reads as it did. -/
def fnExactSimpleLowerSpec : ChangeSpec := { name := "fnExactSimpleLower", vars := ["loop.example/g00044/impl.caseBlocks"], fn := fun _ => fun
  | [d, g1] => { results := [.lit (.bool true)], args := [d], vars := [g1] }
  | _ => none }
def fnExactSimpleLowerRow : OpenClaim := { program := "ytommeaklnndcnaadoor", sum := "13298d793be5b89ae0f12263d507017c5f1779294c5ab8aad8785ae1c8a055eb", func := "loop.example/g00044/laws.FnExactSimpleLower", spec := "fnExactSimpleLower", named := ["loop.example/g00044/impl.caseBlocks"], plainKeys := false, apart := false, laid := [("loop.example/g00044/impl.caseBlocks", laid_loop_example_g00044_impl_caseBlocks)] }
def FnExactSimpleLowerSaid : Prop := fnExactSimpleLowerRow.holds Tryd.pinned (OpenSpec.ofChange fnExactSimpleLowerSpec)

/-- ITS FALSE NEIGHBOUR: 'it returns false'. Refute it at one input. -/
def fnExactSimpleLowerWrong : ChangeSpec := { name := "fnExactSimpleLower", vars := ["loop.example/g00044/impl.caseBlocks"], fn := fun _ => fun
  | [d, g1] => { results := [.lit (.bool false)], args := [d], vars := [g1] }
  | _ => none }
def FnExactSimpleLowerWrongFalsely : Prop := fnExactSimpleLowerRow.holds Tryd.pinned (OpenSpec.ofChange fnExactSimpleLowerWrong)

/-- 'laws.FnExactSimpleUpper': WHATEVER THE INPUT: true; the input reads as it did. -/
def fnExactSimpleUpperSpec : ChangeSpec := { name := "fnExactSimpleUpper", vars := ["loop.example/g00044/impl.caseBlocks"], fn := fun _ => fun
  | [d, g1] => { results := [.lit (.bool true)], args := [d], vars := [g1] }
  | _ => none }
def fnExactSimpleUpperRow : OpenClaim := { program := "ytommeaklnndcnaadoor", sum := "13298d793be5b89ae0f12263d507017c5f1779294c5ab8aad8785ae1c8a055eb", func := "loop.example/g00044/laws.FnExactSimpleUpper", spec := "fnExactSimpleUpper", named := ["loop.example/g00044/impl.caseBlocks"], plainKeys := false, apart := false, laid := [("loop.example/g00044/impl.caseBlocks", laid_loop_example_g00044_impl_caseBlocks)] }
def FnExactSimpleUpperSaid : Prop := fnExactSimpleUpperRow.holds Tryd.pinned (OpenSpec.ofChange fnExactSimpleUpperSpec)

/-- ITS FALSE NEIGHBOUR: 'it returns false'. Refute it at one input. -/
def fnExactSimpleUpperWrong : ChangeSpec := { name := "fnExactSimpleUpper", vars := ["loop.example/g00044/impl.caseBlocks"], fn := fun _ => fun
  | [d, g1] => { results := [.lit (.bool false)], args := [d], vars := [g1] }
  | _ => none }
def FnExactSimpleUpperWrongFalsely : Prop := fnExactSimpleUpperRow.holds Tryd.pinned (OpenSpec.ofChange fnExactSimpleUpperWrong)

/-- 'laws.FnExactCasesOf': WHATEVER THE INPUT: true; the input reads as it did. -/
def fnExactCasesOfSpec : ChangeSpec := { name := "fnExactCasesOf", vars := ["loop.example/g00044/impl.caseBlocks"], fn := fun _ => fun
  | [d, g1] => { results := [.lit (.bool true)], args := [d], vars := [g1] }
  | _ => none }
def fnExactCasesOfRow : OpenClaim := { program := "ytommeaklnndcnaadoor", sum := "13298d793be5b89ae0f12263d507017c5f1779294c5ab8aad8785ae1c8a055eb", func := "loop.example/g00044/laws.FnExactCasesOf", spec := "fnExactCasesOf", recurses := true, named := ["loop.example/g00044/impl.caseBlocks"], plainKeys := false, apart := false, laid := [("loop.example/g00044/impl.caseBlocks", laid_loop_example_g00044_impl_caseBlocks)] }
def FnExactCasesOfSaid : Prop := fnExactCasesOfRow.holds Tryd.pinned (OpenSpec.ofChange fnExactCasesOfSpec)

/-- ITS FALSE NEIGHBOUR: 'it returns false'. Refute it at one input. -/
def fnExactCasesOfWrong : ChangeSpec := { name := "fnExactCasesOf", vars := ["loop.example/g00044/impl.caseBlocks"], fn := fun _ => fun
  | [d, g1] => { results := [.lit (.bool false)], args := [d], vars := [g1] }
  | _ => none }
def FnExactCasesOfWrongFalsely : Prop := fnExactCasesOfRow.holds Tryd.pinned (OpenSpec.ofChange fnExactCasesOfWrong)

/-- 'laws.FnExactCharCuts': WHATEVER THE INPUT: true; the input reads as it did. -/
def fnExactCharCutsSpec : ChangeSpec := { name := "fnExactCharCuts", vars := ["loop.example/g00044/impl.repertoire"], fn := fun _ => fun
  | [d, g1] => { results := [.lit (.bool true)], args := [d], vars := [g1] }
  | _ => none }
def fnExactCharCutsRow : OpenClaim := { program := "ytommeaklnndcnaadoor", sum := "13298d793be5b89ae0f12263d507017c5f1779294c5ab8aad8785ae1c8a055eb", func := "loop.example/g00044/laws.FnExactCharCuts", spec := "fnExactCharCuts", unfollowed := true, recurses := true, named := ["loop.example/g00044/impl.repertoire"], plainKeys := false, apart := false, laid := [("loop.example/g00044/impl.repertoire", laid_loop_example_g00044_impl_repertoire)] }
def FnExactCharCutsSaid : Prop := fnExactCharCutsRow.holds Tryd.pinned (OpenSpec.ofChange fnExactCharCutsSpec)

/-- ITS FALSE NEIGHBOUR: 'it returns false'. Refute it at one input. -/
def fnExactCharCutsWrong : ChangeSpec := { name := "fnExactCharCuts", vars := ["loop.example/g00044/impl.repertoire"], fn := fun _ => fun
  | [d, g1] => { results := [.lit (.bool false)], args := [d], vars := [g1] }
  | _ => none }
def FnExactCharCutsWrongFalsely : Prop := fnExactCharCutsRow.holds Tryd.pinned (OpenSpec.ofChange fnExactCharCutsWrong)

/-- 'laws.FnExactChars': WHATEVER THE INPUT: true; the input reads as it did. -/
def fnExactCharsSpec : ChangeSpec := { name := "fnExactChars", vars := ["loop.example/g00044/impl.repertoire"], fn := fun _ => fun
  | [d, g1] => { results := [.lit (.bool true)], args := [d], vars := [g1] }
  | _ => none }
def fnExactCharsRow : OpenClaim := { program := "ytommeaklnndcnaadoor", sum := "13298d793be5b89ae0f12263d507017c5f1779294c5ab8aad8785ae1c8a055eb", func := "loop.example/g00044/laws.FnExactChars", spec := "fnExactChars", unfollowed := true, recurses := true, named := ["loop.example/g00044/impl.repertoire"], plainKeys := false, apart := false, laid := [("loop.example/g00044/impl.repertoire", laid_loop_example_g00044_impl_repertoire)] }
def FnExactCharsSaid : Prop := fnExactCharsRow.holds Tryd.pinned (OpenSpec.ofChange fnExactCharsSpec)

/-- ITS FALSE NEIGHBOUR: 'it returns false'. Refute it at one input. -/
def fnExactCharsWrong : ChangeSpec := { name := "fnExactChars", vars := ["loop.example/g00044/impl.repertoire"], fn := fun _ => fun
  | [d, g1] => { results := [.lit (.bool false)], args := [d], vars := [g1] }
  | _ => none }
def FnExactCharsWrongFalsely : Prop := fnExactCharsRow.holds Tryd.pinned (OpenSpec.ofChange fnExactCharsWrong)

/-- 'laws.FnExactNextChar': WHATEVER THE INPUT: true; the input reads as it did. -/
def fnExactNextCharSpec : ChangeSpec := { name := "fnExactNextChar", vars := ["loop.example/g00044/impl.repertoire"], fn := fun _ => fun
  | [d1, d2, g1] => { results := [.lit (.bool true)], args := [d1, d2], vars := [g1] }
  | _ => none }
def fnExactNextCharRow : OpenClaim := { program := "ytommeaklnndcnaadoor", sum := "13298d793be5b89ae0f12263d507017c5f1779294c5ab8aad8785ae1c8a055eb", func := "loop.example/g00044/laws.FnExactNextChar", spec := "fnExactNextChar", unfollowed := true, recurses := true, named := ["loop.example/g00044/impl.repertoire"], plainKeys := false, apart := false, laid := [("loop.example/g00044/impl.repertoire", laid_loop_example_g00044_impl_repertoire)] }
def FnExactNextCharSaid : Prop := fnExactNextCharRow.holds Tryd.pinned (OpenSpec.ofChange fnExactNextCharSpec)

/-- ITS FALSE NEIGHBOUR: 'it returns false'. Refute it at one input. -/
def fnExactNextCharWrong : ChangeSpec := { name := "fnExactNextChar", vars := ["loop.example/g00044/impl.repertoire"], fn := fun _ => fun
  | [d1, d2, g1] => { results := [.lit (.bool false)], args := [d1, d2], vars := [g1] }
  | _ => none }
def FnExactNextCharWrongFalsely : Prop := fnExactNextCharRow.holds Tryd.pinned (OpenSpec.ofChange fnExactNextCharWrong)

/-- 'laws.FnExactLastChar': WHATEVER THE INPUT: true; the input reads as it did. -/
def fnExactLastCharSpec : ChangeSpec := { name := "fnExactLastChar", vars := ["loop.example/g00044/impl.repertoire"], fn := fun _ => fun
  | [d1, d2, g1] => { results := [.lit (.bool true)], args := [d1, d2], vars := [g1] }
  | _ => none }
def fnExactLastCharRow : OpenClaim := { program := "ytommeaklnndcnaadoor", sum := "13298d793be5b89ae0f12263d507017c5f1779294c5ab8aad8785ae1c8a055eb", func := "loop.example/g00044/laws.FnExactLastChar", spec := "fnExactLastChar", unfollowed := true, recurses := true, named := ["loop.example/g00044/impl.repertoire"], plainKeys := false, apart := false, laid := [("loop.example/g00044/impl.repertoire", laid_loop_example_g00044_impl_repertoire)] }
def FnExactLastCharSaid : Prop := fnExactLastCharRow.holds Tryd.pinned (OpenSpec.ofChange fnExactLastCharSpec)

/-- ITS FALSE NEIGHBOUR: 'it returns false'. Refute it at one input. -/
def fnExactLastCharWrong : ChangeSpec := { name := "fnExactLastChar", vars := ["loop.example/g00044/impl.repertoire"], fn := fun _ => fun
  | [d1, d2, g1] => { results := [.lit (.bool false)], args := [d1, d2], vars := [g1] }
  | _ => none }
def FnExactLastCharWrongFalsely : Prop := fnExactLastCharRow.holds Tryd.pinned (OpenSpec.ofChange fnExactLastCharWrong)

/-- 'laws.FnExactWordCuts': WHATEVER THE INPUT: true; the input reads as it did. -/
def fnExactWordCutsSpec : ChangeSpec := { name := "fnExactWordCuts", vars := ["loop.example/g00044/impl.repertoire"], fn := fun _ => fun
  | [d1, d2, g1] => { results := [.lit (.bool true)], args := [d1, d2], vars := [g1] }
  | _ => none }
def fnExactWordCutsRow : OpenClaim := { program := "ytommeaklnndcnaadoor", sum := "13298d793be5b89ae0f12263d507017c5f1779294c5ab8aad8785ae1c8a055eb", func := "loop.example/g00044/laws.FnExactWordCuts", spec := "fnExactWordCuts", unfollowed := true, recurses := true, named := ["loop.example/g00044/impl.repertoire"], plainKeys := false, apart := false, laid := [("loop.example/g00044/impl.repertoire", laid_loop_example_g00044_impl_repertoire)] }
def FnExactWordCutsSaid : Prop := fnExactWordCutsRow.holds Tryd.pinned (OpenSpec.ofChange fnExactWordCutsSpec)

/-- ITS FALSE NEIGHBOUR: 'it returns false'. Refute it at one input. -/
def fnExactWordCutsWrong : ChangeSpec := { name := "fnExactWordCuts", vars := ["loop.example/g00044/impl.repertoire"], fn := fun _ => fun
  | [d1, d2, g1] => { results := [.lit (.bool false)], args := [d1, d2], vars := [g1] }
  | _ => none }
def FnExactWordCutsWrongFalsely : Prop := fnExactWordCutsRow.holds Tryd.pinned (OpenSpec.ofChange fnExactWordCutsWrong)

/-- 'laws.FnExactWords': WHATEVER THE INPUT: true; the input reads as it did. -/
def fnExactWordsSpec : ChangeSpec := { name := "fnExactWords", vars := ["loop.example/g00044/impl.repertoire"], fn := fun _ => fun
  | [d1, d2, g1] => { results := [.lit (.bool true)], args := [d1, d2], vars := [g1] }
  | _ => none }
def fnExactWordsRow : OpenClaim := { program := "ytommeaklnndcnaadoor", sum := "13298d793be5b89ae0f12263d507017c5f1779294c5ab8aad8785ae1c8a055eb", func := "loop.example/g00044/laws.FnExactWords", spec := "fnExactWords", unfollowed := true, recurses := true, named := ["loop.example/g00044/impl.repertoire"], plainKeys := false, apart := false, laid := [("loop.example/g00044/impl.repertoire", laid_loop_example_g00044_impl_repertoire)] }
def FnExactWordsSaid : Prop := fnExactWordsRow.holds Tryd.pinned (OpenSpec.ofChange fnExactWordsSpec)

/-- ITS FALSE NEIGHBOUR: 'it returns false'. Refute it at one input. -/
def fnExactWordsWrong : ChangeSpec := { name := "fnExactWords", vars := ["loop.example/g00044/impl.repertoire"], fn := fun _ => fun
  | [d1, d2, g1] => { results := [.lit (.bool false)], args := [d1, d2], vars := [g1] }
  | _ => none }
def FnExactWordsWrongFalsely : Prop := fnExactWordsRow.holds Tryd.pinned (OpenSpec.ofChange fnExactWordsWrong)

/- THE SECOND FORM. 'bulk': how many values and letters a reading holds, each counted each time it is reached (what is shared counts as often as it is met; a slice's spare places count too). A statement '..UptoSaid' is the law's where the arguments, and the package variables that the reading takes, are together of bulk at most 1048576: NARROWER than '..Said'. Prove '..Said' where nothing that the law and all that it calls make is longer than what came in: it says more and counts as full. Else prove '..UptoSaid'. A law counts once. -/
mutual
def uptoBulk {H : Type} : DataW H → Nat
  | .lit (.string bytes) => bytes.length + 1
  | .lit _ => 1
  | .nil => 1
  | .ptr d => uptoBulk d + 1
  | .slice elems spare => uptoBulkAll elems + uptoBulkAll spare + 1
  | .agg parts => uptoBulkAll parts + 1
  | .iface _ d => uptoBulk d + 1
  | .map entries => uptoBulkEntries entries + 1
  | .held _ => 1
def uptoBulkAll {H : Type} : List (DataW H) → Nat
  | [] => 0
  | d :: r => uptoBulk d + uptoBulkAll r
def uptoBulkEntries {H : Type} : List (Lit × DataW H) → Nat
  | [] => 0
  | x :: r => uptoBulkEntry x + uptoBulkEntries r
def uptoBulkEntry {H : Type} : Lit × DataW H → Nat
  | (.string bytes, d) => bytes.length + uptoBulk d + 1
  | (_, d) => uptoBulk d + 1
 end
def uptoSmall : (H : Type) → List (DataW H) → Bool := fun _ ds => decide (uptoBulkAll ds ≤ 1048576)
def OpenSpec.upto (s : _root_.Go.ChangeSpec) : _root_.Go.OpenSpec := { _root_.Go.OpenSpec.ofChange s with cond := some uptoSmall }

/-- 'laws.FnTrie', WHERE WHAT IT READS IS OF BULK AT MOST 1048576: true; the input reads as it did. -/
def fnTrieUptoRow : OpenClaim := { program := "ytommeaklnndcnaadoor", sum := "13298d793be5b89ae0f12263d507017c5f1779294c5ab8aad8785ae1c8a055eb", func := "loop.example/g00044/laws.FnTrie", spec := "fnTrie", unfollowed := true, recurses := true, named := ["internal/strconv.uint64pow10", "math/bits.deBruijn32tab", "math/bits.deBruijn64tab"], plainKeys := false, apart := false, laid := [("math/bits.deBruijn32tab", laid_math_bits_deBruijn32tab), ("math/bits.deBruijn64tab", laid_math_bits_deBruijn64tab), ("internal/strconv.uint64pow10", laid_internal_strconv_uint64pow10)], narrowed := true }
def FnTrieUptoSaid : Prop := fnTrieUptoRow.holds Tryd.pinned (OpenSpec.upto fnTrieSpec)

/-- 'laws.FnCases', WHERE WHAT IT READS IS OF BULK AT MOST 1048576: true; the input reads as it did. -/
def fnCasesUptoRow : OpenClaim := { program := "ytommeaklnndcnaadoor", sum := "13298d793be5b89ae0f12263d507017c5f1779294c5ab8aad8785ae1c8a055eb", func := "loop.example/g00044/laws.FnCases", spec := "fnCases", unfollowed := true, recurses := true, named := ["loop.example/g00044/impl.caseBlocks"], plainKeys := false, apart := false, laid := [("loop.example/g00044/impl.caseBlocks", laid_loop_example_g00044_impl_caseBlocks)], narrowed := true }
def FnCasesUptoSaid : Prop := fnCasesUptoRow.holds Tryd.pinned (OpenSpec.upto fnCasesSpec)

/-- 'laws.FnChars', WHERE WHAT IT READS IS OF BULK AT MOST 1048576: true; the input reads as it did. -/
def fnCharsUptoRow : OpenClaim := { program := "ytommeaklnndcnaadoor", sum := "13298d793be5b89ae0f12263d507017c5f1779294c5ab8aad8785ae1c8a055eb", func := "loop.example/g00044/laws.FnChars", spec := "fnChars", unfollowed := true, recurses := true, named := ["loop.example/g00044/impl.repertoire"], plainKeys := false, apart := false, laid := [("loop.example/g00044/impl.repertoire", laid_loop_example_g00044_impl_repertoire)], narrowed := true }
def FnCharsUptoSaid : Prop := fnCharsUptoRow.holds Tryd.pinned (OpenSpec.upto fnCharsSpec)

/-- 'laws.FnExactSimpleLower', WHERE WHAT IT READS IS OF BULK AT MOST 1048576: true; the input reads as it did. -/
def fnExactSimpleLowerUptoRow : OpenClaim := { program := "ytommeaklnndcnaadoor", sum := "13298d793be5b89ae0f12263d507017c5f1779294c5ab8aad8785ae1c8a055eb", func := "loop.example/g00044/laws.FnExactSimpleLower", spec := "fnExactSimpleLower", named := ["loop.example/g00044/impl.caseBlocks"], plainKeys := false, apart := false, laid := [("loop.example/g00044/impl.caseBlocks", laid_loop_example_g00044_impl_caseBlocks)], narrowed := true }
def FnExactSimpleLowerUptoSaid : Prop := fnExactSimpleLowerUptoRow.holds Tryd.pinned (OpenSpec.upto fnExactSimpleLowerSpec)

/-- 'laws.FnExactSimpleUpper', WHERE WHAT IT READS IS OF BULK AT MOST 1048576: true; the input reads as it did. -/
def fnExactSimpleUpperUptoRow : OpenClaim := { program := "ytommeaklnndcnaadoor", sum := "13298d793be5b89ae0f12263d507017c5f1779294c5ab8aad8785ae1c8a055eb", func := "loop.example/g00044/laws.FnExactSimpleUpper", spec := "fnExactSimpleUpper", named := ["loop.example/g00044/impl.caseBlocks"], plainKeys := false, apart := false, laid := [("loop.example/g00044/impl.caseBlocks", laid_loop_example_g00044_impl_caseBlocks)], narrowed := true }
def FnExactSimpleUpperUptoSaid : Prop := fnExactSimpleUpperUptoRow.holds Tryd.pinned (OpenSpec.upto fnExactSimpleUpperSpec)

/-- 'laws.FnExactCasesOf', WHERE WHAT IT READS IS OF BULK AT MOST 1048576: true; the input reads as it did. -/
def fnExactCasesOfUptoRow : OpenClaim := { program := "ytommeaklnndcnaadoor", sum := "13298d793be5b89ae0f12263d507017c5f1779294c5ab8aad8785ae1c8a055eb", func := "loop.example/g00044/laws.FnExactCasesOf", spec := "fnExactCasesOf", recurses := true, named := ["loop.example/g00044/impl.caseBlocks"], plainKeys := false, apart := false, laid := [("loop.example/g00044/impl.caseBlocks", laid_loop_example_g00044_impl_caseBlocks)], narrowed := true }
def FnExactCasesOfUptoSaid : Prop := fnExactCasesOfUptoRow.holds Tryd.pinned (OpenSpec.upto fnExactCasesOfSpec)

/-- 'laws.FnExactCharCuts', WHERE WHAT IT READS IS OF BULK AT MOST 1048576: true; the input reads as it did. -/
def fnExactCharCutsUptoRow : OpenClaim := { program := "ytommeaklnndcnaadoor", sum := "13298d793be5b89ae0f12263d507017c5f1779294c5ab8aad8785ae1c8a055eb", func := "loop.example/g00044/laws.FnExactCharCuts", spec := "fnExactCharCuts", unfollowed := true, recurses := true, named := ["loop.example/g00044/impl.repertoire"], plainKeys := false, apart := false, laid := [("loop.example/g00044/impl.repertoire", laid_loop_example_g00044_impl_repertoire)], narrowed := true }
def FnExactCharCutsUptoSaid : Prop := fnExactCharCutsUptoRow.holds Tryd.pinned (OpenSpec.upto fnExactCharCutsSpec)

/-- 'laws.FnExactChars', WHERE WHAT IT READS IS OF BULK AT MOST 1048576: true; the input reads as it did. -/
def fnExactCharsUptoRow : OpenClaim := { program := "ytommeaklnndcnaadoor", sum := "13298d793be5b89ae0f12263d507017c5f1779294c5ab8aad8785ae1c8a055eb", func := "loop.example/g00044/laws.FnExactChars", spec := "fnExactChars", unfollowed := true, recurses := true, named := ["loop.example/g00044/impl.repertoire"], plainKeys := false, apart := false, laid := [("loop.example/g00044/impl.repertoire", laid_loop_example_g00044_impl_repertoire)], narrowed := true }
def FnExactCharsUptoSaid : Prop := fnExactCharsUptoRow.holds Tryd.pinned (OpenSpec.upto fnExactCharsSpec)

/-- 'laws.FnExactNextChar', WHERE WHAT IT READS IS OF BULK AT MOST 1048576: true; the input reads as it did. -/
def fnExactNextCharUptoRow : OpenClaim := { program := "ytommeaklnndcnaadoor", sum := "13298d793be5b89ae0f12263d507017c5f1779294c5ab8aad8785ae1c8a055eb", func := "loop.example/g00044/laws.FnExactNextChar", spec := "fnExactNextChar", unfollowed := true, recurses := true, named := ["loop.example/g00044/impl.repertoire"], plainKeys := false, apart := false, laid := [("loop.example/g00044/impl.repertoire", laid_loop_example_g00044_impl_repertoire)], narrowed := true }
def FnExactNextCharUptoSaid : Prop := fnExactNextCharUptoRow.holds Tryd.pinned (OpenSpec.upto fnExactNextCharSpec)

/-- 'laws.FnExactLastChar', WHERE WHAT IT READS IS OF BULK AT MOST 1048576: true; the input reads as it did. -/
def fnExactLastCharUptoRow : OpenClaim := { program := "ytommeaklnndcnaadoor", sum := "13298d793be5b89ae0f12263d507017c5f1779294c5ab8aad8785ae1c8a055eb", func := "loop.example/g00044/laws.FnExactLastChar", spec := "fnExactLastChar", unfollowed := true, recurses := true, named := ["loop.example/g00044/impl.repertoire"], plainKeys := false, apart := false, laid := [("loop.example/g00044/impl.repertoire", laid_loop_example_g00044_impl_repertoire)], narrowed := true }
def FnExactLastCharUptoSaid : Prop := fnExactLastCharUptoRow.holds Tryd.pinned (OpenSpec.upto fnExactLastCharSpec)

/-- 'laws.FnExactWordCuts', WHERE WHAT IT READS IS OF BULK AT MOST 1048576: true; the input reads as it did. -/
def fnExactWordCutsUptoRow : OpenClaim := { program := "ytommeaklnndcnaadoor", sum := "13298d793be5b89ae0f12263d507017c5f1779294c5ab8aad8785ae1c8a055eb", func := "loop.example/g00044/laws.FnExactWordCuts", spec := "fnExactWordCuts", unfollowed := true, recurses := true, named := ["loop.example/g00044/impl.repertoire"], plainKeys := false, apart := false, laid := [("loop.example/g00044/impl.repertoire", laid_loop_example_g00044_impl_repertoire)], narrowed := true }
def FnExactWordCutsUptoSaid : Prop := fnExactWordCutsUptoRow.holds Tryd.pinned (OpenSpec.upto fnExactWordCutsSpec)

/-- 'laws.FnExactWords', WHERE WHAT IT READS IS OF BULK AT MOST 1048576: true; the input reads as it did. -/
def fnExactWordsUptoRow : OpenClaim := { program := "ytommeaklnndcnaadoor", sum := "13298d793be5b89ae0f12263d507017c5f1779294c5ab8aad8785ae1c8a055eb", func := "loop.example/g00044/laws.FnExactWords", spec := "fnExactWords", unfollowed := true, recurses := true, named := ["loop.example/g00044/impl.repertoire"], plainKeys := false, apart := false, laid := [("loop.example/g00044/impl.repertoire", laid_loop_example_g00044_impl_repertoire)], narrowed := true }
def FnExactWordsUptoSaid : Prop := fnExactWordsUptoRow.holds Tryd.pinned (OpenSpec.upto fnExactWordsSpec)

end Rows
end Go.Proofs.YtommeaklnndcnaaDoor
