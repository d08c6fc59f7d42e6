/-
  NARROWER THAN 'FOR EVERY INPUT', by the rows' own cells (each row's printed sentence says how): FnExactSidesOk: laid · FnExactRulesOk: laid · FnExactSystemOk: laid · FnExactOrientRule: laid · FnExactMirrorSystem: laid · FnExactParseRule: laid · FnExactFormatSystem: laid · FnExactParseSystem: laid.
  DERIVED. THE GIVEN ROWS OF THIS SEAT. 8 by the template 'for every input the law returns true; each argument reads behind the call as it read before'; 0 by the template 'total and deterministic' (their statements: YtpmghdecfpfahaaDoorTotals.lean).
  GIVEN WITH THE SEED: the statements are not yours to turn. If you find one false, say at which input.
  Laid BY PROGRAM, IN A SANDBOX (cutbox-rows.mjs): the forced cells as the released guide's own fill.sh prints them over the translation fb6a78cd82507360… (all of the seat's roots in one cut). By AI agents, Wed Nov 11 2026. No macro, syntax, notation, axiom, sorry.
-/
import Derived.Test.YtpmghdecfpfahaaDoorChecked
import GoSem.Claim
import GoSem.ClaimJoined
import GoSem.ClaimMapViews
import Derived.JoinedTies
import Derived.KernelRfl
namespace Go.Proofs.YtpmghdecfpfahaaDoor
/- THE CELL 'sum', in the pinned program and in every row, IS THE sha256 OF THE DUMP (.gsa) THAT YtpmghdecfpfahaaDoorProg.lean LOADS. Nothing in Lean hashes anything: it is a label: what it is worth is what the hold of that sum in a sandbox is worth. -/
noncomputable def Tryd.pinned : Pinned := { name := "ytpmghdecfpfahaadoor", sum := "fb6a78cd82507360b0c23a42ef6fe10d888e8cb93b6d5812554719901319fbf5", checked := Tryd.checked }
namespace Rows
def none {H : Type} : Left H := { results := [], args := [] }

/- WHAT THE LISTED PACKAGE-LEVEL VARIABLES READ AS WHEN THE CALL BEGINS. Each datum BY PROGRAM (the guide's laid-datum.mjs) off the statement by which the dump's own 'gosem.cut.vars' lays the variable. In a bare row this is a premise. The card (YtpmghdecfpfahaaDoorCards.lean) ties it to the program's text. -/
def laid_loop_example_g03201_impl_letters {H : Type} : DataW H := .agg [.lit (.int .u8 97), .lit (.int .u8 98), .lit (.int .u8 99), .lit (.int .u8 100)]
def laid_math_bits_deBruijn32tab {H : Type} : DataW H := .agg [.lit (.int .u8 0), .lit (.int .u8 1), .lit (.int .u8 28), .lit (.int .u8 2), .lit (.int .u8 29), .lit (.int .u8 14), .lit (.int .u8 24), .lit (.int .u8 3), .lit (.int .u8 30), .lit (.int .u8 22), .lit (.int .u8 20), .lit (.int .u8 15), .lit (.int .u8 25), .lit (.int .u8 17), .lit (.int .u8 4), .lit (.int .u8 8), .lit (.int .u8 31), .lit (.int .u8 27), .lit (.int .u8 13), .lit (.int .u8 23), .lit (.int .u8 21), .lit (.int .u8 19), .lit (.int .u8 16), .lit (.int .u8 7), .lit (.int .u8 26), .lit (.int .u8 12), .lit (.int .u8 18), .lit (.int .u8 6), .lit (.int .u8 11), .lit (.int .u8 5), .lit (.int .u8 10), .lit (.int .u8 9)]
def laid_math_bits_deBruijn64tab {H : Type} : DataW H := .agg [.lit (.int .u8 0), .lit (.int .u8 1), .lit (.int .u8 56), .lit (.int .u8 2), .lit (.int .u8 57), .lit (.int .u8 49), .lit (.int .u8 28), .lit (.int .u8 3), .lit (.int .u8 61), .lit (.int .u8 58), .lit (.int .u8 42), .lit (.int .u8 50), .lit (.int .u8 38), .lit (.int .u8 29), .lit (.int .u8 17), .lit (.int .u8 4), .lit (.int .u8 62), .lit (.int .u8 47), .lit (.int .u8 59), .lit (.int .u8 36), .lit (.int .u8 45), .lit (.int .u8 43), .lit (.int .u8 51), .lit (.int .u8 22), .lit (.int .u8 53), .lit (.int .u8 39), .lit (.int .u8 33), .lit (.int .u8 30), .lit (.int .u8 24), .lit (.int .u8 18), .lit (.int .u8 12), .lit (.int .u8 5), .lit (.int .u8 63), .lit (.int .u8 55), .lit (.int .u8 48), .lit (.int .u8 27), .lit (.int .u8 60), .lit (.int .u8 41), .lit (.int .u8 37), .lit (.int .u8 16), .lit (.int .u8 46), .lit (.int .u8 35), .lit (.int .u8 44), .lit (.int .u8 21), .lit (.int .u8 52), .lit (.int .u8 32), .lit (.int .u8 23), .lit (.int .u8 11), .lit (.int .u8 54), .lit (.int .u8 26), .lit (.int .u8 40), .lit (.int .u8 15), .lit (.int .u8 34), .lit (.int .u8 20), .lit (.int .u8 31), .lit (.int .u8 10), .lit (.int .u8 25), .lit (.int .u8 14), .lit (.int .u8 19), .lit (.int .u8 9), .lit (.int .u8 13), .lit (.int .u8 8), .lit (.int .u8 7), .lit (.int .u8 6)]
def laid_internal_strconv_uint64pow10 {H : Type} : DataW H := .agg [.lit (.int .u64 1), .lit (.int .u64 10), .lit (.int .u64 100), .lit (.int .u64 1000), .lit (.int .u64 10000), .lit (.int .u64 100000), .lit (.int .u64 1000000), .lit (.int .u64 10000000), .lit (.int .u64 100000000), .lit (.int .u64 1000000000), .lit (.int .u64 10000000000), .lit (.int .u64 100000000000), .lit (.int .u64 1000000000000), .lit (.int .u64 10000000000000), .lit (.int .u64 100000000000000), .lit (.int .u64 1000000000000000), .lit (.int .u64 10000000000000000), .lit (.int .u64 100000000000000000), .lit (.int .u64 1000000000000000000), .lit (.int .u64 10000000000000000000)]
def laid_strconv_ErrRange {H : Type} : DataW H := .iface "*errors.errorString" (.ptr (.agg [.lit (.string [118, 97, 108, 117, 101, 32, 111, 117, 116, 32, 111, 102, 32, 114, 97, 110, 103, 101])]))
def laid_strconv_ErrSyntax {H : Type} : DataW H := .iface "*errors.errorString" (.ptr (.agg [.lit (.string [105, 110, 118, 97, 108, 105, 100, 32, 115, 121, 110, 116, 97, 120])]))

/-- 'laws.FnExactSidesOk': WHATEVER THE INPUT: true; the input reads as it did. -/
def fnExactSidesOkSpec : ChangeSpec := { name := "fnExactSidesOk", vars := ["loop.example/g03201/impl.letters"], fn := fun _ => fun
  | [d1, d2, g1] => { results := [.lit (.bool true)], args := [d1, d2], vars := [g1] }
  | _ => none }
def fnExactSidesOkRow : OpenClaim := { program := "ytpmghdecfpfahaadoor", sum := "fb6a78cd82507360b0c23a42ef6fe10d888e8cb93b6d5812554719901319fbf5", func := "loop.example/g03201/laws.FnExactSidesOk", spec := "fnExactSidesOk", named := ["loop.example/g03201/impl.letters"], apart := false, laid := [("loop.example/g03201/impl.letters", laid_loop_example_g03201_impl_letters)] }
def FnExactSidesOkSaid : Prop := fnExactSidesOkRow.holds Tryd.pinned (OpenSpec.ofChange fnExactSidesOkSpec)

/-- ITS FALSE NEIGHBOUR: 'it returns false'. Refute it at one input. -/
def fnExactSidesOkWrong : ChangeSpec := { name := "fnExactSidesOk", vars := ["loop.example/g03201/impl.letters"], fn := fun _ => fun
  | [d1, d2, g1] => { results := [.lit (.bool false)], args := [d1, d2], vars := [g1] }
  | _ => none }
def FnExactSidesOkWrongFalsely : Prop := fnExactSidesOkRow.holds Tryd.pinned (OpenSpec.ofChange fnExactSidesOkWrong)

/-- 'laws.FnExactRulesOk': WHATEVER THE INPUT: true; the input reads as it did. -/
def fnExactRulesOkSpec : ChangeSpec := { name := "fnExactRulesOk", vars := ["loop.example/g03201/impl.letters"], fn := fun _ => fun
  | [d, g1] => { results := [.lit (.bool true)], args := [d], vars := [g1] }
  | _ => none }
def fnExactRulesOkRow : OpenClaim := { program := "ytpmghdecfpfahaadoor", sum := "fb6a78cd82507360b0c23a42ef6fe10d888e8cb93b6d5812554719901319fbf5", func := "loop.example/g03201/laws.FnExactRulesOk", spec := "fnExactRulesOk", named := ["loop.example/g03201/impl.letters"], apart := false, laid := [("loop.example/g03201/impl.letters", laid_loop_example_g03201_impl_letters)] }
def FnExactRulesOkSaid : Prop := fnExactRulesOkRow.holds Tryd.pinned (OpenSpec.ofChange fnExactRulesOkSpec)

/-- ITS FALSE NEIGHBOUR: 'it returns false'. Refute it at one input. -/
def fnExactRulesOkWrong : ChangeSpec := { name := "fnExactRulesOk", vars := ["loop.example/g03201/impl.letters"], fn := fun _ => fun
  | [d, g1] => { results := [.lit (.bool false)], args := [d], vars := [g1] }
  | _ => none }
def FnExactRulesOkWrongFalsely : Prop := fnExactRulesOkRow.holds Tryd.pinned (OpenSpec.ofChange fnExactRulesOkWrong)

/-- 'laws.FnExactSystemOk': WHATEVER THE INPUT: true; the input reads as it did. -/
def fnExactSystemOkSpec : ChangeSpec := { name := "fnExactSystemOk", vars := ["loop.example/g03201/impl.letters"], fn := fun _ => fun
  | [d, g1] => { results := [.lit (.bool true)], args := [d], vars := [g1] }
  | _ => none }
def fnExactSystemOkRow : OpenClaim := { program := "ytpmghdecfpfahaadoor", sum := "fb6a78cd82507360b0c23a42ef6fe10d888e8cb93b6d5812554719901319fbf5", func := "loop.example/g03201/laws.FnExactSystemOk", spec := "fnExactSystemOk", named := ["loop.example/g03201/impl.letters"], apart := false, laid := [("loop.example/g03201/impl.letters", laid_loop_example_g03201_impl_letters)] }
def FnExactSystemOkSaid : Prop := fnExactSystemOkRow.holds Tryd.pinned (OpenSpec.ofChange fnExactSystemOkSpec)

/-- ITS FALSE NEIGHBOUR: 'it returns false'. Refute it at one input. -/
def fnExactSystemOkWrong : ChangeSpec := { name := "fnExactSystemOk", vars := ["loop.example/g03201/impl.letters"], fn := fun _ => fun
  | [d, g1] => { results := [.lit (.bool false)], args := [d], vars := [g1] }
  | _ => none }
def FnExactSystemOkWrongFalsely : Prop := fnExactSystemOkRow.holds Tryd.pinned (OpenSpec.ofChange fnExactSystemOkWrong)

/-- 'laws.FnExactOrientRule': WHATEVER THE INPUT: true; the input reads as it did. -/
def fnExactOrientRuleSpec : ChangeSpec := { name := "fnExactOrientRule", vars := ["loop.example/g03201/impl.letters"], fn := fun _ => fun
  | [d1, d2, g1] => { results := [.lit (.bool true)], args := [d1, d2], vars := [g1] }
  | _ => none }
def fnExactOrientRuleRow : OpenClaim := { program := "ytpmghdecfpfahaadoor", sum := "fb6a78cd82507360b0c23a42ef6fe10d888e8cb93b6d5812554719901319fbf5", func := "loop.example/g03201/laws.FnExactOrientRule", spec := "fnExactOrientRule", named := ["loop.example/g03201/impl.letters"], apart := false, laid := [("loop.example/g03201/impl.letters", laid_loop_example_g03201_impl_letters)] }
def FnExactOrientRuleSaid : Prop := fnExactOrientRuleRow.holds Tryd.pinned (OpenSpec.ofChange fnExactOrientRuleSpec)

/-- ITS FALSE NEIGHBOUR: 'it returns false'. Refute it at one input. -/
def fnExactOrientRuleWrong : ChangeSpec := { name := "fnExactOrientRule", vars := ["loop.example/g03201/impl.letters"], fn := fun _ => fun
  | [d1, d2, g1] => { results := [.lit (.bool false)], args := [d1, d2], vars := [g1] }
  | _ => none }
def FnExactOrientRuleWrongFalsely : Prop := fnExactOrientRuleRow.holds Tryd.pinned (OpenSpec.ofChange fnExactOrientRuleWrong)

/-- 'laws.FnExactMirrorSystem': WHATEVER THE INPUT: true; the input reads as it did. -/
def fnExactMirrorSystemSpec : ChangeSpec := { name := "fnExactMirrorSystem", vars := ["loop.example/g03201/impl.letters"], fn := fun _ => fun
  | [d, g1] => { results := [.lit (.bool true)], args := [d], vars := [g1] }
  | _ => none }
def fnExactMirrorSystemRow : OpenClaim := { program := "ytpmghdecfpfahaadoor", sum := "fb6a78cd82507360b0c23a42ef6fe10d888e8cb93b6d5812554719901319fbf5", func := "loop.example/g03201/laws.FnExactMirrorSystem", spec := "fnExactMirrorSystem", named := ["loop.example/g03201/impl.letters"], apart := false, laid := [("loop.example/g03201/impl.letters", laid_loop_example_g03201_impl_letters)] }
def FnExactMirrorSystemSaid : Prop := fnExactMirrorSystemRow.holds Tryd.pinned (OpenSpec.ofChange fnExactMirrorSystemSpec)

/-- ITS FALSE NEIGHBOUR: 'it returns false'. Refute it at one input. -/
def fnExactMirrorSystemWrong : ChangeSpec := { name := "fnExactMirrorSystem", vars := ["loop.example/g03201/impl.letters"], fn := fun _ => fun
  | [d, g1] => { results := [.lit (.bool false)], args := [d], vars := [g1] }
  | _ => none }
def FnExactMirrorSystemWrongFalsely : Prop := fnExactMirrorSystemRow.holds Tryd.pinned (OpenSpec.ofChange fnExactMirrorSystemWrong)

/-- 'laws.FnExactParseRule': WHATEVER THE INPUT: true; the input reads as it did. -/
def fnExactParseRuleSpec : ChangeSpec := { name := "fnExactParseRule", vars := ["loop.example/g03201/impl.letters"], fn := fun _ => fun
  | [d, g1] => { results := [.lit (.bool true)], args := [d], vars := [g1] }
  | _ => none }
def fnExactParseRuleRow : OpenClaim := { program := "ytpmghdecfpfahaadoor", sum := "fb6a78cd82507360b0c23a42ef6fe10d888e8cb93b6d5812554719901319fbf5", func := "loop.example/g03201/laws.FnExactParseRule", spec := "fnExactParseRule", named := ["loop.example/g03201/impl.letters"], apart := false, laid := [("loop.example/g03201/impl.letters", laid_loop_example_g03201_impl_letters)] }
def FnExactParseRuleSaid : Prop := fnExactParseRuleRow.holds Tryd.pinned (OpenSpec.ofChange fnExactParseRuleSpec)

/-- ITS FALSE NEIGHBOUR: 'it returns false'. Refute it at one input. -/
def fnExactParseRuleWrong : ChangeSpec := { name := "fnExactParseRule", vars := ["loop.example/g03201/impl.letters"], fn := fun _ => fun
  | [d, g1] => { results := [.lit (.bool false)], args := [d], vars := [g1] }
  | _ => none }
def FnExactParseRuleWrongFalsely : Prop := fnExactParseRuleRow.holds Tryd.pinned (OpenSpec.ofChange fnExactParseRuleWrong)

/-- 'laws.FnExactFormatSystem': WHATEVER THE INPUT: true; the input reads as it did. -/
def fnExactFormatSystemSpec : ChangeSpec := { name := "fnExactFormatSystem", vars := ["loop.example/g03201/impl.letters"], fn := fun _ => fun
  | [d, g1] => { results := [.lit (.bool true)], args := [d], vars := [g1] }
  | _ => none }
def fnExactFormatSystemRow : OpenClaim := { program := "ytpmghdecfpfahaadoor", sum := "fb6a78cd82507360b0c23a42ef6fe10d888e8cb93b6d5812554719901319fbf5", func := "loop.example/g03201/laws.FnExactFormatSystem", spec := "fnExactFormatSystem", inPlace := ["internal/abi.NoEscape", "internal/bytealg.MakeNoZero"], recurses := true, named := ["loop.example/g03201/impl.letters", "internal/strconv.uint64pow10", "math/bits.deBruijn32tab", "math/bits.deBruijn64tab"], apart := false, laid := [("math/bits.deBruijn32tab", laid_math_bits_deBruijn32tab), ("math/bits.deBruijn64tab", laid_math_bits_deBruijn64tab), ("internal/strconv.uint64pow10", laid_internal_strconv_uint64pow10), ("loop.example/g03201/impl.letters", laid_loop_example_g03201_impl_letters)] }
def FnExactFormatSystemSaid : Prop := fnExactFormatSystemRow.holds Tryd.pinned (OpenSpec.ofChange fnExactFormatSystemSpec)

/-- ITS FALSE NEIGHBOUR: 'it returns false'. Refute it at one input. -/
def fnExactFormatSystemWrong : ChangeSpec := { name := "fnExactFormatSystem", vars := ["loop.example/g03201/impl.letters"], fn := fun _ => fun
  | [d, g1] => { results := [.lit (.bool false)], args := [d], vars := [g1] }
  | _ => none }
def FnExactFormatSystemWrongFalsely : Prop := fnExactFormatSystemRow.holds Tryd.pinned (OpenSpec.ofChange fnExactFormatSystemWrong)

/-- 'laws.FnExactParseSystem': WHATEVER THE INPUT: true; the input reads as it did. -/
def fnExactParseSystemSpec : ChangeSpec := { name := "fnExactParseSystem", vars := ["loop.example/g03201/impl.letters"], fn := fun _ => fun
  | [d, g1] => { results := [.lit (.bool true)], args := [d], vars := [g1] }
  | _ => none }
def fnExactParseSystemRow : OpenClaim := { program := "ytpmghdecfpfahaadoor", sum := "fb6a78cd82507360b0c23a42ef6fe10d888e8cb93b6d5812554719901319fbf5", func := "loop.example/g03201/laws.FnExactParseSystem", spec := "fnExactParseSystem", recurses := true, named := ["strconv.ErrSyntax", "strconv.ErrRange", "internal/strconv.uint64pow10", "math/bits.deBruijn32tab", "math/bits.deBruijn64tab", "loop.example/g03201/impl.letters"], apart := false, laid := [("math/bits.deBruijn32tab", laid_math_bits_deBruijn32tab), ("math/bits.deBruijn64tab", laid_math_bits_deBruijn64tab), ("internal/strconv.uint64pow10", laid_internal_strconv_uint64pow10), ("strconv.ErrRange", laid_strconv_ErrRange), ("strconv.ErrSyntax", laid_strconv_ErrSyntax), ("loop.example/g03201/impl.letters", laid_loop_example_g03201_impl_letters)] }
def FnExactParseSystemSaid : Prop := fnExactParseSystemRow.holds Tryd.pinned (OpenSpec.ofChange fnExactParseSystemSpec)

/-- ITS FALSE NEIGHBOUR: 'it returns false'. Refute it at one input. -/
def fnExactParseSystemWrong : ChangeSpec := { name := "fnExactParseSystem", vars := ["loop.example/g03201/impl.letters"], fn := fun _ => fun
  | [d, g1] => { results := [.lit (.bool false)], args := [d], vars := [g1] }
  | _ => none }
def FnExactParseSystemWrongFalsely : Prop := fnExactParseSystemRow.holds Tryd.pinned (OpenSpec.ofChange fnExactParseSystemWrong)

/- THE SECOND FORM. 'bulk': how many values and letters a reading holds, each counted each time it is reached (what is shared counts as often as it is met; a slice's spare places count too). A statement '..UptoSaid' is the law's where the arguments, and the package variables that the reading takes, are together of bulk at most 1048576: NARROWER than '..Said'. Prove '..Said' where nothing that the law and all that it calls make is longer than what came in: it says more and counts as full. Else prove '..UptoSaid'. A law counts once. -/
mutual
def uptoBulk {H : Type} : DataW H → Nat
  | .lit (.string bytes) => bytes.length + 1
  | .lit _ => 1
  | .nil => 1
  | .ptr d => uptoBulk d + 1
  | .slice elems spare => uptoBulkAll elems + uptoBulkAll spare + 1
  | .agg parts => uptoBulkAll parts + 1
  | .iface _ d => uptoBulk d + 1
  | .map entries => uptoBulkEntries entries + 1
  | .held _ => 1
def uptoBulkAll {H : Type} : List (DataW H) → Nat
  | [] => 0
  | d :: r => uptoBulk d + uptoBulkAll r
def uptoBulkEntries {H : Type} : List (Lit × DataW H) → Nat
  | [] => 0
  | x :: r => uptoBulkEntry x + uptoBulkEntries r
def uptoBulkEntry {H : Type} : Lit × DataW H → Nat
  | (.string bytes, d) => bytes.length + uptoBulk d + 1
  | (_, d) => uptoBulk d + 1
 end
def uptoSmall : (H : Type) → List (DataW H) → Bool := fun _ ds => decide (uptoBulkAll ds ≤ 1048576)
def OpenSpec.upto (s : _root_.Go.ChangeSpec) : _root_.Go.OpenSpec := { _root_.Go.OpenSpec.ofChange s with cond := some uptoSmall }

/-- 'laws.FnExactSidesOk', WHERE WHAT IT READS IS OF BULK AT MOST 1048576: true; the input reads as it did. -/
def fnExactSidesOkUptoRow : OpenClaim := { program := "ytpmghdecfpfahaadoor", sum := "fb6a78cd82507360b0c23a42ef6fe10d888e8cb93b6d5812554719901319fbf5", func := "loop.example/g03201/laws.FnExactSidesOk", spec := "fnExactSidesOk", named := ["loop.example/g03201/impl.letters"], apart := false, laid := [("loop.example/g03201/impl.letters", laid_loop_example_g03201_impl_letters)], narrowed := true }
def FnExactSidesOkUptoSaid : Prop := fnExactSidesOkUptoRow.holds Tryd.pinned (OpenSpec.upto fnExactSidesOkSpec)

/-- 'laws.FnExactRulesOk', WHERE WHAT IT READS IS OF BULK AT MOST 1048576: true; the input reads as it did. -/
def fnExactRulesOkUptoRow : OpenClaim := { program := "ytpmghdecfpfahaadoor", sum := "fb6a78cd82507360b0c23a42ef6fe10d888e8cb93b6d5812554719901319fbf5", func := "loop.example/g03201/laws.FnExactRulesOk", spec := "fnExactRulesOk", named := ["loop.example/g03201/impl.letters"], apart := false, laid := [("loop.example/g03201/impl.letters", laid_loop_example_g03201_impl_letters)], narrowed := true }
def FnExactRulesOkUptoSaid : Prop := fnExactRulesOkUptoRow.holds Tryd.pinned (OpenSpec.upto fnExactRulesOkSpec)

/-- 'laws.FnExactSystemOk', WHERE WHAT IT READS IS OF BULK AT MOST 1048576: true; the input reads as it did. -/
def fnExactSystemOkUptoRow : OpenClaim := { program := "ytpmghdecfpfahaadoor", sum := "fb6a78cd82507360b0c23a42ef6fe10d888e8cb93b6d5812554719901319fbf5", func := "loop.example/g03201/laws.FnExactSystemOk", spec := "fnExactSystemOk", named := ["loop.example/g03201/impl.letters"], apart := false, laid := [("loop.example/g03201/impl.letters", laid_loop_example_g03201_impl_letters)], narrowed := true }
def FnExactSystemOkUptoSaid : Prop := fnExactSystemOkUptoRow.holds Tryd.pinned (OpenSpec.upto fnExactSystemOkSpec)

/-- 'laws.FnExactOrientRule', WHERE WHAT IT READS IS OF BULK AT MOST 1048576: true; the input reads as it did. -/
def fnExactOrientRuleUptoRow : OpenClaim := { program := "ytpmghdecfpfahaadoor", sum := "fb6a78cd82507360b0c23a42ef6fe10d888e8cb93b6d5812554719901319fbf5", func := "loop.example/g03201/laws.FnExactOrientRule", spec := "fnExactOrientRule", named := ["loop.example/g03201/impl.letters"], apart := false, laid := [("loop.example/g03201/impl.letters", laid_loop_example_g03201_impl_letters)], narrowed := true }
def FnExactOrientRuleUptoSaid : Prop := fnExactOrientRuleUptoRow.holds Tryd.pinned (OpenSpec.upto fnExactOrientRuleSpec)

/-- 'laws.FnExactMirrorSystem', WHERE WHAT IT READS IS OF BULK AT MOST 1048576: true; the input reads as it did. -/
def fnExactMirrorSystemUptoRow : OpenClaim := { program := "ytpmghdecfpfahaadoor", sum := "fb6a78cd82507360b0c23a42ef6fe10d888e8cb93b6d5812554719901319fbf5", func := "loop.example/g03201/laws.FnExactMirrorSystem", spec := "fnExactMirrorSystem", named := ["loop.example/g03201/impl.letters"], apart := false, laid := [("loop.example/g03201/impl.letters", laid_loop_example_g03201_impl_letters)], narrowed := true }
def FnExactMirrorSystemUptoSaid : Prop := fnExactMirrorSystemUptoRow.holds Tryd.pinned (OpenSpec.upto fnExactMirrorSystemSpec)

/-- 'laws.FnExactParseRule', WHERE WHAT IT READS IS OF BULK AT MOST 1048576: true; the input reads as it did. -/
def fnExactParseRuleUptoRow : OpenClaim := { program := "ytpmghdecfpfahaadoor", sum := "fb6a78cd82507360b0c23a42ef6fe10d888e8cb93b6d5812554719901319fbf5", func := "loop.example/g03201/laws.FnExactParseRule", spec := "fnExactParseRule", named := ["loop.example/g03201/impl.letters"], apart := false, laid := [("loop.example/g03201/impl.letters", laid_loop_example_g03201_impl_letters)], narrowed := true }
def FnExactParseRuleUptoSaid : Prop := fnExactParseRuleUptoRow.holds Tryd.pinned (OpenSpec.upto fnExactParseRuleSpec)

/-- 'laws.FnExactFormatSystem', WHERE WHAT IT READS IS OF BULK AT MOST 1048576: true; the input reads as it did. -/
def fnExactFormatSystemUptoRow : OpenClaim := { program := "ytpmghdecfpfahaadoor", sum := "fb6a78cd82507360b0c23a42ef6fe10d888e8cb93b6d5812554719901319fbf5", func := "loop.example/g03201/laws.FnExactFormatSystem", spec := "fnExactFormatSystem", inPlace := ["internal/abi.NoEscape", "internal/bytealg.MakeNoZero"], recurses := true, named := ["loop.example/g03201/impl.letters", "internal/strconv.uint64pow10", "math/bits.deBruijn32tab", "math/bits.deBruijn64tab"], apart := false, laid := [("math/bits.deBruijn32tab", laid_math_bits_deBruijn32tab), ("math/bits.deBruijn64tab", laid_math_bits_deBruijn64tab), ("internal/strconv.uint64pow10", laid_internal_strconv_uint64pow10), ("loop.example/g03201/impl.letters", laid_loop_example_g03201_impl_letters)], narrowed := true }
def FnExactFormatSystemUptoSaid : Prop := fnExactFormatSystemUptoRow.holds Tryd.pinned (OpenSpec.upto fnExactFormatSystemSpec)

/-- 'laws.FnExactParseSystem', WHERE WHAT IT READS IS OF BULK AT MOST 1048576: true; the input reads as it did. -/
def fnExactParseSystemUptoRow : OpenClaim := { program := "ytpmghdecfpfahaadoor", sum := "fb6a78cd82507360b0c23a42ef6fe10d888e8cb93b6d5812554719901319fbf5", func := "loop.example/g03201/laws.FnExactParseSystem", spec := "fnExactParseSystem", recurses := true, named := ["strconv.ErrSyntax", "strconv.ErrRange", "internal/strconv.uint64pow10", "math/bits.deBruijn32tab", "math/bits.deBruijn64tab", "loop.example/g03201/impl.letters"], apart := false, laid := [("math/bits.deBruijn32tab", laid_math_bits_deBruijn32tab), ("math/bits.deBruijn64tab", laid_math_bits_deBruijn64tab), ("internal/strconv.uint64pow10", laid_internal_strconv_uint64pow10), ("strconv.ErrRange", laid_strconv_ErrRange), ("strconv.ErrSyntax", laid_strconv_ErrSyntax), ("loop.example/g03201/impl.letters", laid_loop_example_g03201_impl_letters)], narrowed := true }
def FnExactParseSystemUptoSaid : Prop := fnExactParseSystemUptoRow.holds Tryd.pinned (OpenSpec.upto fnExactParseSystemSpec)

end Rows
end Go.Proofs.YtpmghdecfpfahaaDoor
