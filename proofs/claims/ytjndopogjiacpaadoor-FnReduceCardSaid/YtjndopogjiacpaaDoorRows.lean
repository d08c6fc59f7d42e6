/-
  NARROWER THAN 'FOR EVERY INPUT', by the rows' own cells (each row's printed sentence says how): FnReduce: laid · FnExactStepsOf: laid · FnExactApplyStep: laid · FnExactFirstStep: laid · FnExactLastStep: laid · FnExactNormalForm: laid · FnExactFarForm: laid · FnExactIsReduced: laid · FnExactTraceOf: laid · FnExactRunSteps: laid · FnExactCountReached: laid.
  DERIVED. THE GIVEN ROWS OF THIS SEAT. 11 by the template 'for every input the law returns true; each argument reads behind the call as it read before'; 0 by the template 'total and deterministic' (their statements: YtjndopogjiacpaaDoorTotals.lean).
  GIVEN WITH THE SEED: the statements are not yours to turn. If you find one false, say at which input.
  Laid BY PROGRAM, IN A SANDBOX (cutbox-rows.mjs): the forced cells as the released guide's own fill.sh prints them over the translation 6c07f092529a77d6… (all of the seat's roots in one cut). By AI agents, Wed Nov 11 2026. No macro, syntax, notation, axiom, sorry.
-/
import Derived.Test.YtjndopogjiacpaaDoorChecked
import GoSem.Claim
import GoSem.ClaimJoined
import GoSem.ClaimMapViews
import Derived.JoinedTies
import Derived.KernelRfl
namespace Go.Proofs.YtjndopogjiacpaaDoor
/- THE CELL 'sum', in the pinned program and in every row, IS THE sha256 OF THE DUMP (.gsa) THAT YtjndopogjiacpaaDoorProg.lean LOADS. Nothing in Lean hashes anything: it is a label: what it is worth is what the hold of that sum in a sandbox is worth. -/
noncomputable def Tryd.pinned : Pinned := { name := "ytjndopogjiacpaadoor", sum := "6c07f092529a77d65178268e2390eaac59aa8fd91b4c539ff577d62b1d0ad75f", checked := Tryd.checked }
namespace Rows
def none {H : Type} : Left H := { results := [], args := [] }

/- WHAT THE LISTED PACKAGE-LEVEL VARIABLES READ AS WHEN THE CALL BEGINS. Each datum BY PROGRAM (the guide's laid-datum.mjs) off the statement by which the dump's own 'gosem.cut.vars' lays the variable. In a bare row this is a premise. The card (YtjndopogjiacpaaDoorCards.lean) ties it to the program's text. -/
def laid_loop_example_g03201_impl_letters {H : Type} : DataW H := .agg [.lit (.int .u8 97), .lit (.int .u8 98), .lit (.int .u8 99), .lit (.int .u8 100)]

/-- 'laws.FnReduce': WHATEVER THE INPUT: true; the input reads as it did. -/
def fnReduceSpec : ChangeSpec := { name := "fnReduce", vars := ["loop.example/g03201/impl.letters"], fn := fun _ => fun
  | [d, g1] => { results := [.lit (.bool true)], args := [d], vars := [g1] }
  | _ => none }
def fnReduceRow : OpenClaim := { program := "ytjndopogjiacpaadoor", sum := "6c07f092529a77d65178268e2390eaac59aa8fd91b4c539ff577d62b1d0ad75f", func := "loop.example/g03201/laws.FnReduce", spec := "fnReduce", unfollowed := true, recurses := true, named := ["loop.example/g03201/impl.letters"], apart := false, laid := [("loop.example/g03201/impl.letters", laid_loop_example_g03201_impl_letters)] }
def FnReduceSaid : Prop := fnReduceRow.holds Tryd.pinned (OpenSpec.ofChange fnReduceSpec)

/-- ITS FALSE NEIGHBOUR: 'it returns false'. Refute it at one input. -/
def fnReduceWrong : ChangeSpec := { name := "fnReduce", vars := ["loop.example/g03201/impl.letters"], fn := fun _ => fun
  | [d, g1] => { results := [.lit (.bool false)], args := [d], vars := [g1] }
  | _ => none }
def FnReduceWrongFalsely : Prop := fnReduceRow.holds Tryd.pinned (OpenSpec.ofChange fnReduceWrong)

/-- 'laws.FnExactStepsOf': WHATEVER THE INPUT: true; the input reads as it did. -/
def fnExactStepsOfSpec : ChangeSpec := { name := "fnExactStepsOf", vars := ["loop.example/g03201/impl.letters"], fn := fun _ => fun
  | [d1, d2, g1] => { results := [.lit (.bool true)], args := [d1, d2], vars := [g1] }
  | _ => none }
def fnExactStepsOfRow : OpenClaim := { program := "ytjndopogjiacpaadoor", sum := "6c07f092529a77d65178268e2390eaac59aa8fd91b4c539ff577d62b1d0ad75f", func := "loop.example/g03201/laws.FnExactStepsOf", spec := "fnExactStepsOf", unfollowed := true, recurses := true, named := ["loop.example/g03201/impl.letters"], apart := false, laid := [("loop.example/g03201/impl.letters", laid_loop_example_g03201_impl_letters)] }
def FnExactStepsOfSaid : Prop := fnExactStepsOfRow.holds Tryd.pinned (OpenSpec.ofChange fnExactStepsOfSpec)

/-- ITS FALSE NEIGHBOUR: 'it returns false'. Refute it at one input. -/
def fnExactStepsOfWrong : ChangeSpec := { name := "fnExactStepsOf", vars := ["loop.example/g03201/impl.letters"], fn := fun _ => fun
  | [d1, d2, g1] => { results := [.lit (.bool false)], args := [d1, d2], vars := [g1] }
  | _ => none }
def FnExactStepsOfWrongFalsely : Prop := fnExactStepsOfRow.holds Tryd.pinned (OpenSpec.ofChange fnExactStepsOfWrong)

/-- 'laws.FnExactApplyStep': WHATEVER THE INPUT: true; the input reads as it did. -/
def fnExactApplyStepSpec : ChangeSpec := { name := "fnExactApplyStep", vars := ["loop.example/g03201/impl.letters"], fn := fun _ => fun
  | [d1, d2, d3, g1] => { results := [.lit (.bool true)], args := [d1, d2, d3], vars := [g1] }
  | _ => none }
def fnExactApplyStepRow : OpenClaim := { program := "ytjndopogjiacpaadoor", sum := "6c07f092529a77d65178268e2390eaac59aa8fd91b4c539ff577d62b1d0ad75f", func := "loop.example/g03201/laws.FnExactApplyStep", spec := "fnExactApplyStep", named := ["loop.example/g03201/impl.letters"], apart := false, laid := [("loop.example/g03201/impl.letters", laid_loop_example_g03201_impl_letters)] }
def FnExactApplyStepSaid : Prop := fnExactApplyStepRow.holds Tryd.pinned (OpenSpec.ofChange fnExactApplyStepSpec)

/-- ITS FALSE NEIGHBOUR: 'it returns false'. Refute it at one input. -/
def fnExactApplyStepWrong : ChangeSpec := { name := "fnExactApplyStep", vars := ["loop.example/g03201/impl.letters"], fn := fun _ => fun
  | [d1, d2, d3, g1] => { results := [.lit (.bool false)], args := [d1, d2, d3], vars := [g1] }
  | _ => none }
def FnExactApplyStepWrongFalsely : Prop := fnExactApplyStepRow.holds Tryd.pinned (OpenSpec.ofChange fnExactApplyStepWrong)

/-- 'laws.FnExactFirstStep': WHATEVER THE INPUT: true; the input reads as it did. -/
def fnExactFirstStepSpec : ChangeSpec := { name := "fnExactFirstStep", vars := ["loop.example/g03201/impl.letters"], fn := fun _ => fun
  | [d1, d2, g1] => { results := [.lit (.bool true)], args := [d1, d2], vars := [g1] }
  | _ => none }
def fnExactFirstStepRow : OpenClaim := { program := "ytjndopogjiacpaadoor", sum := "6c07f092529a77d65178268e2390eaac59aa8fd91b4c539ff577d62b1d0ad75f", func := "loop.example/g03201/laws.FnExactFirstStep", spec := "fnExactFirstStep", unfollowed := true, recurses := true, named := ["loop.example/g03201/impl.letters"], apart := false, laid := [("loop.example/g03201/impl.letters", laid_loop_example_g03201_impl_letters)] }
def FnExactFirstStepSaid : Prop := fnExactFirstStepRow.holds Tryd.pinned (OpenSpec.ofChange fnExactFirstStepSpec)

/-- ITS FALSE NEIGHBOUR: 'it returns false'. Refute it at one input. -/
def fnExactFirstStepWrong : ChangeSpec := { name := "fnExactFirstStep", vars := ["loop.example/g03201/impl.letters"], fn := fun _ => fun
  | [d1, d2, g1] => { results := [.lit (.bool false)], args := [d1, d2], vars := [g1] }
  | _ => none }
def FnExactFirstStepWrongFalsely : Prop := fnExactFirstStepRow.holds Tryd.pinned (OpenSpec.ofChange fnExactFirstStepWrong)

/-- 'laws.FnExactLastStep': WHATEVER THE INPUT: true; the input reads as it did. -/
def fnExactLastStepSpec : ChangeSpec := { name := "fnExactLastStep", vars := ["loop.example/g03201/impl.letters"], fn := fun _ => fun
  | [d1, d2, g1] => { results := [.lit (.bool true)], args := [d1, d2], vars := [g1] }
  | _ => none }
def fnExactLastStepRow : OpenClaim := { program := "ytjndopogjiacpaadoor", sum := "6c07f092529a77d65178268e2390eaac59aa8fd91b4c539ff577d62b1d0ad75f", func := "loop.example/g03201/laws.FnExactLastStep", spec := "fnExactLastStep", unfollowed := true, recurses := true, named := ["loop.example/g03201/impl.letters"], apart := false, laid := [("loop.example/g03201/impl.letters", laid_loop_example_g03201_impl_letters)] }
def FnExactLastStepSaid : Prop := fnExactLastStepRow.holds Tryd.pinned (OpenSpec.ofChange fnExactLastStepSpec)

/-- ITS FALSE NEIGHBOUR: 'it returns false'. Refute it at one input. -/
def fnExactLastStepWrong : ChangeSpec := { name := "fnExactLastStep", vars := ["loop.example/g03201/impl.letters"], fn := fun _ => fun
  | [d1, d2, g1] => { results := [.lit (.bool false)], args := [d1, d2], vars := [g1] }
  | _ => none }
def FnExactLastStepWrongFalsely : Prop := fnExactLastStepRow.holds Tryd.pinned (OpenSpec.ofChange fnExactLastStepWrong)

/-- 'laws.FnExactNormalForm': WHATEVER THE INPUT: true; the input reads as it did. -/
def fnExactNormalFormSpec : ChangeSpec := { name := "fnExactNormalForm", vars := ["loop.example/g03201/impl.letters"], fn := fun _ => fun
  | [d1, d2, g1] => { results := [.lit (.bool true)], args := [d1, d2], vars := [g1] }
  | _ => none }
def fnExactNormalFormRow : OpenClaim := { program := "ytjndopogjiacpaadoor", sum := "6c07f092529a77d65178268e2390eaac59aa8fd91b4c539ff577d62b1d0ad75f", func := "loop.example/g03201/laws.FnExactNormalForm", spec := "fnExactNormalForm", unfollowed := true, recurses := true, named := ["loop.example/g03201/impl.letters"], apart := false, laid := [("loop.example/g03201/impl.letters", laid_loop_example_g03201_impl_letters)] }
def FnExactNormalFormSaid : Prop := fnExactNormalFormRow.holds Tryd.pinned (OpenSpec.ofChange fnExactNormalFormSpec)

/-- ITS FALSE NEIGHBOUR: 'it returns false'. Refute it at one input. -/
def fnExactNormalFormWrong : ChangeSpec := { name := "fnExactNormalForm", vars := ["loop.example/g03201/impl.letters"], fn := fun _ => fun
  | [d1, d2, g1] => { results := [.lit (.bool false)], args := [d1, d2], vars := [g1] }
  | _ => none }
def FnExactNormalFormWrongFalsely : Prop := fnExactNormalFormRow.holds Tryd.pinned (OpenSpec.ofChange fnExactNormalFormWrong)

/-- 'laws.FnExactFarForm': WHATEVER THE INPUT: true; the input reads as it did. -/
def fnExactFarFormSpec : ChangeSpec := { name := "fnExactFarForm", vars := ["loop.example/g03201/impl.letters"], fn := fun _ => fun
  | [d1, d2, g1] => { results := [.lit (.bool true)], args := [d1, d2], vars := [g1] }
  | _ => none }
def fnExactFarFormRow : OpenClaim := { program := "ytjndopogjiacpaadoor", sum := "6c07f092529a77d65178268e2390eaac59aa8fd91b4c539ff577d62b1d0ad75f", func := "loop.example/g03201/laws.FnExactFarForm", spec := "fnExactFarForm", unfollowed := true, recurses := true, named := ["loop.example/g03201/impl.letters"], apart := false, laid := [("loop.example/g03201/impl.letters", laid_loop_example_g03201_impl_letters)] }
def FnExactFarFormSaid : Prop := fnExactFarFormRow.holds Tryd.pinned (OpenSpec.ofChange fnExactFarFormSpec)

/-- ITS FALSE NEIGHBOUR: 'it returns false'. Refute it at one input. -/
def fnExactFarFormWrong : ChangeSpec := { name := "fnExactFarForm", vars := ["loop.example/g03201/impl.letters"], fn := fun _ => fun
  | [d1, d2, g1] => { results := [.lit (.bool false)], args := [d1, d2], vars := [g1] }
  | _ => none }
def FnExactFarFormWrongFalsely : Prop := fnExactFarFormRow.holds Tryd.pinned (OpenSpec.ofChange fnExactFarFormWrong)

/-- 'laws.FnExactIsReduced': WHATEVER THE INPUT: true; the input reads as it did. -/
def fnExactIsReducedSpec : ChangeSpec := { name := "fnExactIsReduced", vars := ["loop.example/g03201/impl.letters"], fn := fun _ => fun
  | [d1, d2, g1] => { results := [.lit (.bool true)], args := [d1, d2], vars := [g1] }
  | _ => none }
def fnExactIsReducedRow : OpenClaim := { program := "ytjndopogjiacpaadoor", sum := "6c07f092529a77d65178268e2390eaac59aa8fd91b4c539ff577d62b1d0ad75f", func := "loop.example/g03201/laws.FnExactIsReduced", spec := "fnExactIsReduced", unfollowed := true, recurses := true, named := ["loop.example/g03201/impl.letters"], apart := false, laid := [("loop.example/g03201/impl.letters", laid_loop_example_g03201_impl_letters)] }
def FnExactIsReducedSaid : Prop := fnExactIsReducedRow.holds Tryd.pinned (OpenSpec.ofChange fnExactIsReducedSpec)

/-- ITS FALSE NEIGHBOUR: 'it returns false'. Refute it at one input. -/
def fnExactIsReducedWrong : ChangeSpec := { name := "fnExactIsReduced", vars := ["loop.example/g03201/impl.letters"], fn := fun _ => fun
  | [d1, d2, g1] => { results := [.lit (.bool false)], args := [d1, d2], vars := [g1] }
  | _ => none }
def FnExactIsReducedWrongFalsely : Prop := fnExactIsReducedRow.holds Tryd.pinned (OpenSpec.ofChange fnExactIsReducedWrong)

/-- 'laws.FnExactTraceOf': WHATEVER THE INPUT: true; the input reads as it did. -/
def fnExactTraceOfSpec : ChangeSpec := { name := "fnExactTraceOf", vars := ["loop.example/g03201/impl.letters"], fn := fun _ => fun
  | [d1, d2, g1] => { results := [.lit (.bool true)], args := [d1, d2], vars := [g1] }
  | _ => none }
def fnExactTraceOfRow : OpenClaim := { program := "ytjndopogjiacpaadoor", sum := "6c07f092529a77d65178268e2390eaac59aa8fd91b4c539ff577d62b1d0ad75f", func := "loop.example/g03201/laws.FnExactTraceOf", spec := "fnExactTraceOf", unfollowed := true, recurses := true, named := ["loop.example/g03201/impl.letters"], apart := false, laid := [("loop.example/g03201/impl.letters", laid_loop_example_g03201_impl_letters)] }
def FnExactTraceOfSaid : Prop := fnExactTraceOfRow.holds Tryd.pinned (OpenSpec.ofChange fnExactTraceOfSpec)

/-- ITS FALSE NEIGHBOUR: 'it returns false'. Refute it at one input. -/
def fnExactTraceOfWrong : ChangeSpec := { name := "fnExactTraceOf", vars := ["loop.example/g03201/impl.letters"], fn := fun _ => fun
  | [d1, d2, g1] => { results := [.lit (.bool false)], args := [d1, d2], vars := [g1] }
  | _ => none }
def FnExactTraceOfWrongFalsely : Prop := fnExactTraceOfRow.holds Tryd.pinned (OpenSpec.ofChange fnExactTraceOfWrong)

/-- 'laws.FnExactRunSteps': WHATEVER THE INPUT: true; the input reads as it did. -/
def fnExactRunStepsSpec : ChangeSpec := { name := "fnExactRunSteps", vars := ["loop.example/g03201/impl.letters"], fn := fun _ => fun
  | [d1, d2, d3, g1] => { results := [.lit (.bool true)], args := [d1, d2, d3], vars := [g1] }
  | _ => none }
def fnExactRunStepsRow : OpenClaim := { program := "ytjndopogjiacpaadoor", sum := "6c07f092529a77d65178268e2390eaac59aa8fd91b4c539ff577d62b1d0ad75f", func := "loop.example/g03201/laws.FnExactRunSteps", spec := "fnExactRunSteps", named := ["loop.example/g03201/impl.letters"], apart := false, laid := [("loop.example/g03201/impl.letters", laid_loop_example_g03201_impl_letters)] }
def FnExactRunStepsSaid : Prop := fnExactRunStepsRow.holds Tryd.pinned (OpenSpec.ofChange fnExactRunStepsSpec)

/-- ITS FALSE NEIGHBOUR: 'it returns false'. Refute it at one input. -/
def fnExactRunStepsWrong : ChangeSpec := { name := "fnExactRunSteps", vars := ["loop.example/g03201/impl.letters"], fn := fun _ => fun
  | [d1, d2, d3, g1] => { results := [.lit (.bool false)], args := [d1, d2, d3], vars := [g1] }
  | _ => none }
def FnExactRunStepsWrongFalsely : Prop := fnExactRunStepsRow.holds Tryd.pinned (OpenSpec.ofChange fnExactRunStepsWrong)

/-- 'laws.FnExactCountReached': WHATEVER THE INPUT: true; the input reads as it did. -/
def fnExactCountReachedSpec : ChangeSpec := { name := "fnExactCountReached", vars := ["loop.example/g03201/impl.letters"], fn := fun _ => fun
  | [d1, d2, g1] => { results := [.lit (.bool true)], args := [d1, d2], vars := [g1] }
  | _ => none }
def fnExactCountReachedRow : OpenClaim := { program := "ytjndopogjiacpaadoor", sum := "6c07f092529a77d65178268e2390eaac59aa8fd91b4c539ff577d62b1d0ad75f", func := "loop.example/g03201/laws.FnExactCountReached", spec := "fnExactCountReached", unfollowed := true, recurses := true, named := ["loop.example/g03201/impl.letters"], apart := false, laid := [("loop.example/g03201/impl.letters", laid_loop_example_g03201_impl_letters)] }
def FnExactCountReachedSaid : Prop := fnExactCountReachedRow.holds Tryd.pinned (OpenSpec.ofChange fnExactCountReachedSpec)

/-- ITS FALSE NEIGHBOUR: 'it returns false'. Refute it at one input. -/
def fnExactCountReachedWrong : ChangeSpec := { name := "fnExactCountReached", vars := ["loop.example/g03201/impl.letters"], fn := fun _ => fun
  | [d1, d2, g1] => { results := [.lit (.bool false)], args := [d1, d2], vars := [g1] }
  | _ => none }
def FnExactCountReachedWrongFalsely : Prop := fnExactCountReachedRow.holds Tryd.pinned (OpenSpec.ofChange fnExactCountReachedWrong)

/- THE SECOND FORM. 'bulk': how many values and letters a reading holds, each counted each time it is reached (what is shared counts as often as it is met; a slice's spare places count too). A statement '..UptoSaid' is the law's where the arguments, and the package variables that the reading takes, are together of bulk at most 1048576: NARROWER than '..Said'. Prove '..Said' where nothing that the law and all that it calls make is longer than what came in: it says more and counts as full. Else prove '..UptoSaid'. A law counts once. -/
mutual
def uptoBulk {H : Type} : DataW H → Nat
  | .lit (.string bytes) => bytes.length + 1
  | .lit _ => 1
  | .nil => 1
  | .ptr d => uptoBulk d + 1
  | .slice elems spare => uptoBulkAll elems + uptoBulkAll spare + 1
  | .agg parts => uptoBulkAll parts + 1
  | .iface _ d => uptoBulk d + 1
  | .map entries => uptoBulkEntries entries + 1
  | .held _ => 1
def uptoBulkAll {H : Type} : List (DataW H) → Nat
  | [] => 0
  | d :: r => uptoBulk d + uptoBulkAll r
def uptoBulkEntries {H : Type} : List (Lit × DataW H) → Nat
  | [] => 0
  | x :: r => uptoBulkEntry x + uptoBulkEntries r
def uptoBulkEntry {H : Type} : Lit × DataW H → Nat
  | (.string bytes, d) => bytes.length + uptoBulk d + 1
  | (_, d) => uptoBulk d + 1
 end
def uptoSmall : (H : Type) → List (DataW H) → Bool := fun _ ds => decide (uptoBulkAll ds ≤ 1048576)
def OpenSpec.upto (s : _root_.Go.ChangeSpec) : _root_.Go.OpenSpec := { _root_.Go.OpenSpec.ofChange s with cond := some uptoSmall }

/-- 'laws.FnReduce', WHERE WHAT IT READS IS OF BULK AT MOST 1048576: true; the input reads as it did. -/
def fnReduceUptoRow : OpenClaim := { program := "ytjndopogjiacpaadoor", sum := "6c07f092529a77d65178268e2390eaac59aa8fd91b4c539ff577d62b1d0ad75f", func := "loop.example/g03201/laws.FnReduce", spec := "fnReduce", unfollowed := true, recurses := true, named := ["loop.example/g03201/impl.letters"], apart := false, laid := [("loop.example/g03201/impl.letters", laid_loop_example_g03201_impl_letters)], narrowed := true }
def FnReduceUptoSaid : Prop := fnReduceUptoRow.holds Tryd.pinned (OpenSpec.upto fnReduceSpec)

/-- 'laws.FnExactStepsOf', WHERE WHAT IT READS IS OF BULK AT MOST 1048576: true; the input reads as it did. -/
def fnExactStepsOfUptoRow : OpenClaim := { program := "ytjndopogjiacpaadoor", sum := "6c07f092529a77d65178268e2390eaac59aa8fd91b4c539ff577d62b1d0ad75f", func := "loop.example/g03201/laws.FnExactStepsOf", spec := "fnExactStepsOf", unfollowed := true, recurses := true, named := ["loop.example/g03201/impl.letters"], apart := false, laid := [("loop.example/g03201/impl.letters", laid_loop_example_g03201_impl_letters)], narrowed := true }
def FnExactStepsOfUptoSaid : Prop := fnExactStepsOfUptoRow.holds Tryd.pinned (OpenSpec.upto fnExactStepsOfSpec)

/-- 'laws.FnExactApplyStep', WHERE WHAT IT READS IS OF BULK AT MOST 1048576: true; the input reads as it did. -/
def fnExactApplyStepUptoRow : OpenClaim := { program := "ytjndopogjiacpaadoor", sum := "6c07f092529a77d65178268e2390eaac59aa8fd91b4c539ff577d62b1d0ad75f", func := "loop.example/g03201/laws.FnExactApplyStep", spec := "fnExactApplyStep", named := ["loop.example/g03201/impl.letters"], apart := false, laid := [("loop.example/g03201/impl.letters", laid_loop_example_g03201_impl_letters)], narrowed := true }
def FnExactApplyStepUptoSaid : Prop := fnExactApplyStepUptoRow.holds Tryd.pinned (OpenSpec.upto fnExactApplyStepSpec)

/-- 'laws.FnExactFirstStep', WHERE WHAT IT READS IS OF BULK AT MOST 1048576: true; the input reads as it did. -/
def fnExactFirstStepUptoRow : OpenClaim := { program := "ytjndopogjiacpaadoor", sum := "6c07f092529a77d65178268e2390eaac59aa8fd91b4c539ff577d62b1d0ad75f", func := "loop.example/g03201/laws.FnExactFirstStep", spec := "fnExactFirstStep", unfollowed := true, recurses := true, named := ["loop.example/g03201/impl.letters"], apart := false, laid := [("loop.example/g03201/impl.letters", laid_loop_example_g03201_impl_letters)], narrowed := true }
def FnExactFirstStepUptoSaid : Prop := fnExactFirstStepUptoRow.holds Tryd.pinned (OpenSpec.upto fnExactFirstStepSpec)

/-- 'laws.FnExactLastStep', WHERE WHAT IT READS IS OF BULK AT MOST 1048576: true; the input reads as it did. -/
def fnExactLastStepUptoRow : OpenClaim := { program := "ytjndopogjiacpaadoor", sum := "6c07f092529a77d65178268e2390eaac59aa8fd91b4c539ff577d62b1d0ad75f", func := "loop.example/g03201/laws.FnExactLastStep", spec := "fnExactLastStep", unfollowed := true, recurses := true, named := ["loop.example/g03201/impl.letters"], apart := false, laid := [("loop.example/g03201/impl.letters", laid_loop_example_g03201_impl_letters)], narrowed := true }
def FnExactLastStepUptoSaid : Prop := fnExactLastStepUptoRow.holds Tryd.pinned (OpenSpec.upto fnExactLastStepSpec)

/-- 'laws.FnExactNormalForm', WHERE WHAT IT READS IS OF BULK AT MOST 1048576: true; the input reads as it did. -/
def fnExactNormalFormUptoRow : OpenClaim := { program := "ytjndopogjiacpaadoor", sum := "6c07f092529a77d65178268e2390eaac59aa8fd91b4c539ff577d62b1d0ad75f", func := "loop.example/g03201/laws.FnExactNormalForm", spec := "fnExactNormalForm", unfollowed := true, recurses := true, named := ["loop.example/g03201/impl.letters"], apart := false, laid := [("loop.example/g03201/impl.letters", laid_loop_example_g03201_impl_letters)], narrowed := true }
def FnExactNormalFormUptoSaid : Prop := fnExactNormalFormUptoRow.holds Tryd.pinned (OpenSpec.upto fnExactNormalFormSpec)

/-- 'laws.FnExactFarForm', WHERE WHAT IT READS IS OF BULK AT MOST 1048576: true; the input reads as it did. -/
def fnExactFarFormUptoRow : OpenClaim := { program := "ytjndopogjiacpaadoor", sum := "6c07f092529a77d65178268e2390eaac59aa8fd91b4c539ff577d62b1d0ad75f", func := "loop.example/g03201/laws.FnExactFarForm", spec := "fnExactFarForm", unfollowed := true, recurses := true, named := ["loop.example/g03201/impl.letters"], apart := false, laid := [("loop.example/g03201/impl.letters", laid_loop_example_g03201_impl_letters)], narrowed := true }
def FnExactFarFormUptoSaid : Prop := fnExactFarFormUptoRow.holds Tryd.pinned (OpenSpec.upto fnExactFarFormSpec)

/-- 'laws.FnExactIsReduced', WHERE WHAT IT READS IS OF BULK AT MOST 1048576: true; the input reads as it did. -/
def fnExactIsReducedUptoRow : OpenClaim := { program := "ytjndopogjiacpaadoor", sum := "6c07f092529a77d65178268e2390eaac59aa8fd91b4c539ff577d62b1d0ad75f", func := "loop.example/g03201/laws.FnExactIsReduced", spec := "fnExactIsReduced", unfollowed := true, recurses := true, named := ["loop.example/g03201/impl.letters"], apart := false, laid := [("loop.example/g03201/impl.letters", laid_loop_example_g03201_impl_letters)], narrowed := true }
def FnExactIsReducedUptoSaid : Prop := fnExactIsReducedUptoRow.holds Tryd.pinned (OpenSpec.upto fnExactIsReducedSpec)

/-- 'laws.FnExactTraceOf', WHERE WHAT IT READS IS OF BULK AT MOST 1048576: true; the input reads as it did. -/
def fnExactTraceOfUptoRow : OpenClaim := { program := "ytjndopogjiacpaadoor", sum := "6c07f092529a77d65178268e2390eaac59aa8fd91b4c539ff577d62b1d0ad75f", func := "loop.example/g03201/laws.FnExactTraceOf", spec := "fnExactTraceOf", unfollowed := true, recurses := true, named := ["loop.example/g03201/impl.letters"], apart := false, laid := [("loop.example/g03201/impl.letters", laid_loop_example_g03201_impl_letters)], narrowed := true }
def FnExactTraceOfUptoSaid : Prop := fnExactTraceOfUptoRow.holds Tryd.pinned (OpenSpec.upto fnExactTraceOfSpec)

/-- 'laws.FnExactRunSteps', WHERE WHAT IT READS IS OF BULK AT MOST 1048576: true; the input reads as it did. -/
def fnExactRunStepsUptoRow : OpenClaim := { program := "ytjndopogjiacpaadoor", sum := "6c07f092529a77d65178268e2390eaac59aa8fd91b4c539ff577d62b1d0ad75f", func := "loop.example/g03201/laws.FnExactRunSteps", spec := "fnExactRunSteps", named := ["loop.example/g03201/impl.letters"], apart := false, laid := [("loop.example/g03201/impl.letters", laid_loop_example_g03201_impl_letters)], narrowed := true }
def FnExactRunStepsUptoSaid : Prop := fnExactRunStepsUptoRow.holds Tryd.pinned (OpenSpec.upto fnExactRunStepsSpec)

/-- 'laws.FnExactCountReached', WHERE WHAT IT READS IS OF BULK AT MOST 1048576: true; the input reads as it did. -/
def fnExactCountReachedUptoRow : OpenClaim := { program := "ytjndopogjiacpaadoor", sum := "6c07f092529a77d65178268e2390eaac59aa8fd91b4c539ff577d62b1d0ad75f", func := "loop.example/g03201/laws.FnExactCountReached", spec := "fnExactCountReached", unfollowed := true, recurses := true, named := ["loop.example/g03201/impl.letters"], apart := false, laid := [("loop.example/g03201/impl.letters", laid_loop_example_g03201_impl_letters)], narrowed := true }
def FnExactCountReachedUptoSaid : Prop := fnExactCountReachedUptoRow.holds Tryd.pinned (OpenSpec.upto fnExactCountReachedSpec)

end Rows
end Go.Proofs.YtjndopogjiacpaaDoor
