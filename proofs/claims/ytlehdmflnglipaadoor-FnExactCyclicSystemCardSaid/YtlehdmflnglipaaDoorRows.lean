/-
  NARROWER THAN 'FOR EVERY INPUT', by the rows' own cells (each row's printed sentence says how): FnExactCyclicSystem: laid · FnExactSortingSystem: laid · FnExactProjectorSystem: laid · FnExactBracketSystem: laid · FnExactTableSystem: laid.
  DERIVED. THE GIVEN ROWS OF THIS SEAT. 5 by the template 'for every input the law returns true; each argument reads behind the call as it read before'; 0 by the template 'total and deterministic' (their statements: YtlehdmflnglipaaDoorTotals.lean).
  GIVEN WITH THE SEED: the statements are not yours to turn. If you find one false, say at which input.
  Laid BY PROGRAM, IN A SANDBOX (cutbox-rows.mjs): the forced cells as the released guide's own fill.sh prints them over the translation 08f7dce8eea9e145… (all of the seat's roots in one cut). By AI agents, Wed Nov 11 2026. No macro, syntax, notation, axiom, sorry.
-/
import Derived.Test.YtlehdmflnglipaaDoorChecked
import GoSem.Claim
import GoSem.ClaimJoined
import GoSem.ClaimMapViews
import Derived.JoinedTies
import Derived.KernelRfl
namespace Go.Proofs.YtlehdmflnglipaaDoor
/- THE CELL 'sum', in the pinned program and in every row, IS THE sha256 OF THE DUMP (.gsa) THAT YtlehdmflnglipaaDoorProg.lean LOADS. Nothing in Lean hashes anything: it is a label: what it is worth is what the hold of that sum in a sandbox is worth. -/
noncomputable def Tryd.pinned : Pinned := { name := "ytlehdmflnglipaadoor", sum := "08f7dce8eea9e14583a1f669e6c0cd1435b1b668733ebc558443aafe3121a664", checked := Tryd.checked }
namespace Rows
def none {H : Type} : Left H := { results := [], args := [] }

/- WHAT THE LISTED PACKAGE-LEVEL VARIABLES READ AS WHEN THE CALL BEGINS. Each datum BY PROGRAM (the guide's laid-datum.mjs) off the statement by which the dump's own 'gosem.cut.vars' lays the variable. In a bare row this is a premise. The card (YtlehdmflnglipaaDoorCards.lean) ties it to the program's text. -/
def laid_loop_example_g03201_impl_letters {H : Type} : DataW H := .agg [.lit (.int .u8 97), .lit (.int .u8 98), .lit (.int .u8 99), .lit (.int .u8 100)]

/-- 'laws.FnExactCyclicSystem': WHATEVER THE INPUT: true; the input reads as it did. -/
def fnExactCyclicSystemSpec : ChangeSpec := { name := "fnExactCyclicSystem", vars := ["loop.example/g03201/impl.letters"], fn := fun _ => fun
  | [d, g1] => { results := [.lit (.bool true)], args := [d], vars := [g1] }
  | _ => none }
def fnExactCyclicSystemRow : OpenClaim := { program := "ytlehdmflnglipaadoor", sum := "08f7dce8eea9e14583a1f669e6c0cd1435b1b668733ebc558443aafe3121a664", func := "loop.example/g03201/laws.FnExactCyclicSystem", spec := "fnExactCyclicSystem", inPlace := ["internal/abi.NoEscape", "internal/bytealg.MakeNoZero"], unfollowed := true, recurses := true, named := ["loop.example/g03201/impl.letters"], apart := false, laid := [("loop.example/g03201/impl.letters", laid_loop_example_g03201_impl_letters)] }
def FnExactCyclicSystemSaid : Prop := fnExactCyclicSystemRow.holds Tryd.pinned (OpenSpec.ofChange fnExactCyclicSystemSpec)

/-- ITS FALSE NEIGHBOUR: 'it returns false'. Refute it at one input. -/
def fnExactCyclicSystemWrong : ChangeSpec := { name := "fnExactCyclicSystem", vars := ["loop.example/g03201/impl.letters"], fn := fun _ => fun
  | [d, g1] => { results := [.lit (.bool false)], args := [d], vars := [g1] }
  | _ => none }
def FnExactCyclicSystemWrongFalsely : Prop := fnExactCyclicSystemRow.holds Tryd.pinned (OpenSpec.ofChange fnExactCyclicSystemWrong)

/-- 'laws.FnExactSortingSystem': WHATEVER THE INPUT: true; the input reads as it did. -/
def fnExactSortingSystemSpec : ChangeSpec := { name := "fnExactSortingSystem", vars := ["loop.example/g03201/impl.letters"], fn := fun _ => fun
  | [d, g1] => { results := [.lit (.bool true)], args := [d], vars := [g1] }
  | _ => none }
def fnExactSortingSystemRow : OpenClaim := { program := "ytlehdmflnglipaadoor", sum := "08f7dce8eea9e14583a1f669e6c0cd1435b1b668733ebc558443aafe3121a664", func := "loop.example/g03201/laws.FnExactSortingSystem", spec := "fnExactSortingSystem", unfollowed := true, recurses := true, named := ["loop.example/g03201/impl.letters"], apart := false, laid := [("loop.example/g03201/impl.letters", laid_loop_example_g03201_impl_letters)] }
def FnExactSortingSystemSaid : Prop := fnExactSortingSystemRow.holds Tryd.pinned (OpenSpec.ofChange fnExactSortingSystemSpec)

/-- ITS FALSE NEIGHBOUR: 'it returns false'. Refute it at one input. -/
def fnExactSortingSystemWrong : ChangeSpec := { name := "fnExactSortingSystem", vars := ["loop.example/g03201/impl.letters"], fn := fun _ => fun
  | [d, g1] => { results := [.lit (.bool false)], args := [d], vars := [g1] }
  | _ => none }
def FnExactSortingSystemWrongFalsely : Prop := fnExactSortingSystemRow.holds Tryd.pinned (OpenSpec.ofChange fnExactSortingSystemWrong)

/-- 'laws.FnExactProjectorSystem': WHATEVER THE INPUT: true; the input reads as it did. -/
def fnExactProjectorSystemSpec : ChangeSpec := { name := "fnExactProjectorSystem", vars := ["loop.example/g03201/impl.letters"], fn := fun _ => fun
  | [d, g1] => { results := [.lit (.bool true)], args := [d], vars := [g1] }
  | _ => none }
def fnExactProjectorSystemRow : OpenClaim := { program := "ytlehdmflnglipaadoor", sum := "08f7dce8eea9e14583a1f669e6c0cd1435b1b668733ebc558443aafe3121a664", func := "loop.example/g03201/laws.FnExactProjectorSystem", spec := "fnExactProjectorSystem", unfollowed := true, recurses := true, named := ["loop.example/g03201/impl.letters"], apart := false, laid := [("loop.example/g03201/impl.letters", laid_loop_example_g03201_impl_letters)] }
def FnExactProjectorSystemSaid : Prop := fnExactProjectorSystemRow.holds Tryd.pinned (OpenSpec.ofChange fnExactProjectorSystemSpec)

/-- ITS FALSE NEIGHBOUR: 'it returns false'. Refute it at one input. -/
def fnExactProjectorSystemWrong : ChangeSpec := { name := "fnExactProjectorSystem", vars := ["loop.example/g03201/impl.letters"], fn := fun _ => fun
  | [d, g1] => { results := [.lit (.bool false)], args := [d], vars := [g1] }
  | _ => none }
def FnExactProjectorSystemWrongFalsely : Prop := fnExactProjectorSystemRow.holds Tryd.pinned (OpenSpec.ofChange fnExactProjectorSystemWrong)

/-- 'laws.FnExactBracketSystem': WHATEVER THE INPUT: true; the input reads as it did. -/
def fnExactBracketSystemSpec : ChangeSpec := { name := "fnExactBracketSystem", vars := ["loop.example/g03201/impl.letters"], fn := fun _ => fun
  | [d, g1] => { results := [.lit (.bool true)], args := [d], vars := [g1] }
  | _ => none }
def fnExactBracketSystemRow : OpenClaim := { program := "ytlehdmflnglipaadoor", sum := "08f7dce8eea9e14583a1f669e6c0cd1435b1b668733ebc558443aafe3121a664", func := "loop.example/g03201/laws.FnExactBracketSystem", spec := "fnExactBracketSystem", unfollowed := true, recurses := true, named := ["loop.example/g03201/impl.letters"], apart := false, laid := [("loop.example/g03201/impl.letters", laid_loop_example_g03201_impl_letters)] }
def FnExactBracketSystemSaid : Prop := fnExactBracketSystemRow.holds Tryd.pinned (OpenSpec.ofChange fnExactBracketSystemSpec)

/-- ITS FALSE NEIGHBOUR: 'it returns false'. Refute it at one input. -/
def fnExactBracketSystemWrong : ChangeSpec := { name := "fnExactBracketSystem", vars := ["loop.example/g03201/impl.letters"], fn := fun _ => fun
  | [d, g1] => { results := [.lit (.bool false)], args := [d], vars := [g1] }
  | _ => none }
def FnExactBracketSystemWrongFalsely : Prop := fnExactBracketSystemRow.holds Tryd.pinned (OpenSpec.ofChange fnExactBracketSystemWrong)

/-- 'laws.FnExactTableSystem': WHATEVER THE INPUT: true; the input reads as it did. -/
def fnExactTableSystemSpec : ChangeSpec := { name := "fnExactTableSystem", vars := ["loop.example/g03201/impl.letters"], fn := fun _ => fun
  | [d, g1] => { results := [.lit (.bool true)], args := [d], vars := [g1] }
  | _ => none }
def fnExactTableSystemRow : OpenClaim := { program := "ytlehdmflnglipaadoor", sum := "08f7dce8eea9e14583a1f669e6c0cd1435b1b668733ebc558443aafe3121a664", func := "loop.example/g03201/laws.FnExactTableSystem", spec := "fnExactTableSystem", unfollowed := true, recurses := true, named := ["loop.example/g03201/impl.letters"], apart := false, laid := [("loop.example/g03201/impl.letters", laid_loop_example_g03201_impl_letters)] }
def FnExactTableSystemSaid : Prop := fnExactTableSystemRow.holds Tryd.pinned (OpenSpec.ofChange fnExactTableSystemSpec)

/-- ITS FALSE NEIGHBOUR: 'it returns false'. Refute it at one input. -/
def fnExactTableSystemWrong : ChangeSpec := { name := "fnExactTableSystem", vars := ["loop.example/g03201/impl.letters"], fn := fun _ => fun
  | [d, g1] => { results := [.lit (.bool false)], args := [d], vars := [g1] }
  | _ => none }
def FnExactTableSystemWrongFalsely : Prop := fnExactTableSystemRow.holds Tryd.pinned (OpenSpec.ofChange fnExactTableSystemWrong)

/- THE SECOND FORM. 'bulk': how many values and letters a reading holds, each counted each time it is reached (what is shared counts as often as it is met; a slice's spare places count too). A statement '..UptoSaid' is the law's where the arguments, and the package variables that the reading takes, are together of bulk at most 1048576: NARROWER than '..Said'. Prove '..Said' where nothing that the law and all that it calls make is longer than what came in: it says more and counts as full. Else prove '..UptoSaid'. A law counts once. -/
mutual
def uptoBulk {H : Type} : DataW H → Nat
  | .lit (.string bytes) => bytes.length + 1
  | .lit _ => 1
  | .nil => 1
  | .ptr d => uptoBulk d + 1
  | .slice elems spare => uptoBulkAll elems + uptoBulkAll spare + 1
  | .agg parts => uptoBulkAll parts + 1
  | .iface _ d => uptoBulk d + 1
  | .map entries => uptoBulkEntries entries + 1
  | .held _ => 1
def uptoBulkAll {H : Type} : List (DataW H) → Nat
  | [] => 0
  | d :: r => uptoBulk d + uptoBulkAll r
def uptoBulkEntries {H : Type} : List (Lit × DataW H) → Nat
  | [] => 0
  | x :: r => uptoBulkEntry x + uptoBulkEntries r
def uptoBulkEntry {H : Type} : Lit × DataW H → Nat
  | (.string bytes, d) => bytes.length + uptoBulk d + 1
  | (_, d) => uptoBulk d + 1
 end
def uptoSmall : (H : Type) → List (DataW H) → Bool := fun _ ds => decide (uptoBulkAll ds ≤ 1048576)
def OpenSpec.upto (s : _root_.Go.ChangeSpec) : _root_.Go.OpenSpec := { _root_.Go.OpenSpec.ofChange s with cond := some uptoSmall }

/-- 'laws.FnExactCyclicSystem', WHERE WHAT IT READS IS OF BULK AT MOST 1048576: true; the input reads as it did. -/
def fnExactCyclicSystemUptoRow : OpenClaim := { program := "ytlehdmflnglipaadoor", sum := "08f7dce8eea9e14583a1f669e6c0cd1435b1b668733ebc558443aafe3121a664", func := "loop.example/g03201/laws.FnExactCyclicSystem", spec := "fnExactCyclicSystem", inPlace := ["internal/abi.NoEscape", "internal/bytealg.MakeNoZero"], unfollowed := true, recurses := true, named := ["loop.example/g03201/impl.letters"], apart := false, laid := [("loop.example/g03201/impl.letters", laid_loop_example_g03201_impl_letters)], narrowed := true }
def FnExactCyclicSystemUptoSaid : Prop := fnExactCyclicSystemUptoRow.holds Tryd.pinned (OpenSpec.upto fnExactCyclicSystemSpec)

/-- 'laws.FnExactSortingSystem', WHERE WHAT IT READS IS OF BULK AT MOST 1048576: true; the input reads as it did. -/
def fnExactSortingSystemUptoRow : OpenClaim := { program := "ytlehdmflnglipaadoor", sum := "08f7dce8eea9e14583a1f669e6c0cd1435b1b668733ebc558443aafe3121a664", func := "loop.example/g03201/laws.FnExactSortingSystem", spec := "fnExactSortingSystem", unfollowed := true, recurses := true, named := ["loop.example/g03201/impl.letters"], apart := false, laid := [("loop.example/g03201/impl.letters", laid_loop_example_g03201_impl_letters)], narrowed := true }
def FnExactSortingSystemUptoSaid : Prop := fnExactSortingSystemUptoRow.holds Tryd.pinned (OpenSpec.upto fnExactSortingSystemSpec)

/-- 'laws.FnExactProjectorSystem', WHERE WHAT IT READS IS OF BULK AT MOST 1048576: true; the input reads as it did. -/
def fnExactProjectorSystemUptoRow : OpenClaim := { program := "ytlehdmflnglipaadoor", sum := "08f7dce8eea9e14583a1f669e6c0cd1435b1b668733ebc558443aafe3121a664", func := "loop.example/g03201/laws.FnExactProjectorSystem", spec := "fnExactProjectorSystem", unfollowed := true, recurses := true, named := ["loop.example/g03201/impl.letters"], apart := false, laid := [("loop.example/g03201/impl.letters", laid_loop_example_g03201_impl_letters)], narrowed := true }
def FnExactProjectorSystemUptoSaid : Prop := fnExactProjectorSystemUptoRow.holds Tryd.pinned (OpenSpec.upto fnExactProjectorSystemSpec)

/-- 'laws.FnExactBracketSystem', WHERE WHAT IT READS IS OF BULK AT MOST 1048576: true; the input reads as it did. -/
def fnExactBracketSystemUptoRow : OpenClaim := { program := "ytlehdmflnglipaadoor", sum := "08f7dce8eea9e14583a1f669e6c0cd1435b1b668733ebc558443aafe3121a664", func := "loop.example/g03201/laws.FnExactBracketSystem", spec := "fnExactBracketSystem", unfollowed := true, recurses := true, named := ["loop.example/g03201/impl.letters"], apart := false, laid := [("loop.example/g03201/impl.letters", laid_loop_example_g03201_impl_letters)], narrowed := true }
def FnExactBracketSystemUptoSaid : Prop := fnExactBracketSystemUptoRow.holds Tryd.pinned (OpenSpec.upto fnExactBracketSystemSpec)

/-- 'laws.FnExactTableSystem', WHERE WHAT IT READS IS OF BULK AT MOST 1048576: true; the input reads as it did. -/
def fnExactTableSystemUptoRow : OpenClaim := { program := "ytlehdmflnglipaadoor", sum := "08f7dce8eea9e14583a1f669e6c0cd1435b1b668733ebc558443aafe3121a664", func := "loop.example/g03201/laws.FnExactTableSystem", spec := "fnExactTableSystem", unfollowed := true, recurses := true, named := ["loop.example/g03201/impl.letters"], apart := false, laid := [("loop.example/g03201/impl.letters", laid_loop_example_g03201_impl_letters)], narrowed := true }
def FnExactTableSystemUptoSaid : Prop := fnExactTableSystemUptoRow.holds Tryd.pinned (OpenSpec.upto fnExactTableSystemSpec)

end Rows
end Go.Proofs.YtlehdmflnglipaaDoor
