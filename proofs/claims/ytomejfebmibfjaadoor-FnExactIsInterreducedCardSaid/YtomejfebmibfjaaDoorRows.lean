/-
  NARROWER THAN 'FOR EVERY INPUT', by the rows' own cells (each row's printed sentence says how): FnExactPairsOf: laid · FnExactSidesOf: laid · FnExactIsJoined: laid · FnExactOpenPairs: laid · FnExactIsComplete: laid · FnExactIsInterreduced: laid · FnExactCountPairs: laid.
  DERIVED. THE GIVEN ROWS OF THIS SEAT. 7 by the template 'for every input the law returns true; each argument reads behind the call as it read before'; 0 by the template 'total and deterministic' (their statements: YtomejfebmibfjaaDoorTotals.lean).
  GIVEN WITH THE SEED: the statements are not yours to turn. If you find one false, say at which input.
  Laid BY PROGRAM, IN A SANDBOX (cutbox-rows.mjs): the forced cells as the released guide's own fill.sh prints them over the translation 8b704cfb89c8159a… (all of the seat's roots in one cut). By AI agents, Wed Nov 11 2026. No macro, syntax, notation, axiom, sorry.
-/
import Derived.Test.YtomejfebmibfjaaDoorChecked
import GoSem.Claim
import GoSem.ClaimJoined
import GoSem.ClaimMapViews
import Derived.JoinedTies
import Derived.KernelRfl
namespace Go.Proofs.YtomejfebmibfjaaDoor
/- THE CELL 'sum', in the pinned program and in every row, IS THE sha256 OF THE DUMP (.gsa) THAT YtomejfebmibfjaaDoorProg.lean LOADS. Nothing in Lean hashes anything: it is a label: what it is worth is what the hold of that sum in a sandbox is worth. -/
noncomputable def Tryd.pinned : Pinned := { name := "ytomejfebmibfjaadoor", sum := "8b704cfb89c8159ab1574625bcfd3d1c3fb1966e2e300dace39996edbda101e7", checked := Tryd.checked }
namespace Rows
def none {H : Type} : Left H := { results := [], args := [] }

/- WHAT THE LISTED PACKAGE-LEVEL VARIABLES READ AS WHEN THE CALL BEGINS. Each datum BY PROGRAM (the guide's laid-datum.mjs) off the statement by which the dump's own 'gosem.cut.vars' lays the variable. In a bare row this is a premise. The card (YtomejfebmibfjaaDoorCards.lean) ties it to the program's text. -/
def laid_loop_example_g03201_impl_letters {H : Type} : DataW H := .agg [.lit (.int .u8 97), .lit (.int .u8 98), .lit (.int .u8 99), .lit (.int .u8 100)]

/-- 'laws.FnExactPairsOf': WHATEVER THE INPUT: true; the input reads as it did. -/
def fnExactPairsOfSpec : ChangeSpec := { name := "fnExactPairsOf", vars := ["loop.example/g03201/impl.letters"], fn := fun _ => fun
  | [d, g1] => { results := [.lit (.bool true)], args := [d], vars := [g1] }
  | _ => none }
def fnExactPairsOfRow : OpenClaim := { program := "ytomejfebmibfjaadoor", sum := "8b704cfb89c8159ab1574625bcfd3d1c3fb1966e2e300dace39996edbda101e7", func := "loop.example/g03201/laws.FnExactPairsOf", spec := "fnExactPairsOf", named := ["loop.example/g03201/impl.letters"], leaving := true, apart := false, laid := [("loop.example/g03201/impl.letters", laid_loop_example_g03201_impl_letters)] }
def FnExactPairsOfSaid : Prop := fnExactPairsOfRow.holds Tryd.pinned (OpenSpec.ofChange fnExactPairsOfSpec)

/-- ITS FALSE NEIGHBOUR: 'it returns false'. Refute it at one input. -/
def fnExactPairsOfWrong : ChangeSpec := { name := "fnExactPairsOf", vars := ["loop.example/g03201/impl.letters"], fn := fun _ => fun
  | [d, g1] => { results := [.lit (.bool false)], args := [d], vars := [g1] }
  | _ => none }
def FnExactPairsOfWrongFalsely : Prop := fnExactPairsOfRow.holds Tryd.pinned (OpenSpec.ofChange fnExactPairsOfWrong)

/-- 'laws.FnExactSidesOf': WHATEVER THE INPUT: true; the input reads as it did. -/
def fnExactSidesOfSpec : ChangeSpec := { name := "fnExactSidesOf", vars := ["loop.example/g03201/impl.letters"], fn := fun _ => fun
  | [d1, d2, g1] => { results := [.lit (.bool true)], args := [d1, d2], vars := [g1] }
  | _ => none }
def fnExactSidesOfRow : OpenClaim := { program := "ytomejfebmibfjaadoor", sum := "8b704cfb89c8159ab1574625bcfd3d1c3fb1966e2e300dace39996edbda101e7", func := "loop.example/g03201/laws.FnExactSidesOf", spec := "fnExactSidesOf", named := ["loop.example/g03201/impl.letters"], apart := false, laid := [("loop.example/g03201/impl.letters", laid_loop_example_g03201_impl_letters)] }
def FnExactSidesOfSaid : Prop := fnExactSidesOfRow.holds Tryd.pinned (OpenSpec.ofChange fnExactSidesOfSpec)

/-- ITS FALSE NEIGHBOUR: 'it returns false'. Refute it at one input. -/
def fnExactSidesOfWrong : ChangeSpec := { name := "fnExactSidesOf", vars := ["loop.example/g03201/impl.letters"], fn := fun _ => fun
  | [d1, d2, g1] => { results := [.lit (.bool false)], args := [d1, d2], vars := [g1] }
  | _ => none }
def FnExactSidesOfWrongFalsely : Prop := fnExactSidesOfRow.holds Tryd.pinned (OpenSpec.ofChange fnExactSidesOfWrong)

/-- 'laws.FnExactIsJoined': WHATEVER THE INPUT: true; the input reads as it did. -/
def fnExactIsJoinedSpec : ChangeSpec := { name := "fnExactIsJoined", vars := ["loop.example/g03201/impl.letters"], fn := fun _ => fun
  | [d1, d2, g1] => { results := [.lit (.bool true)], args := [d1, d2], vars := [g1] }
  | _ => none }
def fnExactIsJoinedRow : OpenClaim := { program := "ytomejfebmibfjaadoor", sum := "8b704cfb89c8159ab1574625bcfd3d1c3fb1966e2e300dace39996edbda101e7", func := "loop.example/g03201/laws.FnExactIsJoined", spec := "fnExactIsJoined", unfollowed := true, recurses := true, named := ["loop.example/g03201/impl.letters"], leaving := true, apart := false, laid := [("loop.example/g03201/impl.letters", laid_loop_example_g03201_impl_letters)] }
def FnExactIsJoinedSaid : Prop := fnExactIsJoinedRow.holds Tryd.pinned (OpenSpec.ofChange fnExactIsJoinedSpec)

/-- ITS FALSE NEIGHBOUR: 'it returns false'. Refute it at one input. -/
def fnExactIsJoinedWrong : ChangeSpec := { name := "fnExactIsJoined", vars := ["loop.example/g03201/impl.letters"], fn := fun _ => fun
  | [d1, d2, g1] => { results := [.lit (.bool false)], args := [d1, d2], vars := [g1] }
  | _ => none }
def FnExactIsJoinedWrongFalsely : Prop := fnExactIsJoinedRow.holds Tryd.pinned (OpenSpec.ofChange fnExactIsJoinedWrong)

/-- 'laws.FnExactOpenPairs': WHATEVER THE INPUT: true; the input reads as it did. -/
def fnExactOpenPairsSpec : ChangeSpec := { name := "fnExactOpenPairs", vars := ["loop.example/g03201/impl.letters"], fn := fun _ => fun
  | [d, g1] => { results := [.lit (.bool true)], args := [d], vars := [g1] }
  | _ => none }
def fnExactOpenPairsRow : OpenClaim := { program := "ytomejfebmibfjaadoor", sum := "8b704cfb89c8159ab1574625bcfd3d1c3fb1966e2e300dace39996edbda101e7", func := "loop.example/g03201/laws.FnExactOpenPairs", spec := "fnExactOpenPairs", unfollowed := true, recurses := true, named := ["loop.example/g03201/impl.letters"], leaving := true, apart := false, laid := [("loop.example/g03201/impl.letters", laid_loop_example_g03201_impl_letters)] }
def FnExactOpenPairsSaid : Prop := fnExactOpenPairsRow.holds Tryd.pinned (OpenSpec.ofChange fnExactOpenPairsSpec)

/-- ITS FALSE NEIGHBOUR: 'it returns false'. Refute it at one input. -/
def fnExactOpenPairsWrong : ChangeSpec := { name := "fnExactOpenPairs", vars := ["loop.example/g03201/impl.letters"], fn := fun _ => fun
  | [d, g1] => { results := [.lit (.bool false)], args := [d], vars := [g1] }
  | _ => none }
def FnExactOpenPairsWrongFalsely : Prop := fnExactOpenPairsRow.holds Tryd.pinned (OpenSpec.ofChange fnExactOpenPairsWrong)

/-- 'laws.FnExactIsComplete': WHATEVER THE INPUT: true; the input reads as it did. -/
def fnExactIsCompleteSpec : ChangeSpec := { name := "fnExactIsComplete", vars := ["loop.example/g03201/impl.letters"], fn := fun _ => fun
  | [d, g1] => { results := [.lit (.bool true)], args := [d], vars := [g1] }
  | _ => none }
def fnExactIsCompleteRow : OpenClaim := { program := "ytomejfebmibfjaadoor", sum := "8b704cfb89c8159ab1574625bcfd3d1c3fb1966e2e300dace39996edbda101e7", func := "loop.example/g03201/laws.FnExactIsComplete", spec := "fnExactIsComplete", unfollowed := true, recurses := true, named := ["loop.example/g03201/impl.letters"], leaving := true, apart := false, laid := [("loop.example/g03201/impl.letters", laid_loop_example_g03201_impl_letters)] }
def FnExactIsCompleteSaid : Prop := fnExactIsCompleteRow.holds Tryd.pinned (OpenSpec.ofChange fnExactIsCompleteSpec)

/-- ITS FALSE NEIGHBOUR: 'it returns false'. Refute it at one input. -/
def fnExactIsCompleteWrong : ChangeSpec := { name := "fnExactIsComplete", vars := ["loop.example/g03201/impl.letters"], fn := fun _ => fun
  | [d, g1] => { results := [.lit (.bool false)], args := [d], vars := [g1] }
  | _ => none }
def FnExactIsCompleteWrongFalsely : Prop := fnExactIsCompleteRow.holds Tryd.pinned (OpenSpec.ofChange fnExactIsCompleteWrong)

/-- 'laws.FnExactIsInterreduced': WHATEVER THE INPUT: true; the input reads as it did. -/
def fnExactIsInterreducedSpec : ChangeSpec := { name := "fnExactIsInterreduced", vars := ["loop.example/g03201/impl.letters"], fn := fun _ => fun
  | [d, g1] => { results := [.lit (.bool true)], args := [d], vars := [g1] }
  | _ => none }
def fnExactIsInterreducedRow : OpenClaim := { program := "ytomejfebmibfjaadoor", sum := "8b704cfb89c8159ab1574625bcfd3d1c3fb1966e2e300dace39996edbda101e7", func := "loop.example/g03201/laws.FnExactIsInterreduced", spec := "fnExactIsInterreduced", inPlace := ["internal/bytealg.IndexByteString", "internal/bytealg.IndexString"], named := ["loop.example/g03201/impl.letters", "internal/bytealg.MaxLen"], apart := false, laid := [("loop.example/g03201/impl.letters", laid_loop_example_g03201_impl_letters)] }
def FnExactIsInterreducedSaid : Prop := fnExactIsInterreducedRow.holds Tryd.pinned (OpenSpec.ofChange fnExactIsInterreducedSpec)

/-- ITS FALSE NEIGHBOUR: 'it returns false'. Refute it at one input. -/
def fnExactIsInterreducedWrong : ChangeSpec := { name := "fnExactIsInterreduced", vars := ["loop.example/g03201/impl.letters"], fn := fun _ => fun
  | [d, g1] => { results := [.lit (.bool false)], args := [d], vars := [g1] }
  | _ => none }
def FnExactIsInterreducedWrongFalsely : Prop := fnExactIsInterreducedRow.holds Tryd.pinned (OpenSpec.ofChange fnExactIsInterreducedWrong)

/-- 'laws.FnExactCountPairs': WHATEVER THE INPUT: true; the input reads as it did. -/
def fnExactCountPairsSpec : ChangeSpec := { name := "fnExactCountPairs", vars := ["loop.example/g03201/impl.letters"], fn := fun _ => fun
  | [d, g1] => { results := [.lit (.bool true)], args := [d], vars := [g1] }
  | _ => none }
def fnExactCountPairsRow : OpenClaim := { program := "ytomejfebmibfjaadoor", sum := "8b704cfb89c8159ab1574625bcfd3d1c3fb1966e2e300dace39996edbda101e7", func := "loop.example/g03201/laws.FnExactCountPairs", spec := "fnExactCountPairs", unfollowed := true, recurses := true, named := ["loop.example/g03201/impl.letters"], leaving := true, apart := false, laid := [("loop.example/g03201/impl.letters", laid_loop_example_g03201_impl_letters)] }
def FnExactCountPairsSaid : Prop := fnExactCountPairsRow.holds Tryd.pinned (OpenSpec.ofChange fnExactCountPairsSpec)

/-- ITS FALSE NEIGHBOUR: 'it returns false'. Refute it at one input. -/
def fnExactCountPairsWrong : ChangeSpec := { name := "fnExactCountPairs", vars := ["loop.example/g03201/impl.letters"], fn := fun _ => fun
  | [d, g1] => { results := [.lit (.bool false)], args := [d], vars := [g1] }
  | _ => none }
def FnExactCountPairsWrongFalsely : Prop := fnExactCountPairsRow.holds Tryd.pinned (OpenSpec.ofChange fnExactCountPairsWrong)

/- THE SECOND FORM. 'bulk': how many values and letters a reading holds, each counted each time it is reached (what is shared counts as often as it is met; a slice's spare places count too). A statement '..UptoSaid' is the law's where the arguments, and the package variables that the reading takes, are together of bulk at most 1048576: NARROWER than '..Said'. Prove '..Said' where nothing that the law and all that it calls make is longer than what came in: it says more and counts as full. Else prove '..UptoSaid'. A law counts once. -/
mutual
def uptoBulk {H : Type} : DataW H → Nat
  | .lit (.string bytes) => bytes.length + 1
  | .lit _ => 1
  | .nil => 1
  | .ptr d => uptoBulk d + 1
  | .slice elems spare => uptoBulkAll elems + uptoBulkAll spare + 1
  | .agg parts => uptoBulkAll parts + 1
  | .iface _ d => uptoBulk d + 1
  | .map entries => uptoBulkEntries entries + 1
  | .held _ => 1
def uptoBulkAll {H : Type} : List (DataW H) → Nat
  | [] => 0
  | d :: r => uptoBulk d + uptoBulkAll r
def uptoBulkEntries {H : Type} : List (Lit × DataW H) → Nat
  | [] => 0
  | x :: r => uptoBulkEntry x + uptoBulkEntries r
def uptoBulkEntry {H : Type} : Lit × DataW H → Nat
  | (.string bytes, d) => bytes.length + uptoBulk d + 1
  | (_, d) => uptoBulk d + 1
 end
def uptoSmall : (H : Type) → List (DataW H) → Bool := fun _ ds => decide (uptoBulkAll ds ≤ 1048576)
def OpenSpec.upto (s : _root_.Go.ChangeSpec) : _root_.Go.OpenSpec := { _root_.Go.OpenSpec.ofChange s with cond := some uptoSmall }

/-- 'laws.FnExactPairsOf', WHERE WHAT IT READS IS OF BULK AT MOST 1048576: true; the input reads as it did. -/
def fnExactPairsOfUptoRow : OpenClaim := { program := "ytomejfebmibfjaadoor", sum := "8b704cfb89c8159ab1574625bcfd3d1c3fb1966e2e300dace39996edbda101e7", func := "loop.example/g03201/laws.FnExactPairsOf", spec := "fnExactPairsOf", named := ["loop.example/g03201/impl.letters"], leaving := true, apart := false, laid := [("loop.example/g03201/impl.letters", laid_loop_example_g03201_impl_letters)], narrowed := true }
def FnExactPairsOfUptoSaid : Prop := fnExactPairsOfUptoRow.holds Tryd.pinned (OpenSpec.upto fnExactPairsOfSpec)

/-- 'laws.FnExactSidesOf', WHERE WHAT IT READS IS OF BULK AT MOST 1048576: true; the input reads as it did. -/
def fnExactSidesOfUptoRow : OpenClaim := { program := "ytomejfebmibfjaadoor", sum := "8b704cfb89c8159ab1574625bcfd3d1c3fb1966e2e300dace39996edbda101e7", func := "loop.example/g03201/laws.FnExactSidesOf", spec := "fnExactSidesOf", named := ["loop.example/g03201/impl.letters"], apart := false, laid := [("loop.example/g03201/impl.letters", laid_loop_example_g03201_impl_letters)], narrowed := true }
def FnExactSidesOfUptoSaid : Prop := fnExactSidesOfUptoRow.holds Tryd.pinned (OpenSpec.upto fnExactSidesOfSpec)

/-- 'laws.FnExactIsJoined', WHERE WHAT IT READS IS OF BULK AT MOST 1048576: true; the input reads as it did. -/
def fnExactIsJoinedUptoRow : OpenClaim := { program := "ytomejfebmibfjaadoor", sum := "8b704cfb89c8159ab1574625bcfd3d1c3fb1966e2e300dace39996edbda101e7", func := "loop.example/g03201/laws.FnExactIsJoined", spec := "fnExactIsJoined", unfollowed := true, recurses := true, named := ["loop.example/g03201/impl.letters"], leaving := true, apart := false, laid := [("loop.example/g03201/impl.letters", laid_loop_example_g03201_impl_letters)], narrowed := true }
def FnExactIsJoinedUptoSaid : Prop := fnExactIsJoinedUptoRow.holds Tryd.pinned (OpenSpec.upto fnExactIsJoinedSpec)

/-- 'laws.FnExactOpenPairs', WHERE WHAT IT READS IS OF BULK AT MOST 1048576: true; the input reads as it did. -/
def fnExactOpenPairsUptoRow : OpenClaim := { program := "ytomejfebmibfjaadoor", sum := "8b704cfb89c8159ab1574625bcfd3d1c3fb1966e2e300dace39996edbda101e7", func := "loop.example/g03201/laws.FnExactOpenPairs", spec := "fnExactOpenPairs", unfollowed := true, recurses := true, named := ["loop.example/g03201/impl.letters"], leaving := true, apart := false, laid := [("loop.example/g03201/impl.letters", laid_loop_example_g03201_impl_letters)], narrowed := true }
def FnExactOpenPairsUptoSaid : Prop := fnExactOpenPairsUptoRow.holds Tryd.pinned (OpenSpec.upto fnExactOpenPairsSpec)

/-- 'laws.FnExactIsComplete', WHERE WHAT IT READS IS OF BULK AT MOST 1048576: true; the input reads as it did. -/
def fnExactIsCompleteUptoRow : OpenClaim := { program := "ytomejfebmibfjaadoor", sum := "8b704cfb89c8159ab1574625bcfd3d1c3fb1966e2e300dace39996edbda101e7", func := "loop.example/g03201/laws.FnExactIsComplete", spec := "fnExactIsComplete", unfollowed := true, recurses := true, named := ["loop.example/g03201/impl.letters"], leaving := true, apart := false, laid := [("loop.example/g03201/impl.letters", laid_loop_example_g03201_impl_letters)], narrowed := true }
def FnExactIsCompleteUptoSaid : Prop := fnExactIsCompleteUptoRow.holds Tryd.pinned (OpenSpec.upto fnExactIsCompleteSpec)

/-- 'laws.FnExactIsInterreduced', WHERE WHAT IT READS IS OF BULK AT MOST 1048576: true; the input reads as it did. -/
def fnExactIsInterreducedUptoRow : OpenClaim := { program := "ytomejfebmibfjaadoor", sum := "8b704cfb89c8159ab1574625bcfd3d1c3fb1966e2e300dace39996edbda101e7", func := "loop.example/g03201/laws.FnExactIsInterreduced", spec := "fnExactIsInterreduced", inPlace := ["internal/bytealg.IndexByteString", "internal/bytealg.IndexString"], named := ["loop.example/g03201/impl.letters", "internal/bytealg.MaxLen"], apart := false, laid := [("loop.example/g03201/impl.letters", laid_loop_example_g03201_impl_letters)], narrowed := true }
def FnExactIsInterreducedUptoSaid : Prop := fnExactIsInterreducedUptoRow.holds Tryd.pinned (OpenSpec.upto fnExactIsInterreducedSpec)

/-- 'laws.FnExactCountPairs', WHERE WHAT IT READS IS OF BULK AT MOST 1048576: true; the input reads as it did. -/
def fnExactCountPairsUptoRow : OpenClaim := { program := "ytomejfebmibfjaadoor", sum := "8b704cfb89c8159ab1574625bcfd3d1c3fb1966e2e300dace39996edbda101e7", func := "loop.example/g03201/laws.FnExactCountPairs", spec := "fnExactCountPairs", unfollowed := true, recurses := true, named := ["loop.example/g03201/impl.letters"], leaving := true, apart := false, laid := [("loop.example/g03201/impl.letters", laid_loop_example_g03201_impl_letters)], narrowed := true }
def FnExactCountPairsUptoSaid : Prop := fnExactCountPairsUptoRow.holds Tryd.pinned (OpenSpec.upto fnExactCountPairsSpec)

end Rows
end Go.Proofs.YtomejfebmibfjaaDoor
