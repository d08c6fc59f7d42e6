/-
  NARROWER THAN 'FOR EVERY INPUT', by the rows' own cells (each row's printed sentence says how): FnReduced: laid · FnFinite: laid.
  DERIVED. THE GIVEN ROWS OF THIS SEAT. 2 by the template 'for every input the law returns true; each argument reads behind the call as it read before'; 0 by the template 'total and deterministic' (their statements: YtfkojahoaljiaaaDoorTotals.lean).
  GIVEN WITH THE SEED: the statements are not yours to turn. If you find one false, say at which input.
  Laid BY PROGRAM, IN A SANDBOX (cutbox-rows.mjs): the forced cells as the released guide's own fill.sh prints them over the translation 617893609e47ba44… (all of the seat's roots in one cut). By AI agents, Wed Nov 11 2026. No macro, syntax, notation, axiom, sorry.
-/
import Derived.Test.YtfkojahoaljiaaaDoorChecked
import GoSem.Claim
import GoSem.ClaimJoined
import GoSem.ClaimMapViews
import Derived.JoinedTies
import Derived.KernelRfl
namespace Go.Proofs.YtfkojahoaljiaaaDoor
/- THE CELL 'sum', in the pinned program and in every row, IS THE sha256 OF THE DUMP (.gsa) THAT YtfkojahoaljiaaaDoorProg.lean LOADS. Nothing in Lean hashes anything: it is a label: what it is worth is what the hold of that sum in a sandbox is worth. -/
noncomputable def Tryd.pinned : Pinned := { name := "ytfkojahoaljiaaadoor", sum := "617893609e47ba447f475d2b4eba0f22a170d5a8d37d41b3e2f187b2aec28921", checked := Tryd.checked }
namespace Rows
def none {H : Type} : Left H := { results := [], args := [] }

/- WHAT THE LISTED PACKAGE-LEVEL VARIABLES READ AS WHEN THE CALL BEGINS. Each datum BY PROGRAM (the guide's laid-datum.mjs) off the statement by which the dump's own 'gosem.cut.vars' lays the variable. In a bare row this is a premise. The card (YtfkojahoaljiaaaDoorCards.lean) ties it to the program's text. -/
def laid_loop_example_g03201_impl_letters {H : Type} : DataW H := .agg [.lit (.int .u8 97), .lit (.int .u8 98), .lit (.int .u8 99), .lit (.int .u8 100)]

/-- 'laws.FnReduced': WHATEVER THE INPUT: true; the input reads as it did. -/
def fnReducedSpec : ChangeSpec := { name := "fnReduced", vars := ["loop.example/g03201/impl.letters"], fn := fun _ => fun
  | [d, g1] => { results := [.lit (.bool true)], args := [d], vars := [g1] }
  | _ => none }
def fnReducedRow : OpenClaim := { program := "ytfkojahoaljiaaadoor", sum := "617893609e47ba447f475d2b4eba0f22a170d5a8d37d41b3e2f187b2aec28921", func := "loop.example/g03201/laws.FnReduced", spec := "fnReduced", unfollowed := true, recurses := true, named := ["loop.example/g03201/impl.letters"], plainKeys := false, apart := false, laid := [("loop.example/g03201/impl.letters", laid_loop_example_g03201_impl_letters)] }
def FnReducedSaid : Prop := fnReducedRow.holds Tryd.pinned (OpenSpec.ofChange fnReducedSpec)

/-- ITS FALSE NEIGHBOUR: 'it returns false'. Refute it at one input. -/
def fnReducedWrong : ChangeSpec := { name := "fnReduced", vars := ["loop.example/g03201/impl.letters"], fn := fun _ => fun
  | [d, g1] => { results := [.lit (.bool false)], args := [d], vars := [g1] }
  | _ => none }
def FnReducedWrongFalsely : Prop := fnReducedRow.holds Tryd.pinned (OpenSpec.ofChange fnReducedWrong)

/-- 'laws.FnFinite': WHATEVER THE INPUT: true; the input reads as it did. -/
def fnFiniteSpec : ChangeSpec := { name := "fnFinite", vars := ["loop.example/g03201/impl.letters"], fn := fun _ => fun
  | [d, g1] => { results := [.lit (.bool true)], args := [d], vars := [g1] }
  | _ => none }
def fnFiniteRow : OpenClaim := { program := "ytfkojahoaljiaaadoor", sum := "617893609e47ba447f475d2b4eba0f22a170d5a8d37d41b3e2f187b2aec28921", func := "loop.example/g03201/laws.FnFinite", spec := "fnFinite", unfollowed := true, recurses := true, named := ["loop.example/g03201/impl.letters"], plainKeys := false, apart := false, laid := [("loop.example/g03201/impl.letters", laid_loop_example_g03201_impl_letters)] }
def FnFiniteSaid : Prop := fnFiniteRow.holds Tryd.pinned (OpenSpec.ofChange fnFiniteSpec)

/-- ITS FALSE NEIGHBOUR: 'it returns false'. Refute it at one input. -/
def fnFiniteWrong : ChangeSpec := { name := "fnFinite", vars := ["loop.example/g03201/impl.letters"], fn := fun _ => fun
  | [d, g1] => { results := [.lit (.bool false)], args := [d], vars := [g1] }
  | _ => none }
def FnFiniteWrongFalsely : Prop := fnFiniteRow.holds Tryd.pinned (OpenSpec.ofChange fnFiniteWrong)

/- THE SECOND FORM. 'bulk': how many values and letters a reading holds, each counted each time it is reached (what is shared counts as often as it is met; a slice's spare places count too). A statement '..UptoSaid' is the law's where the arguments, and the package variables that the reading takes, are together of bulk at most 1048576: NARROWER than '..Said'. Prove '..Said' where nothing that the law and all that it calls make is longer than what came in: it says more and counts as full. Else prove '..UptoSaid'. A law counts once. -/
mutual
def uptoBulk {H : Type} : DataW H → Nat
  | .lit (.string bytes) => bytes.length + 1
  | .lit _ => 1
  | .nil => 1
  | .ptr d => uptoBulk d + 1
  | .slice elems spare => uptoBulkAll elems + uptoBulkAll spare + 1
  | .agg parts => uptoBulkAll parts + 1
  | .iface _ d => uptoBulk d + 1
  | .map entries => uptoBulkEntries entries + 1
  | .held _ => 1
def uptoBulkAll {H : Type} : List (DataW H) → Nat
  | [] => 0
  | d :: r => uptoBulk d + uptoBulkAll r
def uptoBulkEntries {H : Type} : List (Lit × DataW H) → Nat
  | [] => 0
  | x :: r => uptoBulkEntry x + uptoBulkEntries r
def uptoBulkEntry {H : Type} : Lit × DataW H → Nat
  | (.string bytes, d) => bytes.length + uptoBulk d + 1
  | (_, d) => uptoBulk d + 1
 end
def uptoSmall : (H : Type) → List (DataW H) → Bool := fun _ ds => decide (uptoBulkAll ds ≤ 1048576)
def OpenSpec.upto (s : _root_.Go.ChangeSpec) : _root_.Go.OpenSpec := { _root_.Go.OpenSpec.ofChange s with cond := some uptoSmall }

/-- 'laws.FnReduced', WHERE WHAT IT READS IS OF BULK AT MOST 1048576: true; the input reads as it did. -/
def fnReducedUptoRow : OpenClaim := { program := "ytfkojahoaljiaaadoor", sum := "617893609e47ba447f475d2b4eba0f22a170d5a8d37d41b3e2f187b2aec28921", func := "loop.example/g03201/laws.FnReduced", spec := "fnReduced", unfollowed := true, recurses := true, named := ["loop.example/g03201/impl.letters"], plainKeys := false, apart := false, laid := [("loop.example/g03201/impl.letters", laid_loop_example_g03201_impl_letters)], narrowed := true }
def FnReducedUptoSaid : Prop := fnReducedUptoRow.holds Tryd.pinned (OpenSpec.upto fnReducedSpec)

/-- 'laws.FnFinite', WHERE WHAT IT READS IS OF BULK AT MOST 1048576: true; the input reads as it did. -/
def fnFiniteUptoRow : OpenClaim := { program := "ytfkojahoaljiaaadoor", sum := "617893609e47ba447f475d2b4eba0f22a170d5a8d37d41b3e2f187b2aec28921", func := "loop.example/g03201/laws.FnFinite", spec := "fnFinite", unfollowed := true, recurses := true, named := ["loop.example/g03201/impl.letters"], plainKeys := false, apart := false, laid := [("loop.example/g03201/impl.letters", laid_loop_example_g03201_impl_letters)], narrowed := true }
def FnFiniteUptoSaid : Prop := fnFiniteUptoRow.holds Tryd.pinned (OpenSpec.upto fnFiniteSpec)

end Rows
end Go.Proofs.YtfkojahoaljiaaaDoor
