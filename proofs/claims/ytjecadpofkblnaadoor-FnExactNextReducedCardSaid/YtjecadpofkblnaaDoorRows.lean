/-
  NARROWER THAN 'FOR EVERY INPUT', by the rows' own cells (each row's printed sentence says how): FnReduced: laid · FnFinite: laid · FnExactReducedWords: laid · FnExactAllReduced: laid · FnExactNextReduced: laid.
  DERIVED. THE GIVEN ROWS OF THIS SEAT. 5 by the template 'for every input the law returns true; each argument reads behind the call as it read before'; 0 by the template 'total and deterministic' (their statements: YtjecadpofkblnaaDoorTotals.lean).
  GIVEN WITH THE SEED: the statements are not yours to turn. If you find one false, say at which input.
  Laid BY PROGRAM, IN A SANDBOX (cutbox-rows.mjs): the forced cells as the released guide's own fill.sh prints them over the translation feb84ed72060051c… (all of the seat's roots in one cut). By AI agents, Wed Nov 11 2026. No macro, syntax, notation, axiom, sorry.
-/
import Derived.Test.YtjecadpofkblnaaDoorChecked
import GoSem.Claim
import GoSem.ClaimJoined
import GoSem.ClaimMapViews
import Derived.JoinedTies
import Derived.KernelRfl
namespace Go.Proofs.YtjecadpofkblnaaDoor
/- THE CELL 'sum', in the pinned program and in every row, IS THE sha256 OF THE DUMP (.gsa) THAT YtjecadpofkblnaaDoorProg.lean LOADS. Nothing in Lean hashes anything: it is a label: what it is worth is what the hold of that sum in a sandbox is worth. -/
noncomputable def Tryd.pinned : Pinned := { name := "ytjecadpofkblnaadoor", sum := "feb84ed72060051cb03fac431e2ea939be6dd8cf3b8944320e93b58bff7bd73a", checked := Tryd.checked }
namespace Rows
def none {H : Type} : Left H := { results := [], args := [] }

/- WHAT THE LISTED PACKAGE-LEVEL VARIABLES READ AS WHEN THE CALL BEGINS. Each datum BY PROGRAM (the guide's laid-datum.mjs) off the statement by which the dump's own 'gosem.cut.vars' lays the variable. In a bare row this is a premise. The card (YtjecadpofkblnaaDoorCards.lean) ties it to the program's text. -/
def laid_loop_example_g03201_impl_letters {H : Type} : DataW H := .agg [.lit (.int .u8 97), .lit (.int .u8 98), .lit (.int .u8 99), .lit (.int .u8 100)]

/-- 'laws.FnReduced': WHATEVER THE INPUT: true; the input reads as it did. -/
def fnReducedSpec : ChangeSpec := { name := "fnReduced", vars := ["loop.example/g03201/impl.letters"], fn := fun _ => fun
  | [d, g1] => { results := [.lit (.bool true)], args := [d], vars := [g1] }
  | _ => none }
def fnReducedRow : OpenClaim := { program := "ytjecadpofkblnaadoor", sum := "feb84ed72060051cb03fac431e2ea939be6dd8cf3b8944320e93b58bff7bd73a", func := "loop.example/g03201/laws.FnReduced", spec := "fnReduced", unfollowed := true, recurses := true, named := ["loop.example/g03201/impl.letters"], plainKeys := false, apart := false, laid := [("loop.example/g03201/impl.letters", laid_loop_example_g03201_impl_letters)] }
def FnReducedSaid : Prop := fnReducedRow.holds Tryd.pinned (OpenSpec.ofChange fnReducedSpec)

/-- ITS FALSE NEIGHBOUR: 'it returns false'. Refute it at one input. -/
def fnReducedWrong : ChangeSpec := { name := "fnReduced", vars := ["loop.example/g03201/impl.letters"], fn := fun _ => fun
  | [d, g1] => { results := [.lit (.bool false)], args := [d], vars := [g1] }
  | _ => none }
def FnReducedWrongFalsely : Prop := fnReducedRow.holds Tryd.pinned (OpenSpec.ofChange fnReducedWrong)

/-- 'laws.FnFinite': WHATEVER THE INPUT: true; the input reads as it did. -/
def fnFiniteSpec : ChangeSpec := { name := "fnFinite", vars := ["loop.example/g03201/impl.letters"], fn := fun _ => fun
  | [d, g1] => { results := [.lit (.bool true)], args := [d], vars := [g1] }
  | _ => none }
def fnFiniteRow : OpenClaim := { program := "ytjecadpofkblnaadoor", sum := "feb84ed72060051cb03fac431e2ea939be6dd8cf3b8944320e93b58bff7bd73a", func := "loop.example/g03201/laws.FnFinite", spec := "fnFinite", unfollowed := true, recurses := true, named := ["loop.example/g03201/impl.letters"], plainKeys := false, apart := false, laid := [("loop.example/g03201/impl.letters", laid_loop_example_g03201_impl_letters)] }
def FnFiniteSaid : Prop := fnFiniteRow.holds Tryd.pinned (OpenSpec.ofChange fnFiniteSpec)

/-- ITS FALSE NEIGHBOUR: 'it returns false'. Refute it at one input. -/
def fnFiniteWrong : ChangeSpec := { name := "fnFinite", vars := ["loop.example/g03201/impl.letters"], fn := fun _ => fun
  | [d, g1] => { results := [.lit (.bool false)], args := [d], vars := [g1] }
  | _ => none }
def FnFiniteWrongFalsely : Prop := fnFiniteRow.holds Tryd.pinned (OpenSpec.ofChange fnFiniteWrong)

/-- 'laws.FnExactReducedWords': WHATEVER THE INPUT: true; the input reads as it did. -/
def fnExactReducedWordsSpec : ChangeSpec := { name := "fnExactReducedWords", vars := ["loop.example/g03201/impl.letters"], fn := fun _ => fun
  | [d1, d2, g1] => { results := [.lit (.bool true)], args := [d1, d2], vars := [g1] }
  | _ => none }
def fnExactReducedWordsRow : OpenClaim := { program := "ytjecadpofkblnaadoor", sum := "feb84ed72060051cb03fac431e2ea939be6dd8cf3b8944320e93b58bff7bd73a", func := "loop.example/g03201/laws.FnExactReducedWords", spec := "fnExactReducedWords", unfollowed := true, recurses := true, named := ["loop.example/g03201/impl.letters"], plainKeys := false, apart := false, laid := [("loop.example/g03201/impl.letters", laid_loop_example_g03201_impl_letters)] }
def FnExactReducedWordsSaid : Prop := fnExactReducedWordsRow.holds Tryd.pinned (OpenSpec.ofChange fnExactReducedWordsSpec)

/-- ITS FALSE NEIGHBOUR: 'it returns false'. Refute it at one input. -/
def fnExactReducedWordsWrong : ChangeSpec := { name := "fnExactReducedWords", vars := ["loop.example/g03201/impl.letters"], fn := fun _ => fun
  | [d1, d2, g1] => { results := [.lit (.bool false)], args := [d1, d2], vars := [g1] }
  | _ => none }
def FnExactReducedWordsWrongFalsely : Prop := fnExactReducedWordsRow.holds Tryd.pinned (OpenSpec.ofChange fnExactReducedWordsWrong)

/-- 'laws.FnExactAllReduced': WHATEVER THE INPUT: true; the input reads as it did. -/
def fnExactAllReducedSpec : ChangeSpec := { name := "fnExactAllReduced", vars := ["loop.example/g03201/impl.letters"], fn := fun _ => fun
  | [d, g1] => { results := [.lit (.bool true)], args := [d], vars := [g1] }
  | _ => none }
def fnExactAllReducedRow : OpenClaim := { program := "ytjecadpofkblnaadoor", sum := "feb84ed72060051cb03fac431e2ea939be6dd8cf3b8944320e93b58bff7bd73a", func := "loop.example/g03201/laws.FnExactAllReduced", spec := "fnExactAllReduced", unfollowed := true, recurses := true, named := ["loop.example/g03201/impl.letters"], plainKeys := false, apart := false, laid := [("loop.example/g03201/impl.letters", laid_loop_example_g03201_impl_letters)] }
def FnExactAllReducedSaid : Prop := fnExactAllReducedRow.holds Tryd.pinned (OpenSpec.ofChange fnExactAllReducedSpec)

/-- ITS FALSE NEIGHBOUR: 'it returns false'. Refute it at one input. -/
def fnExactAllReducedWrong : ChangeSpec := { name := "fnExactAllReduced", vars := ["loop.example/g03201/impl.letters"], fn := fun _ => fun
  | [d, g1] => { results := [.lit (.bool false)], args := [d], vars := [g1] }
  | _ => none }
def FnExactAllReducedWrongFalsely : Prop := fnExactAllReducedRow.holds Tryd.pinned (OpenSpec.ofChange fnExactAllReducedWrong)

/-- 'laws.FnExactNextReduced': WHATEVER THE INPUT: true; the input reads as it did. -/
def fnExactNextReducedSpec : ChangeSpec := { name := "fnExactNextReduced", vars := ["loop.example/g03201/impl.letters"], fn := fun _ => fun
  | [d1, d2, g1] => { results := [.lit (.bool true)], args := [d1, d2], vars := [g1] }
  | _ => none }
def fnExactNextReducedRow : OpenClaim := { program := "ytjecadpofkblnaadoor", sum := "feb84ed72060051cb03fac431e2ea939be6dd8cf3b8944320e93b58bff7bd73a", func := "loop.example/g03201/laws.FnExactNextReduced", spec := "fnExactNextReduced", unfollowed := true, recurses := true, named := ["loop.example/g03201/impl.letters"], plainKeys := false, apart := false, laid := [("loop.example/g03201/impl.letters", laid_loop_example_g03201_impl_letters)] }
def FnExactNextReducedSaid : Prop := fnExactNextReducedRow.holds Tryd.pinned (OpenSpec.ofChange fnExactNextReducedSpec)

/-- ITS FALSE NEIGHBOUR: 'it returns false'. Refute it at one input. -/
def fnExactNextReducedWrong : ChangeSpec := { name := "fnExactNextReduced", vars := ["loop.example/g03201/impl.letters"], fn := fun _ => fun
  | [d1, d2, g1] => { results := [.lit (.bool false)], args := [d1, d2], vars := [g1] }
  | _ => none }
def FnExactNextReducedWrongFalsely : Prop := fnExactNextReducedRow.holds Tryd.pinned (OpenSpec.ofChange fnExactNextReducedWrong)

/- THE SECOND FORM. 'bulk': how many values and letters a reading holds, each counted each time it is reached (what is shared counts as often as it is met; a slice's spare places count too). A statement '..UptoSaid' is the law's where the arguments, and the package variables that the reading takes, are together of bulk at most 1048576: NARROWER than '..Said'. Prove '..Said' where nothing that the law and all that it calls make is longer than what came in: it says more and counts as full. Else prove '..UptoSaid'. A law counts once. -/
mutual
def uptoBulk {H : Type} : DataW H → Nat
  | .lit (.string bytes) => bytes.length + 1
  | .lit _ => 1
  | .nil => 1
  | .ptr d => uptoBulk d + 1
  | .slice elems spare => uptoBulkAll elems + uptoBulkAll spare + 1
  | .agg parts => uptoBulkAll parts + 1
  | .iface _ d => uptoBulk d + 1
  | .map entries => uptoBulkEntries entries + 1
  | .held _ => 1
def uptoBulkAll {H : Type} : List (DataW H) → Nat
  | [] => 0
  | d :: r => uptoBulk d + uptoBulkAll r
def uptoBulkEntries {H : Type} : List (Lit × DataW H) → Nat
  | [] => 0
  | x :: r => uptoBulkEntry x + uptoBulkEntries r
def uptoBulkEntry {H : Type} : Lit × DataW H → Nat
  | (.string bytes, d) => bytes.length + uptoBulk d + 1
  | (_, d) => uptoBulk d + 1
 end
def uptoSmall : (H : Type) → List (DataW H) → Bool := fun _ ds => decide (uptoBulkAll ds ≤ 1048576)
def OpenSpec.upto (s : _root_.Go.ChangeSpec) : _root_.Go.OpenSpec := { _root_.Go.OpenSpec.ofChange s with cond := some uptoSmall }

/-- 'laws.FnReduced', WHERE WHAT IT READS IS OF BULK AT MOST 1048576: true; the input reads as it did. -/
def fnReducedUptoRow : OpenClaim := { program := "ytjecadpofkblnaadoor", sum := "feb84ed72060051cb03fac431e2ea939be6dd8cf3b8944320e93b58bff7bd73a", func := "loop.example/g03201/laws.FnReduced", spec := "fnReduced", unfollowed := true, recurses := true, named := ["loop.example/g03201/impl.letters"], plainKeys := false, apart := false, laid := [("loop.example/g03201/impl.letters", laid_loop_example_g03201_impl_letters)], narrowed := true }
def FnReducedUptoSaid : Prop := fnReducedUptoRow.holds Tryd.pinned (OpenSpec.upto fnReducedSpec)

/-- 'laws.FnFinite', WHERE WHAT IT READS IS OF BULK AT MOST 1048576: true; the input reads as it did. -/
def fnFiniteUptoRow : OpenClaim := { program := "ytjecadpofkblnaadoor", sum := "feb84ed72060051cb03fac431e2ea939be6dd8cf3b8944320e93b58bff7bd73a", func := "loop.example/g03201/laws.FnFinite", spec := "fnFinite", unfollowed := true, recurses := true, named := ["loop.example/g03201/impl.letters"], plainKeys := false, apart := false, laid := [("loop.example/g03201/impl.letters", laid_loop_example_g03201_impl_letters)], narrowed := true }
def FnFiniteUptoSaid : Prop := fnFiniteUptoRow.holds Tryd.pinned (OpenSpec.upto fnFiniteSpec)

/-- 'laws.FnExactReducedWords', WHERE WHAT IT READS IS OF BULK AT MOST 1048576: true; the input reads as it did. -/
def fnExactReducedWordsUptoRow : OpenClaim := { program := "ytjecadpofkblnaadoor", sum := "feb84ed72060051cb03fac431e2ea939be6dd8cf3b8944320e93b58bff7bd73a", func := "loop.example/g03201/laws.FnExactReducedWords", spec := "fnExactReducedWords", unfollowed := true, recurses := true, named := ["loop.example/g03201/impl.letters"], plainKeys := false, apart := false, laid := [("loop.example/g03201/impl.letters", laid_loop_example_g03201_impl_letters)], narrowed := true }
def FnExactReducedWordsUptoSaid : Prop := fnExactReducedWordsUptoRow.holds Tryd.pinned (OpenSpec.upto fnExactReducedWordsSpec)

/-- 'laws.FnExactAllReduced', WHERE WHAT IT READS IS OF BULK AT MOST 1048576: true; the input reads as it did. -/
def fnExactAllReducedUptoRow : OpenClaim := { program := "ytjecadpofkblnaadoor", sum := "feb84ed72060051cb03fac431e2ea939be6dd8cf3b8944320e93b58bff7bd73a", func := "loop.example/g03201/laws.FnExactAllReduced", spec := "fnExactAllReduced", unfollowed := true, recurses := true, named := ["loop.example/g03201/impl.letters"], plainKeys := false, apart := false, laid := [("loop.example/g03201/impl.letters", laid_loop_example_g03201_impl_letters)], narrowed := true }
def FnExactAllReducedUptoSaid : Prop := fnExactAllReducedUptoRow.holds Tryd.pinned (OpenSpec.upto fnExactAllReducedSpec)

/-- 'laws.FnExactNextReduced', WHERE WHAT IT READS IS OF BULK AT MOST 1048576: true; the input reads as it did. -/
def fnExactNextReducedUptoRow : OpenClaim := { program := "ytjecadpofkblnaadoor", sum := "feb84ed72060051cb03fac431e2ea939be6dd8cf3b8944320e93b58bff7bd73a", func := "loop.example/g03201/laws.FnExactNextReduced", spec := "fnExactNextReduced", unfollowed := true, recurses := true, named := ["loop.example/g03201/impl.letters"], plainKeys := false, apart := false, laid := [("loop.example/g03201/impl.letters", laid_loop_example_g03201_impl_letters)], narrowed := true }
def FnExactNextReducedUptoSaid : Prop := fnExactNextReducedUptoRow.holds Tryd.pinned (OpenSpec.upto fnExactNextReducedSpec)

end Rows
end Go.Proofs.YtjecadpofkblnaaDoor
