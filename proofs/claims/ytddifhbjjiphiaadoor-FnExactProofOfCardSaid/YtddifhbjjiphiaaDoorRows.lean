/-
  NARROWER THAN 'FOR EVERY INPUT', by the rows' own cells (each row's printed sentence says how): FnExactApplyLink: laid · FnExactChainOf: laid · FnExactIsProof: laid · FnExactProofOf: laid · FnExactShortenProof: laid · FnExactPeakOf: laid.
  DERIVED. THE GIVEN ROWS OF THIS SEAT. 6 by the template 'for every input the law returns true; each argument reads behind the call as it read before'; 0 by the template 'total and deterministic' (their statements: YtddifhbjjiphiaaDoorTotals.lean).
  GIVEN WITH THE SEED: the statements are not yours to turn. If you find one false, say at which input.
  Laid BY PROGRAM, IN A SANDBOX (cutbox-rows.mjs): the forced cells as the released guide's own fill.sh prints them over the translation a2605c7059377699… (all of the seat's roots in one cut). By AI agents, Wed Nov 11 2026. No macro, syntax, notation, axiom, sorry.
-/
import Derived.Test.YtddifhbjjiphiaaDoorChecked
import GoSem.Claim
import GoSem.ClaimJoined
import GoSem.ClaimMapViews
import Derived.JoinedTies
import Derived.KernelRfl
namespace Go.Proofs.YtddifhbjjiphiaaDoor
/- THE CELL 'sum', in the pinned program and in every row, IS THE sha256 OF THE DUMP (.gsa) THAT YtddifhbjjiphiaaDoorProg.lean LOADS. Nothing in Lean hashes anything: it is a label: what it is worth is what the hold of that sum in a sandbox is worth. -/
noncomputable def Tryd.pinned : Pinned := { name := "ytddifhbjjiphiaadoor", sum := "a2605c7059377699ce28839add51b068f81ab5b704494fa6ee4b7f335ff1594b", checked := Tryd.checked }
namespace Rows
def none {H : Type} : Left H := { results := [], args := [] }

/- WHAT THE LISTED PACKAGE-LEVEL VARIABLES READ AS WHEN THE CALL BEGINS. Each datum BY PROGRAM (the guide's laid-datum.mjs) off the statement by which the dump's own 'gosem.cut.vars' lays the variable. In a bare row this is a premise. The card (YtddifhbjjiphiaaDoorCards.lean) ties it to the program's text. -/
def laid_loop_example_g03201_impl_letters {H : Type} : DataW H := .agg [.lit (.int .u8 97), .lit (.int .u8 98), .lit (.int .u8 99), .lit (.int .u8 100)]

/-- 'laws.FnExactApplyLink': WHATEVER THE INPUT: true; the input reads as it did. -/
def fnExactApplyLinkSpec : ChangeSpec := { name := "fnExactApplyLink", vars := ["loop.example/g03201/impl.letters"], fn := fun _ => fun
  | [d1, d2, d3, g1] => { results := [.lit (.bool true)], args := [d1, d2, d3], vars := [g1] }
  | _ => none }
def fnExactApplyLinkRow : OpenClaim := { program := "ytddifhbjjiphiaadoor", sum := "a2605c7059377699ce28839add51b068f81ab5b704494fa6ee4b7f335ff1594b", func := "loop.example/g03201/laws.FnExactApplyLink", spec := "fnExactApplyLink", named := ["loop.example/g03201/impl.letters"], apart := false, laid := [("loop.example/g03201/impl.letters", laid_loop_example_g03201_impl_letters)] }
def FnExactApplyLinkSaid : Prop := fnExactApplyLinkRow.holds Tryd.pinned (OpenSpec.ofChange fnExactApplyLinkSpec)

/-- ITS FALSE NEIGHBOUR: 'it returns false'. Refute it at one input. -/
def fnExactApplyLinkWrong : ChangeSpec := { name := "fnExactApplyLink", vars := ["loop.example/g03201/impl.letters"], fn := fun _ => fun
  | [d1, d2, d3, g1] => { results := [.lit (.bool false)], args := [d1, d2, d3], vars := [g1] }
  | _ => none }
def FnExactApplyLinkWrongFalsely : Prop := fnExactApplyLinkRow.holds Tryd.pinned (OpenSpec.ofChange fnExactApplyLinkWrong)

/-- 'laws.FnExactChainOf': WHATEVER THE INPUT: true; the input reads as it did. -/
def fnExactChainOfSpec : ChangeSpec := { name := "fnExactChainOf", vars := ["loop.example/g03201/impl.letters"], fn := fun _ => fun
  | [d1, d2, d3, g1] => { results := [.lit (.bool true)], args := [d1, d2, d3], vars := [g1] }
  | _ => none }
def fnExactChainOfRow : OpenClaim := { program := "ytddifhbjjiphiaadoor", sum := "a2605c7059377699ce28839add51b068f81ab5b704494fa6ee4b7f335ff1594b", func := "loop.example/g03201/laws.FnExactChainOf", spec := "fnExactChainOf", named := ["loop.example/g03201/impl.letters"], apart := false, laid := [("loop.example/g03201/impl.letters", laid_loop_example_g03201_impl_letters)] }
def FnExactChainOfSaid : Prop := fnExactChainOfRow.holds Tryd.pinned (OpenSpec.ofChange fnExactChainOfSpec)

/-- ITS FALSE NEIGHBOUR: 'it returns false'. Refute it at one input. -/
def fnExactChainOfWrong : ChangeSpec := { name := "fnExactChainOf", vars := ["loop.example/g03201/impl.letters"], fn := fun _ => fun
  | [d1, d2, d3, g1] => { results := [.lit (.bool false)], args := [d1, d2, d3], vars := [g1] }
  | _ => none }
def FnExactChainOfWrongFalsely : Prop := fnExactChainOfRow.holds Tryd.pinned (OpenSpec.ofChange fnExactChainOfWrong)

/-- 'laws.FnExactIsProof': WHATEVER THE INPUT: true; the input reads as it did. -/
def fnExactIsProofSpec : ChangeSpec := { name := "fnExactIsProof", vars := ["loop.example/g03201/impl.letters"], fn := fun _ => fun
  | [d1, d2, d3, d4, g1] => { results := [.lit (.bool true)], args := [d1, d2, d3, d4], vars := [g1] }
  | _ => none }
def fnExactIsProofRow : OpenClaim := { program := "ytddifhbjjiphiaadoor", sum := "a2605c7059377699ce28839add51b068f81ab5b704494fa6ee4b7f335ff1594b", func := "loop.example/g03201/laws.FnExactIsProof", spec := "fnExactIsProof", named := ["loop.example/g03201/impl.letters"], apart := false, laid := [("loop.example/g03201/impl.letters", laid_loop_example_g03201_impl_letters)] }
def FnExactIsProofSaid : Prop := fnExactIsProofRow.holds Tryd.pinned (OpenSpec.ofChange fnExactIsProofSpec)

/-- ITS FALSE NEIGHBOUR: 'it returns false'. Refute it at one input. -/
def fnExactIsProofWrong : ChangeSpec := { name := "fnExactIsProof", vars := ["loop.example/g03201/impl.letters"], fn := fun _ => fun
  | [d1, d2, d3, d4, g1] => { results := [.lit (.bool false)], args := [d1, d2, d3, d4], vars := [g1] }
  | _ => none }
def FnExactIsProofWrongFalsely : Prop := fnExactIsProofRow.holds Tryd.pinned (OpenSpec.ofChange fnExactIsProofWrong)

/-- 'laws.FnExactProofOf': WHATEVER THE INPUT: true; the input reads as it did. -/
def fnExactProofOfSpec : ChangeSpec := { name := "fnExactProofOf", vars := ["loop.example/g03201/impl.letters"], fn := fun _ => fun
  | [d1, d2, d3, g1] => { results := [.lit (.bool true)], args := [d1, d2, d3], vars := [g1] }
  | _ => none }
def fnExactProofOfRow : OpenClaim := { program := "ytddifhbjjiphiaadoor", sum := "a2605c7059377699ce28839add51b068f81ab5b704494fa6ee4b7f335ff1594b", func := "loop.example/g03201/laws.FnExactProofOf", spec := "fnExactProofOf", unfollowed := true, recurses := true, named := ["loop.example/g03201/impl.letters"], apart := false, laid := [("loop.example/g03201/impl.letters", laid_loop_example_g03201_impl_letters)] }
def FnExactProofOfSaid : Prop := fnExactProofOfRow.holds Tryd.pinned (OpenSpec.ofChange fnExactProofOfSpec)

/-- ITS FALSE NEIGHBOUR: 'it returns false'. Refute it at one input. -/
def fnExactProofOfWrong : ChangeSpec := { name := "fnExactProofOf", vars := ["loop.example/g03201/impl.letters"], fn := fun _ => fun
  | [d1, d2, d3, g1] => { results := [.lit (.bool false)], args := [d1, d2, d3], vars := [g1] }
  | _ => none }
def FnExactProofOfWrongFalsely : Prop := fnExactProofOfRow.holds Tryd.pinned (OpenSpec.ofChange fnExactProofOfWrong)

/-- 'laws.FnExactShortenProof': WHATEVER THE INPUT: true; the input reads as it did. -/
def fnExactShortenProofSpec : ChangeSpec := { name := "fnExactShortenProof", vars := ["loop.example/g03201/impl.letters"], fn := fun _ => fun
  | [d1, d2, d3, g1] => { results := [.lit (.bool true)], args := [d1, d2, d3], vars := [g1] }
  | _ => none }
def fnExactShortenProofRow : OpenClaim := { program := "ytddifhbjjiphiaadoor", sum := "a2605c7059377699ce28839add51b068f81ab5b704494fa6ee4b7f335ff1594b", func := "loop.example/g03201/laws.FnExactShortenProof", spec := "fnExactShortenProof", named := ["loop.example/g03201/impl.letters"], apart := false, laid := [("loop.example/g03201/impl.letters", laid_loop_example_g03201_impl_letters)] }
def FnExactShortenProofSaid : Prop := fnExactShortenProofRow.holds Tryd.pinned (OpenSpec.ofChange fnExactShortenProofSpec)

/-- ITS FALSE NEIGHBOUR: 'it returns false'. Refute it at one input. -/
def fnExactShortenProofWrong : ChangeSpec := { name := "fnExactShortenProof", vars := ["loop.example/g03201/impl.letters"], fn := fun _ => fun
  | [d1, d2, d3, g1] => { results := [.lit (.bool false)], args := [d1, d2, d3], vars := [g1] }
  | _ => none }
def FnExactShortenProofWrongFalsely : Prop := fnExactShortenProofRow.holds Tryd.pinned (OpenSpec.ofChange fnExactShortenProofWrong)

/-- 'laws.FnExactPeakOf': WHATEVER THE INPUT: true; the input reads as it did. -/
def fnExactPeakOfSpec : ChangeSpec := { name := "fnExactPeakOf", vars := ["loop.example/g03201/impl.letters"], fn := fun _ => fun
  | [d1, d2, d3, g1] => { results := [.lit (.bool true)], args := [d1, d2, d3], vars := [g1] }
  | _ => none }
def fnExactPeakOfRow : OpenClaim := { program := "ytddifhbjjiphiaadoor", sum := "a2605c7059377699ce28839add51b068f81ab5b704494fa6ee4b7f335ff1594b", func := "loop.example/g03201/laws.FnExactPeakOf", spec := "fnExactPeakOf", named := ["loop.example/g03201/impl.letters"], apart := false, laid := [("loop.example/g03201/impl.letters", laid_loop_example_g03201_impl_letters)] }
def FnExactPeakOfSaid : Prop := fnExactPeakOfRow.holds Tryd.pinned (OpenSpec.ofChange fnExactPeakOfSpec)

/-- ITS FALSE NEIGHBOUR: 'it returns false'. Refute it at one input. -/
def fnExactPeakOfWrong : ChangeSpec := { name := "fnExactPeakOf", vars := ["loop.example/g03201/impl.letters"], fn := fun _ => fun
  | [d1, d2, d3, g1] => { results := [.lit (.bool false)], args := [d1, d2, d3], vars := [g1] }
  | _ => none }
def FnExactPeakOfWrongFalsely : Prop := fnExactPeakOfRow.holds Tryd.pinned (OpenSpec.ofChange fnExactPeakOfWrong)

/- THE SECOND FORM. 'bulk': how many values and letters a reading holds, each counted each time it is reached (what is shared counts as often as it is met; a slice's spare places count too). A statement '..UptoSaid' is the law's where the arguments, and the package variables that the reading takes, are together of bulk at most 1048576: NARROWER than '..Said'. Prove '..Said' where nothing that the law and all that it calls make is longer than what came in: it says more and counts as full. Else prove '..UptoSaid'. A law counts once. -/
mutual
def uptoBulk {H : Type} : DataW H → Nat
  | .lit (.string bytes) => bytes.length + 1
  | .lit _ => 1
  | .nil => 1
  | .ptr d => uptoBulk d + 1
  | .slice elems spare => uptoBulkAll elems + uptoBulkAll spare + 1
  | .agg parts => uptoBulkAll parts + 1
  | .iface _ d => uptoBulk d + 1
  | .map entries => uptoBulkEntries entries + 1
  | .held _ => 1
def uptoBulkAll {H : Type} : List (DataW H) → Nat
  | [] => 0
  | d :: r => uptoBulk d + uptoBulkAll r
def uptoBulkEntries {H : Type} : List (Lit × DataW H) → Nat
  | [] => 0
  | x :: r => uptoBulkEntry x + uptoBulkEntries r
def uptoBulkEntry {H : Type} : Lit × DataW H → Nat
  | (.string bytes, d) => bytes.length + uptoBulk d + 1
  | (_, d) => uptoBulk d + 1
 end
def uptoSmall : (H : Type) → List (DataW H) → Bool := fun _ ds => decide (uptoBulkAll ds ≤ 1048576)
def OpenSpec.upto (s : _root_.Go.ChangeSpec) : _root_.Go.OpenSpec := { _root_.Go.OpenSpec.ofChange s with cond := some uptoSmall }

/-- 'laws.FnExactApplyLink', WHERE WHAT IT READS IS OF BULK AT MOST 1048576: true; the input reads as it did. -/
def fnExactApplyLinkUptoRow : OpenClaim := { program := "ytddifhbjjiphiaadoor", sum := "a2605c7059377699ce28839add51b068f81ab5b704494fa6ee4b7f335ff1594b", func := "loop.example/g03201/laws.FnExactApplyLink", spec := "fnExactApplyLink", named := ["loop.example/g03201/impl.letters"], apart := false, laid := [("loop.example/g03201/impl.letters", laid_loop_example_g03201_impl_letters)], narrowed := true }
def FnExactApplyLinkUptoSaid : Prop := fnExactApplyLinkUptoRow.holds Tryd.pinned (OpenSpec.upto fnExactApplyLinkSpec)

/-- 'laws.FnExactChainOf', WHERE WHAT IT READS IS OF BULK AT MOST 1048576: true; the input reads as it did. -/
def fnExactChainOfUptoRow : OpenClaim := { program := "ytddifhbjjiphiaadoor", sum := "a2605c7059377699ce28839add51b068f81ab5b704494fa6ee4b7f335ff1594b", func := "loop.example/g03201/laws.FnExactChainOf", spec := "fnExactChainOf", named := ["loop.example/g03201/impl.letters"], apart := false, laid := [("loop.example/g03201/impl.letters", laid_loop_example_g03201_impl_letters)], narrowed := true }
def FnExactChainOfUptoSaid : Prop := fnExactChainOfUptoRow.holds Tryd.pinned (OpenSpec.upto fnExactChainOfSpec)

/-- 'laws.FnExactIsProof', WHERE WHAT IT READS IS OF BULK AT MOST 1048576: true; the input reads as it did. -/
def fnExactIsProofUptoRow : OpenClaim := { program := "ytddifhbjjiphiaadoor", sum := "a2605c7059377699ce28839add51b068f81ab5b704494fa6ee4b7f335ff1594b", func := "loop.example/g03201/laws.FnExactIsProof", spec := "fnExactIsProof", named := ["loop.example/g03201/impl.letters"], apart := false, laid := [("loop.example/g03201/impl.letters", laid_loop_example_g03201_impl_letters)], narrowed := true }
def FnExactIsProofUptoSaid : Prop := fnExactIsProofUptoRow.holds Tryd.pinned (OpenSpec.upto fnExactIsProofSpec)

/-- 'laws.FnExactProofOf', WHERE WHAT IT READS IS OF BULK AT MOST 1048576: true; the input reads as it did. -/
def fnExactProofOfUptoRow : OpenClaim := { program := "ytddifhbjjiphiaadoor", sum := "a2605c7059377699ce28839add51b068f81ab5b704494fa6ee4b7f335ff1594b", func := "loop.example/g03201/laws.FnExactProofOf", spec := "fnExactProofOf", unfollowed := true, recurses := true, named := ["loop.example/g03201/impl.letters"], apart := false, laid := [("loop.example/g03201/impl.letters", laid_loop_example_g03201_impl_letters)], narrowed := true }
def FnExactProofOfUptoSaid : Prop := fnExactProofOfUptoRow.holds Tryd.pinned (OpenSpec.upto fnExactProofOfSpec)

/-- 'laws.FnExactShortenProof', WHERE WHAT IT READS IS OF BULK AT MOST 1048576: true; the input reads as it did. -/
def fnExactShortenProofUptoRow : OpenClaim := { program := "ytddifhbjjiphiaadoor", sum := "a2605c7059377699ce28839add51b068f81ab5b704494fa6ee4b7f335ff1594b", func := "loop.example/g03201/laws.FnExactShortenProof", spec := "fnExactShortenProof", named := ["loop.example/g03201/impl.letters"], apart := false, laid := [("loop.example/g03201/impl.letters", laid_loop_example_g03201_impl_letters)], narrowed := true }
def FnExactShortenProofUptoSaid : Prop := fnExactShortenProofUptoRow.holds Tryd.pinned (OpenSpec.upto fnExactShortenProofSpec)

/-- 'laws.FnExactPeakOf', WHERE WHAT IT READS IS OF BULK AT MOST 1048576: true; the input reads as it did. -/
def fnExactPeakOfUptoRow : OpenClaim := { program := "ytddifhbjjiphiaadoor", sum := "a2605c7059377699ce28839add51b068f81ab5b704494fa6ee4b7f335ff1594b", func := "loop.example/g03201/laws.FnExactPeakOf", spec := "fnExactPeakOf", named := ["loop.example/g03201/impl.letters"], apart := false, laid := [("loop.example/g03201/impl.letters", laid_loop_example_g03201_impl_letters)], narrowed := true }
def FnExactPeakOfUptoSaid : Prop := fnExactPeakOfUptoRow.holds Tryd.pinned (OpenSpec.upto fnExactPeakOfSpec)

end Rows
end Go.Proofs.YtddifhbjjiphiaaDoor
