/-
  NARROWER THAN 'FOR EVERY INPUT', by the rows' own cells (each row's printed sentence says how): FnExactValueOf: laid · FnExactSatisfiesRules: laid · FnExactCountMaps: laid · FnExactFirstMap: laid · FnExactReachedBy: laid · FnExactShortestWord: laid.
  DERIVED. THE GIVEN ROWS OF THIS SEAT. 6 by the template 'for every input the law returns true; each argument reads behind the call as it read before'; 0 by the template 'total and deterministic' (their statements: YtlgaihofaiigcaaDoorTotals.lean).
  GIVEN WITH THE SEED: the statements are not yours to turn. If you find one false, say at which input.
  Laid BY PROGRAM, IN A SANDBOX (cutbox-rows.mjs): the forced cells as the released guide's own fill.sh prints them over the translation ed078b35baebdd54… (all of the seat's roots in one cut). By AI agents, Wed Nov 11 2026. No macro, syntax, notation, axiom, sorry.
-/
import Derived.Test.YtlgaihofaiigcaaDoorChecked
import GoSem.Claim
import GoSem.ClaimJoined
import GoSem.ClaimMapViews
import Derived.JoinedTies
import Derived.KernelRfl
namespace Go.Proofs.YtlgaihofaiigcaaDoor
/- THE CELL 'sum', in the pinned program and in every row, IS THE sha256 OF THE DUMP (.gsa) THAT YtlgaihofaiigcaaDoorProg.lean LOADS. Nothing in Lean hashes anything: it is a label: what it is worth is what the hold of that sum in a sandbox is worth. -/
noncomputable def Tryd.pinned : Pinned := { name := "ytlgaihofaiigcaadoor", sum := "ed078b35baebdd54b591deba1db7766533e977f26ecad912b4bee4dabe0e8e30", checked := Tryd.checked }
namespace Rows
def none {H : Type} : Left H := { results := [], args := [] }

/- WHAT THE LISTED PACKAGE-LEVEL VARIABLES READ AS WHEN THE CALL BEGINS. Each datum BY PROGRAM (the guide's laid-datum.mjs) off the statement by which the dump's own 'gosem.cut.vars' lays the variable. In a bare row this is a premise. The card (YtlgaihofaiigcaaDoorCards.lean) ties it to the program's text. -/
def laid_loop_example_g03201_impl_letters {H : Type} : DataW H := .agg [.lit (.int .u8 97), .lit (.int .u8 98), .lit (.int .u8 99), .lit (.int .u8 100)]

/-- 'laws.FnExactValueOf': WHATEVER THE INPUT: true; the input reads as it did. -/
def fnExactValueOfSpec : ChangeSpec := { name := "fnExactValueOf", vars := ["loop.example/g03201/impl.letters"], fn := fun _ => fun
  | [d1, d2, d3, g1] => { results := [.lit (.bool true)], args := [d1, d2, d3], vars := [g1] }
  | _ => none }
def fnExactValueOfRow : OpenClaim := { program := "ytlgaihofaiigcaadoor", sum := "ed078b35baebdd54b591deba1db7766533e977f26ecad912b4bee4dabe0e8e30", func := "loop.example/g03201/laws.FnExactValueOf", spec := "fnExactValueOf", unfollowed := true, recurses := true, named := ["loop.example/g03201/impl.letters"], apart := false, laid := [("loop.example/g03201/impl.letters", laid_loop_example_g03201_impl_letters)] }
def FnExactValueOfSaid : Prop := fnExactValueOfRow.holds Tryd.pinned (OpenSpec.ofChange fnExactValueOfSpec)

/-- ITS FALSE NEIGHBOUR: 'it returns false'. Refute it at one input. -/
def fnExactValueOfWrong : ChangeSpec := { name := "fnExactValueOf", vars := ["loop.example/g03201/impl.letters"], fn := fun _ => fun
  | [d1, d2, d3, g1] => { results := [.lit (.bool false)], args := [d1, d2, d3], vars := [g1] }
  | _ => none }
def FnExactValueOfWrongFalsely : Prop := fnExactValueOfRow.holds Tryd.pinned (OpenSpec.ofChange fnExactValueOfWrong)

/-- 'laws.FnExactSatisfiesRules': WHATEVER THE INPUT: true; the input reads as it did. -/
def fnExactSatisfiesRulesSpec : ChangeSpec := { name := "fnExactSatisfiesRules", vars := ["loop.example/g03201/impl.letters"], fn := fun _ => fun
  | [d1, d2, d3, g1] => { results := [.lit (.bool true)], args := [d1, d2, d3], vars := [g1] }
  | _ => none }
def fnExactSatisfiesRulesRow : OpenClaim := { program := "ytlgaihofaiigcaadoor", sum := "ed078b35baebdd54b591deba1db7766533e977f26ecad912b4bee4dabe0e8e30", func := "loop.example/g03201/laws.FnExactSatisfiesRules", spec := "fnExactSatisfiesRules", unfollowed := true, recurses := true, named := ["loop.example/g03201/impl.letters"], apart := false, laid := [("loop.example/g03201/impl.letters", laid_loop_example_g03201_impl_letters)] }
def FnExactSatisfiesRulesSaid : Prop := fnExactSatisfiesRulesRow.holds Tryd.pinned (OpenSpec.ofChange fnExactSatisfiesRulesSpec)

/-- ITS FALSE NEIGHBOUR: 'it returns false'. Refute it at one input. -/
def fnExactSatisfiesRulesWrong : ChangeSpec := { name := "fnExactSatisfiesRules", vars := ["loop.example/g03201/impl.letters"], fn := fun _ => fun
  | [d1, d2, d3, g1] => { results := [.lit (.bool false)], args := [d1, d2, d3], vars := [g1] }
  | _ => none }
def FnExactSatisfiesRulesWrongFalsely : Prop := fnExactSatisfiesRulesRow.holds Tryd.pinned (OpenSpec.ofChange fnExactSatisfiesRulesWrong)

/-- 'laws.FnExactCountMaps': WHATEVER THE INPUT: true; the input reads as it did. -/
def fnExactCountMapsSpec : ChangeSpec := { name := "fnExactCountMaps", vars := ["loop.example/g03201/impl.letters"], fn := fun _ => fun
  | [d1, d2, g1] => { results := [.lit (.bool true)], args := [d1, d2], vars := [g1] }
  | _ => none }
def fnExactCountMapsRow : OpenClaim := { program := "ytlgaihofaiigcaadoor", sum := "ed078b35baebdd54b591deba1db7766533e977f26ecad912b4bee4dabe0e8e30", func := "loop.example/g03201/laws.FnExactCountMaps", spec := "fnExactCountMaps", unfollowed := true, recurses := true, named := ["loop.example/g03201/impl.letters"], apart := false, laid := [("loop.example/g03201/impl.letters", laid_loop_example_g03201_impl_letters)] }
def FnExactCountMapsSaid : Prop := fnExactCountMapsRow.holds Tryd.pinned (OpenSpec.ofChange fnExactCountMapsSpec)

/-- ITS FALSE NEIGHBOUR: 'it returns false'. Refute it at one input. -/
def fnExactCountMapsWrong : ChangeSpec := { name := "fnExactCountMaps", vars := ["loop.example/g03201/impl.letters"], fn := fun _ => fun
  | [d1, d2, g1] => { results := [.lit (.bool false)], args := [d1, d2], vars := [g1] }
  | _ => none }
def FnExactCountMapsWrongFalsely : Prop := fnExactCountMapsRow.holds Tryd.pinned (OpenSpec.ofChange fnExactCountMapsWrong)

/-- 'laws.FnExactFirstMap': WHATEVER THE INPUT: true; the input reads as it did. -/
def fnExactFirstMapSpec : ChangeSpec := { name := "fnExactFirstMap", vars := ["loop.example/g03201/impl.letters"], fn := fun _ => fun
  | [d1, d2, g1] => { results := [.lit (.bool true)], args := [d1, d2], vars := [g1] }
  | _ => none }
def fnExactFirstMapRow : OpenClaim := { program := "ytlgaihofaiigcaadoor", sum := "ed078b35baebdd54b591deba1db7766533e977f26ecad912b4bee4dabe0e8e30", func := "loop.example/g03201/laws.FnExactFirstMap", spec := "fnExactFirstMap", unfollowed := true, recurses := true, named := ["loop.example/g03201/impl.letters"], apart := false, laid := [("loop.example/g03201/impl.letters", laid_loop_example_g03201_impl_letters)] }
def FnExactFirstMapSaid : Prop := fnExactFirstMapRow.holds Tryd.pinned (OpenSpec.ofChange fnExactFirstMapSpec)

/-- ITS FALSE NEIGHBOUR: 'it returns false'. Refute it at one input. -/
def fnExactFirstMapWrong : ChangeSpec := { name := "fnExactFirstMap", vars := ["loop.example/g03201/impl.letters"], fn := fun _ => fun
  | [d1, d2, g1] => { results := [.lit (.bool false)], args := [d1, d2], vars := [g1] }
  | _ => none }
def FnExactFirstMapWrongFalsely : Prop := fnExactFirstMapRow.holds Tryd.pinned (OpenSpec.ofChange fnExactFirstMapWrong)

/-- 'laws.FnExactReachedBy': WHATEVER THE INPUT: true; the input reads as it did. -/
def fnExactReachedBySpec : ChangeSpec := { name := "fnExactReachedBy", vars := ["loop.example/g03201/impl.letters"], fn := fun _ => fun
  | [d1, d2, g1] => { results := [.lit (.bool true)], args := [d1, d2], vars := [g1] }
  | _ => none }
def fnExactReachedByRow : OpenClaim := { program := "ytlgaihofaiigcaadoor", sum := "ed078b35baebdd54b591deba1db7766533e977f26ecad912b4bee4dabe0e8e30", func := "loop.example/g03201/laws.FnExactReachedBy", spec := "fnExactReachedBy", unfollowed := true, recurses := true, named := ["loop.example/g03201/impl.letters"], apart := false, laid := [("loop.example/g03201/impl.letters", laid_loop_example_g03201_impl_letters)] }
def FnExactReachedBySaid : Prop := fnExactReachedByRow.holds Tryd.pinned (OpenSpec.ofChange fnExactReachedBySpec)

/-- ITS FALSE NEIGHBOUR: 'it returns false'. Refute it at one input. -/
def fnExactReachedByWrong : ChangeSpec := { name := "fnExactReachedBy", vars := ["loop.example/g03201/impl.letters"], fn := fun _ => fun
  | [d1, d2, g1] => { results := [.lit (.bool false)], args := [d1, d2], vars := [g1] }
  | _ => none }
def FnExactReachedByWrongFalsely : Prop := fnExactReachedByRow.holds Tryd.pinned (OpenSpec.ofChange fnExactReachedByWrong)

/-- 'laws.FnExactShortestWord': WHATEVER THE INPUT: true; the input reads as it did. -/
def fnExactShortestWordSpec : ChangeSpec := { name := "fnExactShortestWord", vars := ["loop.example/g03201/impl.letters"], fn := fun _ => fun
  | [d1, d2, d3, g1] => { results := [.lit (.bool true)], args := [d1, d2, d3], vars := [g1] }
  | _ => none }
def fnExactShortestWordRow : OpenClaim := { program := "ytlgaihofaiigcaadoor", sum := "ed078b35baebdd54b591deba1db7766533e977f26ecad912b4bee4dabe0e8e30", func := "loop.example/g03201/laws.FnExactShortestWord", spec := "fnExactShortestWord", unfollowed := true, recurses := true, named := ["loop.example/g03201/impl.letters"], apart := false, laid := [("loop.example/g03201/impl.letters", laid_loop_example_g03201_impl_letters)] }
def FnExactShortestWordSaid : Prop := fnExactShortestWordRow.holds Tryd.pinned (OpenSpec.ofChange fnExactShortestWordSpec)

/-- ITS FALSE NEIGHBOUR: 'it returns false'. Refute it at one input. -/
def fnExactShortestWordWrong : ChangeSpec := { name := "fnExactShortestWord", vars := ["loop.example/g03201/impl.letters"], fn := fun _ => fun
  | [d1, d2, d3, g1] => { results := [.lit (.bool false)], args := [d1, d2, d3], vars := [g1] }
  | _ => none }
def FnExactShortestWordWrongFalsely : Prop := fnExactShortestWordRow.holds Tryd.pinned (OpenSpec.ofChange fnExactShortestWordWrong)

/- THE SECOND FORM. 'bulk': how many values and letters a reading holds, each counted each time it is reached (what is shared counts as often as it is met; a slice's spare places count too). A statement '..UptoSaid' is the law's where the arguments, and the package variables that the reading takes, are together of bulk at most 1048576: NARROWER than '..Said'. Prove '..Said' where nothing that the law and all that it calls make is longer than what came in: it says more and counts as full. Else prove '..UptoSaid'. A law counts once. -/
mutual
def uptoBulk {H : Type} : DataW H → Nat
  | .lit (.string bytes) => bytes.length + 1
  | .lit _ => 1
  | .nil => 1
  | .ptr d => uptoBulk d + 1
  | .slice elems spare => uptoBulkAll elems + uptoBulkAll spare + 1
  | .agg parts => uptoBulkAll parts + 1
  | .iface _ d => uptoBulk d + 1
  | .map entries => uptoBulkEntries entries + 1
  | .held _ => 1
def uptoBulkAll {H : Type} : List (DataW H) → Nat
  | [] => 0
  | d :: r => uptoBulk d + uptoBulkAll r
def uptoBulkEntries {H : Type} : List (Lit × DataW H) → Nat
  | [] => 0
  | x :: r => uptoBulkEntry x + uptoBulkEntries r
def uptoBulkEntry {H : Type} : Lit × DataW H → Nat
  | (.string bytes, d) => bytes.length + uptoBulk d + 1
  | (_, d) => uptoBulk d + 1
 end
def uptoSmall : (H : Type) → List (DataW H) → Bool := fun _ ds => decide (uptoBulkAll ds ≤ 1048576)
def OpenSpec.upto (s : _root_.Go.ChangeSpec) : _root_.Go.OpenSpec := { _root_.Go.OpenSpec.ofChange s with cond := some uptoSmall }

/-- 'laws.FnExactValueOf', WHERE WHAT IT READS IS OF BULK AT MOST 1048576: true; the input reads as it did. -/
def fnExactValueOfUptoRow : OpenClaim := { program := "ytlgaihofaiigcaadoor", sum := "ed078b35baebdd54b591deba1db7766533e977f26ecad912b4bee4dabe0e8e30", func := "loop.example/g03201/laws.FnExactValueOf", spec := "fnExactValueOf", unfollowed := true, recurses := true, named := ["loop.example/g03201/impl.letters"], apart := false, laid := [("loop.example/g03201/impl.letters", laid_loop_example_g03201_impl_letters)], narrowed := true }
def FnExactValueOfUptoSaid : Prop := fnExactValueOfUptoRow.holds Tryd.pinned (OpenSpec.upto fnExactValueOfSpec)

/-- 'laws.FnExactSatisfiesRules', WHERE WHAT IT READS IS OF BULK AT MOST 1048576: true; the input reads as it did. -/
def fnExactSatisfiesRulesUptoRow : OpenClaim := { program := "ytlgaihofaiigcaadoor", sum := "ed078b35baebdd54b591deba1db7766533e977f26ecad912b4bee4dabe0e8e30", func := "loop.example/g03201/laws.FnExactSatisfiesRules", spec := "fnExactSatisfiesRules", unfollowed := true, recurses := true, named := ["loop.example/g03201/impl.letters"], apart := false, laid := [("loop.example/g03201/impl.letters", laid_loop_example_g03201_impl_letters)], narrowed := true }
def FnExactSatisfiesRulesUptoSaid : Prop := fnExactSatisfiesRulesUptoRow.holds Tryd.pinned (OpenSpec.upto fnExactSatisfiesRulesSpec)

/-- 'laws.FnExactCountMaps', WHERE WHAT IT READS IS OF BULK AT MOST 1048576: true; the input reads as it did. -/
def fnExactCountMapsUptoRow : OpenClaim := { program := "ytlgaihofaiigcaadoor", sum := "ed078b35baebdd54b591deba1db7766533e977f26ecad912b4bee4dabe0e8e30", func := "loop.example/g03201/laws.FnExactCountMaps", spec := "fnExactCountMaps", unfollowed := true, recurses := true, named := ["loop.example/g03201/impl.letters"], apart := false, laid := [("loop.example/g03201/impl.letters", laid_loop_example_g03201_impl_letters)], narrowed := true }
def FnExactCountMapsUptoSaid : Prop := fnExactCountMapsUptoRow.holds Tryd.pinned (OpenSpec.upto fnExactCountMapsSpec)

/-- 'laws.FnExactFirstMap', WHERE WHAT IT READS IS OF BULK AT MOST 1048576: true; the input reads as it did. -/
def fnExactFirstMapUptoRow : OpenClaim := { program := "ytlgaihofaiigcaadoor", sum := "ed078b35baebdd54b591deba1db7766533e977f26ecad912b4bee4dabe0e8e30", func := "loop.example/g03201/laws.FnExactFirstMap", spec := "fnExactFirstMap", unfollowed := true, recurses := true, named := ["loop.example/g03201/impl.letters"], apart := false, laid := [("loop.example/g03201/impl.letters", laid_loop_example_g03201_impl_letters)], narrowed := true }
def FnExactFirstMapUptoSaid : Prop := fnExactFirstMapUptoRow.holds Tryd.pinned (OpenSpec.upto fnExactFirstMapSpec)

/-- 'laws.FnExactReachedBy', WHERE WHAT IT READS IS OF BULK AT MOST 1048576: true; the input reads as it did. -/
def fnExactReachedByUptoRow : OpenClaim := { program := "ytlgaihofaiigcaadoor", sum := "ed078b35baebdd54b591deba1db7766533e977f26ecad912b4bee4dabe0e8e30", func := "loop.example/g03201/laws.FnExactReachedBy", spec := "fnExactReachedBy", unfollowed := true, recurses := true, named := ["loop.example/g03201/impl.letters"], apart := false, laid := [("loop.example/g03201/impl.letters", laid_loop_example_g03201_impl_letters)], narrowed := true }
def FnExactReachedByUptoSaid : Prop := fnExactReachedByUptoRow.holds Tryd.pinned (OpenSpec.upto fnExactReachedBySpec)

/-- 'laws.FnExactShortestWord', WHERE WHAT IT READS IS OF BULK AT MOST 1048576: true; the input reads as it did. -/
def fnExactShortestWordUptoRow : OpenClaim := { program := "ytlgaihofaiigcaadoor", sum := "ed078b35baebdd54b591deba1db7766533e977f26ecad912b4bee4dabe0e8e30", func := "loop.example/g03201/laws.FnExactShortestWord", spec := "fnExactShortestWord", unfollowed := true, recurses := true, named := ["loop.example/g03201/impl.letters"], apart := false, laid := [("loop.example/g03201/impl.letters", laid_loop_example_g03201_impl_letters)], narrowed := true }
def FnExactShortestWordUptoSaid : Prop := fnExactShortestWordUptoRow.holds Tryd.pinned (OpenSpec.upto fnExactShortestWordSpec)

end Rows
end Go.Proofs.YtlgaihofaiigcaaDoor
