/-
  No cell of these rows narrows 'for every input' (looked for: loops, veiled, ifaces, maps, wideKeys, modest, calm, conditions, laid).
  DERIVED. THE GIVEN ROWS OF THIS SEAT. 4 by the template 'for every input the law returns true; each argument reads behind the call as it read before'; 0 by the template 'total and deterministic' (their statements: YtpmghdecfpfahaaTotals.lean).
  GIVEN WITH THE SEED: the statements are not yours to turn. If you find one false, say at which input.
  Laid BY PROGRAM, IN A SANDBOX (cutbox-rows.mjs): the forced cells as the released guide's own fill.sh prints them over the translation 7b6a795cf6c3368a… (all of the seat's roots in one cut). By AI agents, Wed Nov 11 2026. No macro, syntax, notation, axiom, sorry.
-/
import Derived.Test.YtpmghdecfpfahaaChecked
import GoSem.Claim
import GoSem.ClaimJoined
import GoSem.ClaimMapViews
import Derived.JoinedTies
import Derived.KernelRfl
namespace Go.Proofs.Ytpmghdecfpfahaa
/- THE CELL 'sum', in the pinned program and in every row, IS THE sha256 OF THE DUMP (.gsa) THAT YtpmghdecfpfahaaProg.lean LOADS. Nothing in Lean hashes anything: it is a label: what it is worth is what the hold of that sum in a sandbox is worth. -/
noncomputable def Try.pinned : Pinned := { name := "ytpmghdecfpfahaa", sum := "7b6a795cf6c3368ac6629f93f82db9754149bb05f2d0f19fb0002358237a6cda", checked := Try.checked }
namespace Rows
def none {H : Type} : Left H := { results := [], args := [] }

/-- 'laws.FnExactHasRule': WHATEVER THE INPUT: true; the input reads as it did. -/
def fnExactHasRuleSpec : ChangeSpec := { name := "fnExactHasRule", fn := fun _ => fun
  | [d1, d2] => { results := [.lit (.bool true)], args := [d1, d2] }
  | _ => none }
def fnExactHasRuleRow : OpenClaim := { program := "ytpmghdecfpfahaa", sum := "7b6a795cf6c3368ac6629f93f82db9754149bb05f2d0f19fb0002358237a6cda", func := "loop.example/g03201/laws.FnExactHasRule", spec := "fnExactHasRule", plainKeys := false, apart := false }
def FnExactHasRuleSaid : Prop := fnExactHasRuleRow.holds Try.pinned (OpenSpec.ofChange fnExactHasRuleSpec)

/-- ITS FALSE NEIGHBOUR: 'it returns false'. Refute it at one input. -/
def fnExactHasRuleWrong : ChangeSpec := { name := "fnExactHasRule", fn := fun _ => fun
  | [d1, d2] => { results := [.lit (.bool false)], args := [d1, d2] }
  | _ => none }
def FnExactHasRuleWrongFalsely : Prop := fnExactHasRuleRow.holds Try.pinned (OpenSpec.ofChange fnExactHasRuleWrong)

/-- 'laws.FnExactLongestSide': WHATEVER THE INPUT: true; the input reads as it did. -/
def fnExactLongestSideSpec : ChangeSpec := { name := "fnExactLongestSide", fn := fun _ => fun
  | [d] => { results := [.lit (.bool true)], args := [d] }
  | _ => none }
def fnExactLongestSideRow : OpenClaim := { program := "ytpmghdecfpfahaa", sum := "7b6a795cf6c3368ac6629f93f82db9754149bb05f2d0f19fb0002358237a6cda", func := "loop.example/g03201/laws.FnExactLongestSide", spec := "fnExactLongestSide", plainKeys := false, apart := false }
def FnExactLongestSideSaid : Prop := fnExactLongestSideRow.holds Try.pinned (OpenSpec.ofChange fnExactLongestSideSpec)

/-- ITS FALSE NEIGHBOUR: 'it returns false'. Refute it at one input. -/
def fnExactLongestSideWrong : ChangeSpec := { name := "fnExactLongestSide", fn := fun _ => fun
  | [d] => { results := [.lit (.bool false)], args := [d] }
  | _ => none }
def FnExactLongestSideWrongFalsely : Prop := fnExactLongestSideRow.holds Try.pinned (OpenSpec.ofChange fnExactLongestSideWrong)

/-- 'laws.FnExactFormatRule': WHATEVER THE INPUT: true; the input reads as it did. -/
def fnExactFormatRuleSpec : ChangeSpec := { name := "fnExactFormatRule", fn := fun _ => fun
  | [d] => { results := [.lit (.bool true)], args := [d] }
  | _ => none }
def fnExactFormatRuleRow : OpenClaim := { program := "ytpmghdecfpfahaa", sum := "7b6a795cf6c3368ac6629f93f82db9754149bb05f2d0f19fb0002358237a6cda", func := "loop.example/g03201/laws.FnExactFormatRule", spec := "fnExactFormatRule", inPlace := ["internal/abi.NoEscape", "internal/bytealg.MakeNoZero"], plainKeys := false, apart := false }
def FnExactFormatRuleSaid : Prop := fnExactFormatRuleRow.holds Try.pinned (OpenSpec.ofChange fnExactFormatRuleSpec)

/-- ITS FALSE NEIGHBOUR: 'it returns false'. Refute it at one input. -/
def fnExactFormatRuleWrong : ChangeSpec := { name := "fnExactFormatRule", fn := fun _ => fun
  | [d] => { results := [.lit (.bool false)], args := [d] }
  | _ => none }
def FnExactFormatRuleWrongFalsely : Prop := fnExactFormatRuleRow.holds Try.pinned (OpenSpec.ofChange fnExactFormatRuleWrong)

/-- 'laws.FnExactSameSystem': WHATEVER THE INPUT: true; the input reads as it did. -/
def fnExactSameSystemSpec : ChangeSpec := { name := "fnExactSameSystem", fn := fun _ => fun
  | [d1, d2] => { results := [.lit (.bool true)], args := [d1, d2] }
  | _ => none }
def fnExactSameSystemRow : OpenClaim := { program := "ytpmghdecfpfahaa", sum := "7b6a795cf6c3368ac6629f93f82db9754149bb05f2d0f19fb0002358237a6cda", func := "loop.example/g03201/laws.FnExactSameSystem", spec := "fnExactSameSystem", plainKeys := false, apart := false }
def FnExactSameSystemSaid : Prop := fnExactSameSystemRow.holds Try.pinned (OpenSpec.ofChange fnExactSameSystemSpec)

/-- ITS FALSE NEIGHBOUR: 'it returns false'. Refute it at one input. -/
def fnExactSameSystemWrong : ChangeSpec := { name := "fnExactSameSystem", fn := fun _ => fun
  | [d1, d2] => { results := [.lit (.bool false)], args := [d1, d2] }
  | _ => none }
def FnExactSameSystemWrongFalsely : Prop := fnExactSameSystemRow.holds Try.pinned (OpenSpec.ofChange fnExactSameSystemWrong)

/- THE SECOND FORM. 'bulk': how many values and letters a reading holds, each counted each time it is reached (what is shared counts as often as it is met; a slice's spare places count too). A statement '..UptoSaid' is the law's where the arguments, and the package variables that the reading takes, are together of bulk at most 1048576: NARROWER than '..Said'. Prove '..Said' where nothing that the law and all that it calls make is longer than what came in: it says more and counts as full. Else prove '..UptoSaid'. A law counts once. -/
mutual
def uptoBulk {H : Type} : DataW H → Nat
  | .lit (.string bytes) => bytes.length + 1
  | .lit _ => 1
  | .nil => 1
  | .ptr d => uptoBulk d + 1
  | .slice elems spare => uptoBulkAll elems + uptoBulkAll spare + 1
  | .agg parts => uptoBulkAll parts + 1
  | .iface _ d => uptoBulk d + 1
  | .map entries => uptoBulkEntries entries + 1
  | .held _ => 1
def uptoBulkAll {H : Type} : List (DataW H) → Nat
  | [] => 0
  | d :: r => uptoBulk d + uptoBulkAll r
def uptoBulkEntries {H : Type} : List (Lit × DataW H) → Nat
  | [] => 0
  | x :: r => uptoBulkEntry x + uptoBulkEntries r
def uptoBulkEntry {H : Type} : Lit × DataW H → Nat
  | (.string bytes, d) => bytes.length + uptoBulk d + 1
  | (_, d) => uptoBulk d + 1
 end
def uptoSmall : (H : Type) → List (DataW H) → Bool := fun _ ds => decide (uptoBulkAll ds ≤ 1048576)
def OpenSpec.upto (s : _root_.Go.ChangeSpec) : _root_.Go.OpenSpec := { _root_.Go.OpenSpec.ofChange s with cond := some uptoSmall }

/-- 'laws.FnExactHasRule', WHERE WHAT IT READS IS OF BULK AT MOST 1048576: true; the input reads as it did. -/
def fnExactHasRuleUptoRow : OpenClaim := { program := "ytpmghdecfpfahaa", sum := "7b6a795cf6c3368ac6629f93f82db9754149bb05f2d0f19fb0002358237a6cda", func := "loop.example/g03201/laws.FnExactHasRule", spec := "fnExactHasRule", plainKeys := false, apart := false, narrowed := true }
def FnExactHasRuleUptoSaid : Prop := fnExactHasRuleUptoRow.holds Try.pinned (OpenSpec.upto fnExactHasRuleSpec)

/-- 'laws.FnExactLongestSide', WHERE WHAT IT READS IS OF BULK AT MOST 1048576: true; the input reads as it did. -/
def fnExactLongestSideUptoRow : OpenClaim := { program := "ytpmghdecfpfahaa", sum := "7b6a795cf6c3368ac6629f93f82db9754149bb05f2d0f19fb0002358237a6cda", func := "loop.example/g03201/laws.FnExactLongestSide", spec := "fnExactLongestSide", plainKeys := false, apart := false, narrowed := true }
def FnExactLongestSideUptoSaid : Prop := fnExactLongestSideUptoRow.holds Try.pinned (OpenSpec.upto fnExactLongestSideSpec)

/-- 'laws.FnExactFormatRule', WHERE WHAT IT READS IS OF BULK AT MOST 1048576: true; the input reads as it did. -/
def fnExactFormatRuleUptoRow : OpenClaim := { program := "ytpmghdecfpfahaa", sum := "7b6a795cf6c3368ac6629f93f82db9754149bb05f2d0f19fb0002358237a6cda", func := "loop.example/g03201/laws.FnExactFormatRule", spec := "fnExactFormatRule", inPlace := ["internal/abi.NoEscape", "internal/bytealg.MakeNoZero"], plainKeys := false, apart := false, narrowed := true }
def FnExactFormatRuleUptoSaid : Prop := fnExactFormatRuleUptoRow.holds Try.pinned (OpenSpec.upto fnExactFormatRuleSpec)

/-- 'laws.FnExactSameSystem', WHERE WHAT IT READS IS OF BULK AT MOST 1048576: true; the input reads as it did. -/
def fnExactSameSystemUptoRow : OpenClaim := { program := "ytpmghdecfpfahaa", sum := "7b6a795cf6c3368ac6629f93f82db9754149bb05f2d0f19fb0002358237a6cda", func := "loop.example/g03201/laws.FnExactSameSystem", spec := "fnExactSameSystem", plainKeys := false, apart := false, narrowed := true }
def FnExactSameSystemUptoSaid : Prop := fnExactSameSystemUptoRow.holds Try.pinned (OpenSpec.upto fnExactSameSystemSpec)

end Rows
end Go.Proofs.Ytpmghdecfpfahaa
