/-
  NARROWER THAN 'FOR EVERY INPUT', by the rows' own cells (each row's printed sentence says how): FnTurns: laid · FnExactPairsOf: laid · FnExactOpenPairs: laid · FnExactIsComplete: laid · FnExactCountPairs: laid · FnExactWorkOk: laid · FnExactStartWork: laid · FnExactComplete: laid · FnExactTurnsFor: laid.
  DERIVED. THE GIVEN ROWS OF THIS SEAT. 9 by the template 'for every input the law returns true; each argument reads behind the call as it read before'; 0 by the template 'total and deterministic' (their statements: YtnhcaahngmimcaaDoorTotals.lean).
  GIVEN WITH THE SEED: the statements are not yours to turn. If you find one false, say at which input.
  Laid BY PROGRAM, IN A SANDBOX (cutbox-rows.mjs): the forced cells as the released guide's own fill.sh prints them over the translation 6914951d2dfe9943… (all of the seat's roots in one cut). By AI agents, Wed Nov 11 2026. No macro, syntax, notation, axiom, sorry.
-/
import Derived.Test.YtnhcaahngmimcaaDoorChecked
import GoSem.Claim
import GoSem.ClaimJoined
import GoSem.ClaimMapViews
import Derived.JoinedTies
import Derived.KernelRfl
namespace Go.Proofs.YtnhcaahngmimcaaDoor
/- THE CELL 'sum', in the pinned program and in every row, IS THE sha256 OF THE DUMP (.gsa) THAT YtnhcaahngmimcaaDoorProg.lean LOADS. Nothing in Lean hashes anything: it is a label: what it is worth is what the hold of that sum in a sandbox is worth. -/
noncomputable def Tryd.pinned : Pinned := { name := "ytnhcaahngmimcaadoor", sum := "6914951d2dfe99430440230143ec5589fb6d693d8f45d2efd681c48bcd2d15ea", checked := Tryd.checked }
namespace Rows
def none {H : Type} : Left H := { results := [], args := [] }

/- WHAT THE LISTED PACKAGE-LEVEL VARIABLES READ AS WHEN THE CALL BEGINS. Each datum BY PROGRAM (the guide's laid-datum.mjs) off the statement by which the dump's own 'gosem.cut.vars' lays the variable. In a bare row this is a premise. The card (YtnhcaahngmimcaaDoorCards.lean) ties it to the program's text. -/
def laid_loop_example_g03201_impl_letters {H : Type} : DataW H := .agg [.lit (.int .u8 97), .lit (.int .u8 98), .lit (.int .u8 99), .lit (.int .u8 100)]

/-- 'laws.FnTurns': WHATEVER THE INPUT: true; the input reads as it did. -/
def fnTurnsSpec : ChangeSpec := { name := "fnTurns", vars := ["loop.example/g03201/impl.letters"], fn := fun _ => fun
  | [d, g1] => { results := [.lit (.bool true)], args := [d], vars := [g1] }
  | _ => none }
def fnTurnsRow : OpenClaim := { program := "ytnhcaahngmimcaadoor", sum := "6914951d2dfe99430440230143ec5589fb6d693d8f45d2efd681c48bcd2d15ea", func := "loop.example/g03201/laws.FnTurns", spec := "fnTurns", inPlace := ["internal/bytealg.IndexByteString", "internal/bytealg.IndexString"], unfollowed := true, recurses := true, named := ["loop.example/g03201/impl.letters", "internal/bytealg.MaxLen"], plainKeys := false, leaving := true, apart := false, laid := [("loop.example/g03201/impl.letters", laid_loop_example_g03201_impl_letters)] }
def FnTurnsSaid : Prop := fnTurnsRow.holds Tryd.pinned (OpenSpec.ofChange fnTurnsSpec)

/-- ITS FALSE NEIGHBOUR: 'it returns false'. Refute it at one input. -/
def fnTurnsWrong : ChangeSpec := { name := "fnTurns", vars := ["loop.example/g03201/impl.letters"], fn := fun _ => fun
  | [d, g1] => { results := [.lit (.bool false)], args := [d], vars := [g1] }
  | _ => none }
def FnTurnsWrongFalsely : Prop := fnTurnsRow.holds Tryd.pinned (OpenSpec.ofChange fnTurnsWrong)

/-- 'laws.FnExactPairsOf': WHATEVER THE INPUT: true; the input reads as it did. -/
def fnExactPairsOfSpec : ChangeSpec := { name := "fnExactPairsOf", vars := ["loop.example/g03201/impl.letters"], fn := fun _ => fun
  | [d, g1] => { results := [.lit (.bool true)], args := [d], vars := [g1] }
  | _ => none }
def fnExactPairsOfRow : OpenClaim := { program := "ytnhcaahngmimcaadoor", sum := "6914951d2dfe99430440230143ec5589fb6d693d8f45d2efd681c48bcd2d15ea", func := "loop.example/g03201/laws.FnExactPairsOf", spec := "fnExactPairsOf", named := ["loop.example/g03201/impl.letters"], plainKeys := false, leaving := true, apart := false, laid := [("loop.example/g03201/impl.letters", laid_loop_example_g03201_impl_letters)] }
def FnExactPairsOfSaid : Prop := fnExactPairsOfRow.holds Tryd.pinned (OpenSpec.ofChange fnExactPairsOfSpec)

/-- ITS FALSE NEIGHBOUR: 'it returns false'. Refute it at one input. -/
def fnExactPairsOfWrong : ChangeSpec := { name := "fnExactPairsOf", vars := ["loop.example/g03201/impl.letters"], fn := fun _ => fun
  | [d, g1] => { results := [.lit (.bool false)], args := [d], vars := [g1] }
  | _ => none }
def FnExactPairsOfWrongFalsely : Prop := fnExactPairsOfRow.holds Tryd.pinned (OpenSpec.ofChange fnExactPairsOfWrong)

/-- 'laws.FnExactOpenPairs': WHATEVER THE INPUT: true; the input reads as it did. -/
def fnExactOpenPairsSpec : ChangeSpec := { name := "fnExactOpenPairs", vars := ["loop.example/g03201/impl.letters"], fn := fun _ => fun
  | [d, g1] => { results := [.lit (.bool true)], args := [d], vars := [g1] }
  | _ => none }
def fnExactOpenPairsRow : OpenClaim := { program := "ytnhcaahngmimcaadoor", sum := "6914951d2dfe99430440230143ec5589fb6d693d8f45d2efd681c48bcd2d15ea", func := "loop.example/g03201/laws.FnExactOpenPairs", spec := "fnExactOpenPairs", unfollowed := true, recurses := true, named := ["loop.example/g03201/impl.letters"], plainKeys := false, leaving := true, apart := false, laid := [("loop.example/g03201/impl.letters", laid_loop_example_g03201_impl_letters)] }
def FnExactOpenPairsSaid : Prop := fnExactOpenPairsRow.holds Tryd.pinned (OpenSpec.ofChange fnExactOpenPairsSpec)

/-- ITS FALSE NEIGHBOUR: 'it returns false'. Refute it at one input. -/
def fnExactOpenPairsWrong : ChangeSpec := { name := "fnExactOpenPairs", vars := ["loop.example/g03201/impl.letters"], fn := fun _ => fun
  | [d, g1] => { results := [.lit (.bool false)], args := [d], vars := [g1] }
  | _ => none }
def FnExactOpenPairsWrongFalsely : Prop := fnExactOpenPairsRow.holds Tryd.pinned (OpenSpec.ofChange fnExactOpenPairsWrong)

/-- 'laws.FnExactIsComplete': WHATEVER THE INPUT: true; the input reads as it did. -/
def fnExactIsCompleteSpec : ChangeSpec := { name := "fnExactIsComplete", vars := ["loop.example/g03201/impl.letters"], fn := fun _ => fun
  | [d, g1] => { results := [.lit (.bool true)], args := [d], vars := [g1] }
  | _ => none }
def fnExactIsCompleteRow : OpenClaim := { program := "ytnhcaahngmimcaadoor", sum := "6914951d2dfe99430440230143ec5589fb6d693d8f45d2efd681c48bcd2d15ea", func := "loop.example/g03201/laws.FnExactIsComplete", spec := "fnExactIsComplete", unfollowed := true, recurses := true, named := ["loop.example/g03201/impl.letters"], plainKeys := false, leaving := true, apart := false, laid := [("loop.example/g03201/impl.letters", laid_loop_example_g03201_impl_letters)] }
def FnExactIsCompleteSaid : Prop := fnExactIsCompleteRow.holds Tryd.pinned (OpenSpec.ofChange fnExactIsCompleteSpec)

/-- ITS FALSE NEIGHBOUR: 'it returns false'. Refute it at one input. -/
def fnExactIsCompleteWrong : ChangeSpec := { name := "fnExactIsComplete", vars := ["loop.example/g03201/impl.letters"], fn := fun _ => fun
  | [d, g1] => { results := [.lit (.bool false)], args := [d], vars := [g1] }
  | _ => none }
def FnExactIsCompleteWrongFalsely : Prop := fnExactIsCompleteRow.holds Tryd.pinned (OpenSpec.ofChange fnExactIsCompleteWrong)

/-- 'laws.FnExactCountPairs': WHATEVER THE INPUT: true; the input reads as it did. -/
def fnExactCountPairsSpec : ChangeSpec := { name := "fnExactCountPairs", vars := ["loop.example/g03201/impl.letters"], fn := fun _ => fun
  | [d, g1] => { results := [.lit (.bool true)], args := [d], vars := [g1] }
  | _ => none }
def fnExactCountPairsRow : OpenClaim := { program := "ytnhcaahngmimcaadoor", sum := "6914951d2dfe99430440230143ec5589fb6d693d8f45d2efd681c48bcd2d15ea", func := "loop.example/g03201/laws.FnExactCountPairs", spec := "fnExactCountPairs", unfollowed := true, recurses := true, named := ["loop.example/g03201/impl.letters"], plainKeys := false, leaving := true, apart := false, laid := [("loop.example/g03201/impl.letters", laid_loop_example_g03201_impl_letters)] }
def FnExactCountPairsSaid : Prop := fnExactCountPairsRow.holds Tryd.pinned (OpenSpec.ofChange fnExactCountPairsSpec)

/-- ITS FALSE NEIGHBOUR: 'it returns false'. Refute it at one input. -/
def fnExactCountPairsWrong : ChangeSpec := { name := "fnExactCountPairs", vars := ["loop.example/g03201/impl.letters"], fn := fun _ => fun
  | [d, g1] => { results := [.lit (.bool false)], args := [d], vars := [g1] }
  | _ => none }
def FnExactCountPairsWrongFalsely : Prop := fnExactCountPairsRow.holds Tryd.pinned (OpenSpec.ofChange fnExactCountPairsWrong)

/-- 'laws.FnExactWorkOk': WHATEVER THE INPUT: true; the input reads as it did. -/
def fnExactWorkOkSpec : ChangeSpec := { name := "fnExactWorkOk", vars := ["loop.example/g03201/impl.letters"], fn := fun _ => fun
  | [d, g1] => { results := [.lit (.bool true)], args := [d], vars := [g1] }
  | _ => none }
def fnExactWorkOkRow : OpenClaim := { program := "ytnhcaahngmimcaadoor", sum := "6914951d2dfe99430440230143ec5589fb6d693d8f45d2efd681c48bcd2d15ea", func := "loop.example/g03201/laws.FnExactWorkOk", spec := "fnExactWorkOk", named := ["loop.example/g03201/impl.letters"], plainKeys := false, apart := false, laid := [("loop.example/g03201/impl.letters", laid_loop_example_g03201_impl_letters)] }
def FnExactWorkOkSaid : Prop := fnExactWorkOkRow.holds Tryd.pinned (OpenSpec.ofChange fnExactWorkOkSpec)

/-- ITS FALSE NEIGHBOUR: 'it returns false'. Refute it at one input. -/
def fnExactWorkOkWrong : ChangeSpec := { name := "fnExactWorkOk", vars := ["loop.example/g03201/impl.letters"], fn := fun _ => fun
  | [d, g1] => { results := [.lit (.bool false)], args := [d], vars := [g1] }
  | _ => none }
def FnExactWorkOkWrongFalsely : Prop := fnExactWorkOkRow.holds Tryd.pinned (OpenSpec.ofChange fnExactWorkOkWrong)

/-- 'laws.FnExactStartWork': WHATEVER THE INPUT: true; the input reads as it did. -/
def fnExactStartWorkSpec : ChangeSpec := { name := "fnExactStartWork", vars := ["loop.example/g03201/impl.letters"], fn := fun _ => fun
  | [d1, d2, g1] => { results := [.lit (.bool true)], args := [d1, d2], vars := [g1] }
  | _ => none }
def fnExactStartWorkRow : OpenClaim := { program := "ytnhcaahngmimcaadoor", sum := "6914951d2dfe99430440230143ec5589fb6d693d8f45d2efd681c48bcd2d15ea", func := "loop.example/g03201/laws.FnExactStartWork", spec := "fnExactStartWork", named := ["loop.example/g03201/impl.letters"], plainKeys := false, apart := false, laid := [("loop.example/g03201/impl.letters", laid_loop_example_g03201_impl_letters)] }
def FnExactStartWorkSaid : Prop := fnExactStartWorkRow.holds Tryd.pinned (OpenSpec.ofChange fnExactStartWorkSpec)

/-- ITS FALSE NEIGHBOUR: 'it returns false'. Refute it at one input. -/
def fnExactStartWorkWrong : ChangeSpec := { name := "fnExactStartWork", vars := ["loop.example/g03201/impl.letters"], fn := fun _ => fun
  | [d1, d2, g1] => { results := [.lit (.bool false)], args := [d1, d2], vars := [g1] }
  | _ => none }
def FnExactStartWorkWrongFalsely : Prop := fnExactStartWorkRow.holds Tryd.pinned (OpenSpec.ofChange fnExactStartWorkWrong)

/-- 'laws.FnExactComplete': WHATEVER THE INPUT: true; the input reads as it did. -/
def fnExactCompleteSpec : ChangeSpec := { name := "fnExactComplete", vars := ["loop.example/g03201/impl.letters"], fn := fun _ => fun
  | [d1, d2, g1] => { results := [.lit (.bool true)], args := [d1, d2], vars := [g1] }
  | _ => none }
def fnExactCompleteRow : OpenClaim := { program := "ytnhcaahngmimcaadoor", sum := "6914951d2dfe99430440230143ec5589fb6d693d8f45d2efd681c48bcd2d15ea", func := "loop.example/g03201/laws.FnExactComplete", spec := "fnExactComplete", inPlace := ["internal/bytealg.IndexByteString", "internal/bytealg.IndexString"], unfollowed := true, recurses := true, named := ["loop.example/g03201/impl.letters", "internal/bytealg.MaxLen"], plainKeys := false, leaving := true, apart := false, laid := [("loop.example/g03201/impl.letters", laid_loop_example_g03201_impl_letters)] }
def FnExactCompleteSaid : Prop := fnExactCompleteRow.holds Tryd.pinned (OpenSpec.ofChange fnExactCompleteSpec)

/-- ITS FALSE NEIGHBOUR: 'it returns false'. Refute it at one input. -/
def fnExactCompleteWrong : ChangeSpec := { name := "fnExactComplete", vars := ["loop.example/g03201/impl.letters"], fn := fun _ => fun
  | [d1, d2, g1] => { results := [.lit (.bool false)], args := [d1, d2], vars := [g1] }
  | _ => none }
def FnExactCompleteWrongFalsely : Prop := fnExactCompleteRow.holds Tryd.pinned (OpenSpec.ofChange fnExactCompleteWrong)

/-- 'laws.FnExactTurnsFor': WHATEVER THE INPUT: true; the input reads as it did. -/
def fnExactTurnsForSpec : ChangeSpec := { name := "fnExactTurnsFor", vars := ["loop.example/g03201/impl.letters"], fn := fun _ => fun
  | [d1, d2, g1] => { results := [.lit (.bool true)], args := [d1, d2], vars := [g1] }
  | _ => none }
def fnExactTurnsForRow : OpenClaim := { program := "ytnhcaahngmimcaadoor", sum := "6914951d2dfe99430440230143ec5589fb6d693d8f45d2efd681c48bcd2d15ea", func := "loop.example/g03201/laws.FnExactTurnsFor", spec := "fnExactTurnsFor", inPlace := ["internal/bytealg.IndexByteString", "internal/bytealg.IndexString"], unfollowed := true, recurses := true, named := ["loop.example/g03201/impl.letters", "internal/bytealg.MaxLen"], plainKeys := false, leaving := true, apart := false, laid := [("loop.example/g03201/impl.letters", laid_loop_example_g03201_impl_letters)] }
def FnExactTurnsForSaid : Prop := fnExactTurnsForRow.holds Tryd.pinned (OpenSpec.ofChange fnExactTurnsForSpec)

/-- ITS FALSE NEIGHBOUR: 'it returns false'. Refute it at one input. -/
def fnExactTurnsForWrong : ChangeSpec := { name := "fnExactTurnsFor", vars := ["loop.example/g03201/impl.letters"], fn := fun _ => fun
  | [d1, d2, g1] => { results := [.lit (.bool false)], args := [d1, d2], vars := [g1] }
  | _ => none }
def FnExactTurnsForWrongFalsely : Prop := fnExactTurnsForRow.holds Tryd.pinned (OpenSpec.ofChange fnExactTurnsForWrong)

/- THE SECOND FORM. 'bulk': how many values and letters a reading holds, each counted each time it is reached (what is shared counts as often as it is met; a slice's spare places count too). A statement '..UptoSaid' is the law's where the arguments, and the package variables that the reading takes, are together of bulk at most 1048576: NARROWER than '..Said'. Prove '..Said' where nothing that the law and all that it calls make is longer than what came in: it says more and counts as full. Else prove '..UptoSaid'. A law counts once. -/
mutual
def uptoBulk {H : Type} : DataW H → Nat
  | .lit (.string bytes) => bytes.length + 1
  | .lit _ => 1
  | .nil => 1
  | .ptr d => uptoBulk d + 1
  | .slice elems spare => uptoBulkAll elems + uptoBulkAll spare + 1
  | .agg parts => uptoBulkAll parts + 1
  | .iface _ d => uptoBulk d + 1
  | .map entries => uptoBulkEntries entries + 1
  | .held _ => 1
def uptoBulkAll {H : Type} : List (DataW H) → Nat
  | [] => 0
  | d :: r => uptoBulk d + uptoBulkAll r
def uptoBulkEntries {H : Type} : List (Lit × DataW H) → Nat
  | [] => 0
  | x :: r => uptoBulkEntry x + uptoBulkEntries r
def uptoBulkEntry {H : Type} : Lit × DataW H → Nat
  | (.string bytes, d) => bytes.length + uptoBulk d + 1
  | (_, d) => uptoBulk d + 1
 end
def uptoSmall : (H : Type) → List (DataW H) → Bool := fun _ ds => decide (uptoBulkAll ds ≤ 1048576)
def OpenSpec.upto (s : _root_.Go.ChangeSpec) : _root_.Go.OpenSpec := { _root_.Go.OpenSpec.ofChange s with cond := some uptoSmall }

/-- 'laws.FnTurns', WHERE WHAT IT READS IS OF BULK AT MOST 1048576: true; the input reads as it did. -/
def fnTurnsUptoRow : OpenClaim := { program := "ytnhcaahngmimcaadoor", sum := "6914951d2dfe99430440230143ec5589fb6d693d8f45d2efd681c48bcd2d15ea", func := "loop.example/g03201/laws.FnTurns", spec := "fnTurns", inPlace := ["internal/bytealg.IndexByteString", "internal/bytealg.IndexString"], unfollowed := true, recurses := true, named := ["loop.example/g03201/impl.letters", "internal/bytealg.MaxLen"], plainKeys := false, leaving := true, apart := false, laid := [("loop.example/g03201/impl.letters", laid_loop_example_g03201_impl_letters)], narrowed := true }
def FnTurnsUptoSaid : Prop := fnTurnsUptoRow.holds Tryd.pinned (OpenSpec.upto fnTurnsSpec)

/-- 'laws.FnExactPairsOf', WHERE WHAT IT READS IS OF BULK AT MOST 1048576: true; the input reads as it did. -/
def fnExactPairsOfUptoRow : OpenClaim := { program := "ytnhcaahngmimcaadoor", sum := "6914951d2dfe99430440230143ec5589fb6d693d8f45d2efd681c48bcd2d15ea", func := "loop.example/g03201/laws.FnExactPairsOf", spec := "fnExactPairsOf", named := ["loop.example/g03201/impl.letters"], plainKeys := false, leaving := true, apart := false, laid := [("loop.example/g03201/impl.letters", laid_loop_example_g03201_impl_letters)], narrowed := true }
def FnExactPairsOfUptoSaid : Prop := fnExactPairsOfUptoRow.holds Tryd.pinned (OpenSpec.upto fnExactPairsOfSpec)

/-- 'laws.FnExactOpenPairs', WHERE WHAT IT READS IS OF BULK AT MOST 1048576: true; the input reads as it did. -/
def fnExactOpenPairsUptoRow : OpenClaim := { program := "ytnhcaahngmimcaadoor", sum := "6914951d2dfe99430440230143ec5589fb6d693d8f45d2efd681c48bcd2d15ea", func := "loop.example/g03201/laws.FnExactOpenPairs", spec := "fnExactOpenPairs", unfollowed := true, recurses := true, named := ["loop.example/g03201/impl.letters"], plainKeys := false, leaving := true, apart := false, laid := [("loop.example/g03201/impl.letters", laid_loop_example_g03201_impl_letters)], narrowed := true }
def FnExactOpenPairsUptoSaid : Prop := fnExactOpenPairsUptoRow.holds Tryd.pinned (OpenSpec.upto fnExactOpenPairsSpec)

/-- 'laws.FnExactIsComplete', WHERE WHAT IT READS IS OF BULK AT MOST 1048576: true; the input reads as it did. -/
def fnExactIsCompleteUptoRow : OpenClaim := { program := "ytnhcaahngmimcaadoor", sum := "6914951d2dfe99430440230143ec5589fb6d693d8f45d2efd681c48bcd2d15ea", func := "loop.example/g03201/laws.FnExactIsComplete", spec := "fnExactIsComplete", unfollowed := true, recurses := true, named := ["loop.example/g03201/impl.letters"], plainKeys := false, leaving := true, apart := false, laid := [("loop.example/g03201/impl.letters", laid_loop_example_g03201_impl_letters)], narrowed := true }
def FnExactIsCompleteUptoSaid : Prop := fnExactIsCompleteUptoRow.holds Tryd.pinned (OpenSpec.upto fnExactIsCompleteSpec)

/-- 'laws.FnExactCountPairs', WHERE WHAT IT READS IS OF BULK AT MOST 1048576: true; the input reads as it did. -/
def fnExactCountPairsUptoRow : OpenClaim := { program := "ytnhcaahngmimcaadoor", sum := "6914951d2dfe99430440230143ec5589fb6d693d8f45d2efd681c48bcd2d15ea", func := "loop.example/g03201/laws.FnExactCountPairs", spec := "fnExactCountPairs", unfollowed := true, recurses := true, named := ["loop.example/g03201/impl.letters"], plainKeys := false, leaving := true, apart := false, laid := [("loop.example/g03201/impl.letters", laid_loop_example_g03201_impl_letters)], narrowed := true }
def FnExactCountPairsUptoSaid : Prop := fnExactCountPairsUptoRow.holds Tryd.pinned (OpenSpec.upto fnExactCountPairsSpec)

/-- 'laws.FnExactWorkOk', WHERE WHAT IT READS IS OF BULK AT MOST 1048576: true; the input reads as it did. -/
def fnExactWorkOkUptoRow : OpenClaim := { program := "ytnhcaahngmimcaadoor", sum := "6914951d2dfe99430440230143ec5589fb6d693d8f45d2efd681c48bcd2d15ea", func := "loop.example/g03201/laws.FnExactWorkOk", spec := "fnExactWorkOk", named := ["loop.example/g03201/impl.letters"], plainKeys := false, apart := false, laid := [("loop.example/g03201/impl.letters", laid_loop_example_g03201_impl_letters)], narrowed := true }
def FnExactWorkOkUptoSaid : Prop := fnExactWorkOkUptoRow.holds Tryd.pinned (OpenSpec.upto fnExactWorkOkSpec)

/-- 'laws.FnExactStartWork', WHERE WHAT IT READS IS OF BULK AT MOST 1048576: true; the input reads as it did. -/
def fnExactStartWorkUptoRow : OpenClaim := { program := "ytnhcaahngmimcaadoor", sum := "6914951d2dfe99430440230143ec5589fb6d693d8f45d2efd681c48bcd2d15ea", func := "loop.example/g03201/laws.FnExactStartWork", spec := "fnExactStartWork", named := ["loop.example/g03201/impl.letters"], plainKeys := false, apart := false, laid := [("loop.example/g03201/impl.letters", laid_loop_example_g03201_impl_letters)], narrowed := true }
def FnExactStartWorkUptoSaid : Prop := fnExactStartWorkUptoRow.holds Tryd.pinned (OpenSpec.upto fnExactStartWorkSpec)

/-- 'laws.FnExactComplete', WHERE WHAT IT READS IS OF BULK AT MOST 1048576: true; the input reads as it did. -/
def fnExactCompleteUptoRow : OpenClaim := { program := "ytnhcaahngmimcaadoor", sum := "6914951d2dfe99430440230143ec5589fb6d693d8f45d2efd681c48bcd2d15ea", func := "loop.example/g03201/laws.FnExactComplete", spec := "fnExactComplete", inPlace := ["internal/bytealg.IndexByteString", "internal/bytealg.IndexString"], unfollowed := true, recurses := true, named := ["loop.example/g03201/impl.letters", "internal/bytealg.MaxLen"], plainKeys := false, leaving := true, apart := false, laid := [("loop.example/g03201/impl.letters", laid_loop_example_g03201_impl_letters)], narrowed := true }
def FnExactCompleteUptoSaid : Prop := fnExactCompleteUptoRow.holds Tryd.pinned (OpenSpec.upto fnExactCompleteSpec)

/-- 'laws.FnExactTurnsFor', WHERE WHAT IT READS IS OF BULK AT MOST 1048576: true; the input reads as it did. -/
def fnExactTurnsForUptoRow : OpenClaim := { program := "ytnhcaahngmimcaadoor", sum := "6914951d2dfe99430440230143ec5589fb6d693d8f45d2efd681c48bcd2d15ea", func := "loop.example/g03201/laws.FnExactTurnsFor", spec := "fnExactTurnsFor", inPlace := ["internal/bytealg.IndexByteString", "internal/bytealg.IndexString"], unfollowed := true, recurses := true, named := ["loop.example/g03201/impl.letters", "internal/bytealg.MaxLen"], plainKeys := false, leaving := true, apart := false, laid := [("loop.example/g03201/impl.letters", laid_loop_example_g03201_impl_letters)], narrowed := true }
def FnExactTurnsForUptoSaid : Prop := fnExactTurnsForUptoRow.holds Tryd.pinned (OpenSpec.upto fnExactTurnsForSpec)

end Rows
end Go.Proofs.YtnhcaahngmimcaaDoor
