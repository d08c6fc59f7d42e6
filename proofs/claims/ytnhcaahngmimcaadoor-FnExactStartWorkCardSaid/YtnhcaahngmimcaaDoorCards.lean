/-
  DERIVED. GIVEN WITH THE SEED: THE CARDS: each row of YtnhcaahngmimcaaDoorRows.lean that lists a variable, with what it lists TIED to the program's text (the seventh form; the later family's looks); each row that meets fmt, with fmt's text TOLD by the authors' own Lean function (tested against real Go, not proved from fmt's source: count such statements apart). THE CARD IS WHAT COUNTS. Prove the row's statement (the work); the ties are given (YtnhcaahngmimcaaDoorTie.lean); close each card by the builder's one call (the guide's Derived/Test/ToyasCard.lean, 'card_holds'). Laid BY PROGRAM, IN A SANDBOX (cutbox-door.mjs). By AI agents, Wed Nov 11 2026. No macro, syntax, notation, axiom, sorry.
-/
import Derived.Test.YtnhcaahngmimcaaDoorRows
import GoSem.ClaimSeven
namespace Go.Proofs.YtnhcaahngmimcaaDoor
namespace Rows

/-- THE TIED CARD OF 'laws.FnTurns'. -/
def fnTurnsCard : Claim7 := { stood := { row := fnTurnsRow, standIns := [], harness := (true, "fc24b6e6e27bfc72376a27c657ef8c81febd28645d402950ec21b16f16cf28a8"), looks := false }, kinds := [], alts := [], goes := true, laidByText := true, laidKinds := [.data], laidTests := true, laidLooks := .later }
def FnTurnsCardSaid : Prop := Claim7.holds Tryd.pinned (.plain (OpenSpec.ofChange fnTurnsSpec)) fnTurnsCard

/-- THE TIED CARD OF 'laws.FnExactPairsOf'. -/
def fnExactPairsOfCard : Claim7 := { stood := { row := fnExactPairsOfRow, standIns := [], harness := (true, "fc24b6e6e27bfc72376a27c657ef8c81febd28645d402950ec21b16f16cf28a8"), looks := false }, kinds := [], alts := [], goes := true, laidByText := true, laidKinds := [.data], laidTests := true, laidLooks := .later }
def FnExactPairsOfCardSaid : Prop := Claim7.holds Tryd.pinned (.plain (OpenSpec.ofChange fnExactPairsOfSpec)) fnExactPairsOfCard

/-- THE TIED CARD OF 'laws.FnExactOpenPairs'. -/
def fnExactOpenPairsCard : Claim7 := { stood := { row := fnExactOpenPairsRow, standIns := [], harness := (true, "fc24b6e6e27bfc72376a27c657ef8c81febd28645d402950ec21b16f16cf28a8"), looks := false }, kinds := [], alts := [], goes := true, laidByText := true, laidKinds := [.data], laidTests := true, laidLooks := .later }
def FnExactOpenPairsCardSaid : Prop := Claim7.holds Tryd.pinned (.plain (OpenSpec.ofChange fnExactOpenPairsSpec)) fnExactOpenPairsCard

/-- THE TIED CARD OF 'laws.FnExactIsComplete'. -/
def fnExactIsCompleteCard : Claim7 := { stood := { row := fnExactIsCompleteRow, standIns := [], harness := (true, "fc24b6e6e27bfc72376a27c657ef8c81febd28645d402950ec21b16f16cf28a8"), looks := false }, kinds := [], alts := [], goes := true, laidByText := true, laidKinds := [.data], laidTests := true, laidLooks := .later }
def FnExactIsCompleteCardSaid : Prop := Claim7.holds Tryd.pinned (.plain (OpenSpec.ofChange fnExactIsCompleteSpec)) fnExactIsCompleteCard

/-- THE TIED CARD OF 'laws.FnExactCountPairs'. -/
def fnExactCountPairsCard : Claim7 := { stood := { row := fnExactCountPairsRow, standIns := [], harness := (true, "fc24b6e6e27bfc72376a27c657ef8c81febd28645d402950ec21b16f16cf28a8"), looks := false }, kinds := [], alts := [], goes := true, laidByText := true, laidKinds := [.data], laidTests := true, laidLooks := .later }
def FnExactCountPairsCardSaid : Prop := Claim7.holds Tryd.pinned (.plain (OpenSpec.ofChange fnExactCountPairsSpec)) fnExactCountPairsCard

/-- THE TIED CARD OF 'laws.FnExactWorkOk'. -/
def fnExactWorkOkCard : Claim7 := { stood := { row := fnExactWorkOkRow, standIns := [], harness := (true, "fc24b6e6e27bfc72376a27c657ef8c81febd28645d402950ec21b16f16cf28a8"), looks := false }, kinds := [], alts := [], laidByText := true, laidKinds := [.data], laidTests := true, laidLooks := .later }
def FnExactWorkOkCardSaid : Prop := Claim7.holds Tryd.pinned (.plain (OpenSpec.ofChange fnExactWorkOkSpec)) fnExactWorkOkCard

/-- THE TIED CARD OF 'laws.FnExactStartWork'. -/
def fnExactStartWorkCard : Claim7 := { stood := { row := fnExactStartWorkRow, standIns := [], harness := (true, "fc24b6e6e27bfc72376a27c657ef8c81febd28645d402950ec21b16f16cf28a8"), looks := false }, kinds := [], alts := [], laidByText := true, laidKinds := [.data], laidTests := true, laidLooks := .later }
def FnExactStartWorkCardSaid : Prop := Claim7.holds Tryd.pinned (.plain (OpenSpec.ofChange fnExactStartWorkSpec)) fnExactStartWorkCard

/-- THE TIED CARD OF 'laws.FnExactComplete'. -/
def fnExactCompleteCard : Claim7 := { stood := { row := fnExactCompleteRow, standIns := [], harness := (true, "fc24b6e6e27bfc72376a27c657ef8c81febd28645d402950ec21b16f16cf28a8"), looks := false }, kinds := [], alts := [], goes := true, laidByText := true, laidKinds := [.data], laidTests := true, laidLooks := .later }
def FnExactCompleteCardSaid : Prop := Claim7.holds Tryd.pinned (.plain (OpenSpec.ofChange fnExactCompleteSpec)) fnExactCompleteCard

/-- THE TIED CARD OF 'laws.FnExactTurnsFor'. -/
def fnExactTurnsForCard : Claim7 := { stood := { row := fnExactTurnsForRow, standIns := [], harness := (true, "fc24b6e6e27bfc72376a27c657ef8c81febd28645d402950ec21b16f16cf28a8"), looks := false }, kinds := [], alts := [], goes := true, laidByText := true, laidKinds := [.data], laidTests := true, laidLooks := .later }
def FnExactTurnsForCardSaid : Prop := Claim7.holds Tryd.pinned (.plain (OpenSpec.ofChange fnExactTurnsForSpec)) fnExactTurnsForCard

/-- THE SECOND FORM's CARD OF 'laws.FnTurns'. -/
def fnTurnsUptoCard : Claim7 := { stood := { row := fnTurnsUptoRow, standIns := [], harness := (true, "fc24b6e6e27bfc72376a27c657ef8c81febd28645d402950ec21b16f16cf28a8"), looks := false }, kinds := [], alts := [], goes := true, laidByText := true, laidKinds := [.data], laidTests := true, laidLooks := .later }
def FnTurnsUptoCardSaid : Prop := Claim7.holds Tryd.pinned (.plain (OpenSpec.upto fnTurnsSpec)) fnTurnsUptoCard

/-- THE SECOND FORM's CARD OF 'laws.FnExactPairsOf'. -/
def fnExactPairsOfUptoCard : Claim7 := { stood := { row := fnExactPairsOfUptoRow, standIns := [], harness := (true, "fc24b6e6e27bfc72376a27c657ef8c81febd28645d402950ec21b16f16cf28a8"), looks := false }, kinds := [], alts := [], goes := true, laidByText := true, laidKinds := [.data], laidTests := true, laidLooks := .later }
def FnExactPairsOfUptoCardSaid : Prop := Claim7.holds Tryd.pinned (.plain (OpenSpec.upto fnExactPairsOfSpec)) fnExactPairsOfUptoCard

/-- THE SECOND FORM's CARD OF 'laws.FnExactOpenPairs'. -/
def fnExactOpenPairsUptoCard : Claim7 := { stood := { row := fnExactOpenPairsUptoRow, standIns := [], harness := (true, "fc24b6e6e27bfc72376a27c657ef8c81febd28645d402950ec21b16f16cf28a8"), looks := false }, kinds := [], alts := [], goes := true, laidByText := true, laidKinds := [.data], laidTests := true, laidLooks := .later }
def FnExactOpenPairsUptoCardSaid : Prop := Claim7.holds Tryd.pinned (.plain (OpenSpec.upto fnExactOpenPairsSpec)) fnExactOpenPairsUptoCard

/-- THE SECOND FORM's CARD OF 'laws.FnExactIsComplete'. -/
def fnExactIsCompleteUptoCard : Claim7 := { stood := { row := fnExactIsCompleteUptoRow, standIns := [], harness := (true, "fc24b6e6e27bfc72376a27c657ef8c81febd28645d402950ec21b16f16cf28a8"), looks := false }, kinds := [], alts := [], goes := true, laidByText := true, laidKinds := [.data], laidTests := true, laidLooks := .later }
def FnExactIsCompleteUptoCardSaid : Prop := Claim7.holds Tryd.pinned (.plain (OpenSpec.upto fnExactIsCompleteSpec)) fnExactIsCompleteUptoCard

/-- THE SECOND FORM's CARD OF 'laws.FnExactCountPairs'. -/
def fnExactCountPairsUptoCard : Claim7 := { stood := { row := fnExactCountPairsUptoRow, standIns := [], harness := (true, "fc24b6e6e27bfc72376a27c657ef8c81febd28645d402950ec21b16f16cf28a8"), looks := false }, kinds := [], alts := [], goes := true, laidByText := true, laidKinds := [.data], laidTests := true, laidLooks := .later }
def FnExactCountPairsUptoCardSaid : Prop := Claim7.holds Tryd.pinned (.plain (OpenSpec.upto fnExactCountPairsSpec)) fnExactCountPairsUptoCard

/-- THE SECOND FORM's CARD OF 'laws.FnExactWorkOk'. -/
def fnExactWorkOkUptoCard : Claim7 := { stood := { row := fnExactWorkOkUptoRow, standIns := [], harness := (true, "fc24b6e6e27bfc72376a27c657ef8c81febd28645d402950ec21b16f16cf28a8"), looks := false }, kinds := [], alts := [], laidByText := true, laidKinds := [.data], laidTests := true, laidLooks := .later }
def FnExactWorkOkUptoCardSaid : Prop := Claim7.holds Tryd.pinned (.plain (OpenSpec.upto fnExactWorkOkSpec)) fnExactWorkOkUptoCard

/-- THE SECOND FORM's CARD OF 'laws.FnExactStartWork'. -/
def fnExactStartWorkUptoCard : Claim7 := { stood := { row := fnExactStartWorkUptoRow, standIns := [], harness := (true, "fc24b6e6e27bfc72376a27c657ef8c81febd28645d402950ec21b16f16cf28a8"), looks := false }, kinds := [], alts := [], laidByText := true, laidKinds := [.data], laidTests := true, laidLooks := .later }
def FnExactStartWorkUptoCardSaid : Prop := Claim7.holds Tryd.pinned (.plain (OpenSpec.upto fnExactStartWorkSpec)) fnExactStartWorkUptoCard

/-- THE SECOND FORM's CARD OF 'laws.FnExactComplete'. -/
def fnExactCompleteUptoCard : Claim7 := { stood := { row := fnExactCompleteUptoRow, standIns := [], harness := (true, "fc24b6e6e27bfc72376a27c657ef8c81febd28645d402950ec21b16f16cf28a8"), looks := false }, kinds := [], alts := [], goes := true, laidByText := true, laidKinds := [.data], laidTests := true, laidLooks := .later }
def FnExactCompleteUptoCardSaid : Prop := Claim7.holds Tryd.pinned (.plain (OpenSpec.upto fnExactCompleteSpec)) fnExactCompleteUptoCard

/-- THE SECOND FORM's CARD OF 'laws.FnExactTurnsFor'. -/
def fnExactTurnsForUptoCard : Claim7 := { stood := { row := fnExactTurnsForUptoRow, standIns := [], harness := (true, "fc24b6e6e27bfc72376a27c657ef8c81febd28645d402950ec21b16f16cf28a8"), looks := false }, kinds := [], alts := [], goes := true, laidByText := true, laidKinds := [.data], laidTests := true, laidLooks := .later }
def FnExactTurnsForUptoCardSaid : Prop := Claim7.holds Tryd.pinned (.plain (OpenSpec.upto fnExactTurnsForSpec)) fnExactTurnsForUptoCard
end Rows
end Go.Proofs.YtnhcaahngmimcaaDoor
