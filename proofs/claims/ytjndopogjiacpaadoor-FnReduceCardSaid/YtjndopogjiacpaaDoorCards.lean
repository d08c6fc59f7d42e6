/-
  DERIVED. GIVEN WITH THE SEED: THE CARDS: each row of YtjndopogjiacpaaDoorRows.lean that lists a variable, with what it lists TIED to the program's text (the seventh form; the later family's looks); each row that meets fmt, with fmt's text TOLD by the authors' own Lean function (tested against real Go, not proved from fmt's source: count such statements apart). THE CARD IS WHAT COUNTS. Prove the row's statement (the work); the ties are given (YtjndopogjiacpaaDoorTie.lean); close each card by the builder's one call (the guide's Derived/Test/ToyasCard.lean, 'card_holds'). Laid BY PROGRAM, IN A SANDBOX (cutbox-door.mjs). By AI agents, Wed Nov 11 2026. No macro, syntax, notation, axiom, sorry.
-/
import Derived.Test.YtjndopogjiacpaaDoorRows
import GoSem.ClaimSeven
namespace Go.Proofs.YtjndopogjiacpaaDoor
namespace Rows

/-- THE TIED CARD OF 'laws.FnReduce'. -/
def fnReduceCard : Claim7 := { stood := { row := fnReduceRow, standIns := [], harness := (true, "6a8acf006edd2e207c4516defeeb24c2edd19602423cd60c952919376d8b6012"), looks := false }, kinds := [], alts := [], laidByText := true, laidKinds := [.data], laidTests := true, laidLooks := .later }
def FnReduceCardSaid : Prop := Claim7.holds Tryd.pinned (.plain (OpenSpec.ofChange fnReduceSpec)) fnReduceCard

/-- THE TIED CARD OF 'laws.FnExactStepsOf'. -/
def fnExactStepsOfCard : Claim7 := { stood := { row := fnExactStepsOfRow, standIns := [], harness := (true, "6a8acf006edd2e207c4516defeeb24c2edd19602423cd60c952919376d8b6012"), looks := false }, kinds := [], alts := [], laidByText := true, laidKinds := [.data], laidTests := true, laidLooks := .later }
def FnExactStepsOfCardSaid : Prop := Claim7.holds Tryd.pinned (.plain (OpenSpec.ofChange fnExactStepsOfSpec)) fnExactStepsOfCard

/-- THE TIED CARD OF 'laws.FnExactApplyStep'. -/
def fnExactApplyStepCard : Claim7 := { stood := { row := fnExactApplyStepRow, standIns := [], harness := (true, "6a8acf006edd2e207c4516defeeb24c2edd19602423cd60c952919376d8b6012"), looks := false }, kinds := [], alts := [], laidByText := true, laidKinds := [.data], laidTests := true, laidLooks := .later }
def FnExactApplyStepCardSaid : Prop := Claim7.holds Tryd.pinned (.plain (OpenSpec.ofChange fnExactApplyStepSpec)) fnExactApplyStepCard

/-- THE TIED CARD OF 'laws.FnExactFirstStep'. -/
def fnExactFirstStepCard : Claim7 := { stood := { row := fnExactFirstStepRow, standIns := [], harness := (true, "6a8acf006edd2e207c4516defeeb24c2edd19602423cd60c952919376d8b6012"), looks := false }, kinds := [], alts := [], laidByText := true, laidKinds := [.data], laidTests := true, laidLooks := .later }
def FnExactFirstStepCardSaid : Prop := Claim7.holds Tryd.pinned (.plain (OpenSpec.ofChange fnExactFirstStepSpec)) fnExactFirstStepCard

/-- THE TIED CARD OF 'laws.FnExactLastStep'. -/
def fnExactLastStepCard : Claim7 := { stood := { row := fnExactLastStepRow, standIns := [], harness := (true, "6a8acf006edd2e207c4516defeeb24c2edd19602423cd60c952919376d8b6012"), looks := false }, kinds := [], alts := [], laidByText := true, laidKinds := [.data], laidTests := true, laidLooks := .later }
def FnExactLastStepCardSaid : Prop := Claim7.holds Tryd.pinned (.plain (OpenSpec.ofChange fnExactLastStepSpec)) fnExactLastStepCard

/-- THE TIED CARD OF 'laws.FnExactNormalForm'. -/
def fnExactNormalFormCard : Claim7 := { stood := { row := fnExactNormalFormRow, standIns := [], harness := (true, "6a8acf006edd2e207c4516defeeb24c2edd19602423cd60c952919376d8b6012"), looks := false }, kinds := [], alts := [], laidByText := true, laidKinds := [.data], laidTests := true, laidLooks := .later }
def FnExactNormalFormCardSaid : Prop := Claim7.holds Tryd.pinned (.plain (OpenSpec.ofChange fnExactNormalFormSpec)) fnExactNormalFormCard

/-- THE TIED CARD OF 'laws.FnExactFarForm'. -/
def fnExactFarFormCard : Claim7 := { stood := { row := fnExactFarFormRow, standIns := [], harness := (true, "6a8acf006edd2e207c4516defeeb24c2edd19602423cd60c952919376d8b6012"), looks := false }, kinds := [], alts := [], laidByText := true, laidKinds := [.data], laidTests := true, laidLooks := .later }
def FnExactFarFormCardSaid : Prop := Claim7.holds Tryd.pinned (.plain (OpenSpec.ofChange fnExactFarFormSpec)) fnExactFarFormCard

/-- THE TIED CARD OF 'laws.FnExactIsReduced'. -/
def fnExactIsReducedCard : Claim7 := { stood := { row := fnExactIsReducedRow, standIns := [], harness := (true, "6a8acf006edd2e207c4516defeeb24c2edd19602423cd60c952919376d8b6012"), looks := false }, kinds := [], alts := [], laidByText := true, laidKinds := [.data], laidTests := true, laidLooks := .later }
def FnExactIsReducedCardSaid : Prop := Claim7.holds Tryd.pinned (.plain (OpenSpec.ofChange fnExactIsReducedSpec)) fnExactIsReducedCard

/-- THE TIED CARD OF 'laws.FnExactTraceOf'. -/
def fnExactTraceOfCard : Claim7 := { stood := { row := fnExactTraceOfRow, standIns := [], harness := (true, "6a8acf006edd2e207c4516defeeb24c2edd19602423cd60c952919376d8b6012"), looks := false }, kinds := [], alts := [], laidByText := true, laidKinds := [.data], laidTests := true, laidLooks := .later }
def FnExactTraceOfCardSaid : Prop := Claim7.holds Tryd.pinned (.plain (OpenSpec.ofChange fnExactTraceOfSpec)) fnExactTraceOfCard

/-- THE TIED CARD OF 'laws.FnExactRunSteps'. -/
def fnExactRunStepsCard : Claim7 := { stood := { row := fnExactRunStepsRow, standIns := [], harness := (true, "6a8acf006edd2e207c4516defeeb24c2edd19602423cd60c952919376d8b6012"), looks := false }, kinds := [], alts := [], laidByText := true, laidKinds := [.data], laidTests := true, laidLooks := .later }
def FnExactRunStepsCardSaid : Prop := Claim7.holds Tryd.pinned (.plain (OpenSpec.ofChange fnExactRunStepsSpec)) fnExactRunStepsCard

/-- THE TIED CARD OF 'laws.FnExactCountReached'. -/
def fnExactCountReachedCard : Claim7 := { stood := { row := fnExactCountReachedRow, standIns := [], harness := (true, "6a8acf006edd2e207c4516defeeb24c2edd19602423cd60c952919376d8b6012"), looks := false }, kinds := [], alts := [], laidByText := true, laidKinds := [.data], laidTests := true, laidLooks := .later }
def FnExactCountReachedCardSaid : Prop := Claim7.holds Tryd.pinned (.plain (OpenSpec.ofChange fnExactCountReachedSpec)) fnExactCountReachedCard

/-- THE SECOND FORM's CARD OF 'laws.FnReduce'. -/
def fnReduceUptoCard : Claim7 := { stood := { row := fnReduceUptoRow, standIns := [], harness := (true, "6a8acf006edd2e207c4516defeeb24c2edd19602423cd60c952919376d8b6012"), looks := false }, kinds := [], alts := [], laidByText := true, laidKinds := [.data], laidTests := true, laidLooks := .later }
def FnReduceUptoCardSaid : Prop := Claim7.holds Tryd.pinned (.plain (OpenSpec.upto fnReduceSpec)) fnReduceUptoCard

/-- THE SECOND FORM's CARD OF 'laws.FnExactStepsOf'. -/
def fnExactStepsOfUptoCard : Claim7 := { stood := { row := fnExactStepsOfUptoRow, standIns := [], harness := (true, "6a8acf006edd2e207c4516defeeb24c2edd19602423cd60c952919376d8b6012"), looks := false }, kinds := [], alts := [], laidByText := true, laidKinds := [.data], laidTests := true, laidLooks := .later }
def FnExactStepsOfUptoCardSaid : Prop := Claim7.holds Tryd.pinned (.plain (OpenSpec.upto fnExactStepsOfSpec)) fnExactStepsOfUptoCard

/-- THE SECOND FORM's CARD OF 'laws.FnExactApplyStep'. -/
def fnExactApplyStepUptoCard : Claim7 := { stood := { row := fnExactApplyStepUptoRow, standIns := [], harness := (true, "6a8acf006edd2e207c4516defeeb24c2edd19602423cd60c952919376d8b6012"), looks := false }, kinds := [], alts := [], laidByText := true, laidKinds := [.data], laidTests := true, laidLooks := .later }
def FnExactApplyStepUptoCardSaid : Prop := Claim7.holds Tryd.pinned (.plain (OpenSpec.upto fnExactApplyStepSpec)) fnExactApplyStepUptoCard

/-- THE SECOND FORM's CARD OF 'laws.FnExactFirstStep'. -/
def fnExactFirstStepUptoCard : Claim7 := { stood := { row := fnExactFirstStepUptoRow, standIns := [], harness := (true, "6a8acf006edd2e207c4516defeeb24c2edd19602423cd60c952919376d8b6012"), looks := false }, kinds := [], alts := [], laidByText := true, laidKinds := [.data], laidTests := true, laidLooks := .later }
def FnExactFirstStepUptoCardSaid : Prop := Claim7.holds Tryd.pinned (.plain (OpenSpec.upto fnExactFirstStepSpec)) fnExactFirstStepUptoCard

/-- THE SECOND FORM's CARD OF 'laws.FnExactLastStep'. -/
def fnExactLastStepUptoCard : Claim7 := { stood := { row := fnExactLastStepUptoRow, standIns := [], harness := (true, "6a8acf006edd2e207c4516defeeb24c2edd19602423cd60c952919376d8b6012"), looks := false }, kinds := [], alts := [], laidByText := true, laidKinds := [.data], laidTests := true, laidLooks := .later }
def FnExactLastStepUptoCardSaid : Prop := Claim7.holds Tryd.pinned (.plain (OpenSpec.upto fnExactLastStepSpec)) fnExactLastStepUptoCard

/-- THE SECOND FORM's CARD OF 'laws.FnExactNormalForm'. -/
def fnExactNormalFormUptoCard : Claim7 := { stood := { row := fnExactNormalFormUptoRow, standIns := [], harness := (true, "6a8acf006edd2e207c4516defeeb24c2edd19602423cd60c952919376d8b6012"), looks := false }, kinds := [], alts := [], laidByText := true, laidKinds := [.data], laidTests := true, laidLooks := .later }
def FnExactNormalFormUptoCardSaid : Prop := Claim7.holds Tryd.pinned (.plain (OpenSpec.upto fnExactNormalFormSpec)) fnExactNormalFormUptoCard

/-- THE SECOND FORM's CARD OF 'laws.FnExactFarForm'. -/
def fnExactFarFormUptoCard : Claim7 := { stood := { row := fnExactFarFormUptoRow, standIns := [], harness := (true, "6a8acf006edd2e207c4516defeeb24c2edd19602423cd60c952919376d8b6012"), looks := false }, kinds := [], alts := [], laidByText := true, laidKinds := [.data], laidTests := true, laidLooks := .later }
def FnExactFarFormUptoCardSaid : Prop := Claim7.holds Tryd.pinned (.plain (OpenSpec.upto fnExactFarFormSpec)) fnExactFarFormUptoCard

/-- THE SECOND FORM's CARD OF 'laws.FnExactIsReduced'. -/
def fnExactIsReducedUptoCard : Claim7 := { stood := { row := fnExactIsReducedUptoRow, standIns := [], harness := (true, "6a8acf006edd2e207c4516defeeb24c2edd19602423cd60c952919376d8b6012"), looks := false }, kinds := [], alts := [], laidByText := true, laidKinds := [.data], laidTests := true, laidLooks := .later }
def FnExactIsReducedUptoCardSaid : Prop := Claim7.holds Tryd.pinned (.plain (OpenSpec.upto fnExactIsReducedSpec)) fnExactIsReducedUptoCard

/-- THE SECOND FORM's CARD OF 'laws.FnExactTraceOf'. -/
def fnExactTraceOfUptoCard : Claim7 := { stood := { row := fnExactTraceOfUptoRow, standIns := [], harness := (true, "6a8acf006edd2e207c4516defeeb24c2edd19602423cd60c952919376d8b6012"), looks := false }, kinds := [], alts := [], laidByText := true, laidKinds := [.data], laidTests := true, laidLooks := .later }
def FnExactTraceOfUptoCardSaid : Prop := Claim7.holds Tryd.pinned (.plain (OpenSpec.upto fnExactTraceOfSpec)) fnExactTraceOfUptoCard

/-- THE SECOND FORM's CARD OF 'laws.FnExactRunSteps'. -/
def fnExactRunStepsUptoCard : Claim7 := { stood := { row := fnExactRunStepsUptoRow, standIns := [], harness := (true, "6a8acf006edd2e207c4516defeeb24c2edd19602423cd60c952919376d8b6012"), looks := false }, kinds := [], alts := [], laidByText := true, laidKinds := [.data], laidTests := true, laidLooks := .later }
def FnExactRunStepsUptoCardSaid : Prop := Claim7.holds Tryd.pinned (.plain (OpenSpec.upto fnExactRunStepsSpec)) fnExactRunStepsUptoCard

/-- THE SECOND FORM's CARD OF 'laws.FnExactCountReached'. -/
def fnExactCountReachedUptoCard : Claim7 := { stood := { row := fnExactCountReachedUptoRow, standIns := [], harness := (true, "6a8acf006edd2e207c4516defeeb24c2edd19602423cd60c952919376d8b6012"), looks := false }, kinds := [], alts := [], laidByText := true, laidKinds := [.data], laidTests := true, laidLooks := .later }
def FnExactCountReachedUptoCardSaid : Prop := Claim7.holds Tryd.pinned (.plain (OpenSpec.upto fnExactCountReachedSpec)) fnExactCountReachedUptoCard
end Rows
end Go.Proofs.YtjndopogjiacpaaDoor
