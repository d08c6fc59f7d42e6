/-
  DERIVED. GIVEN WITH THE SEED: THE CARDS: each row of YtddifhbjjiphiaaDoorRows.lean that lists a variable, with what it lists TIED to the program's text (the seventh form; the later family's looks); each row that meets fmt, with fmt's text TOLD by the authors' own Lean function (tested against real Go, not proved from fmt's source: count such statements apart). THE CARD IS WHAT COUNTS. Prove the row's statement (the work); the ties are given (YtddifhbjjiphiaaDoorTie.lean); close each card by the builder's one call (the guide's Derived/Test/ToyasCard.lean, 'card_holds'). Laid BY PROGRAM, IN A SANDBOX (cutbox-door.mjs). By AI agents, Wed Nov 11 2026. No macro, syntax, notation, axiom, sorry.
-/
import Derived.Test.YtddifhbjjiphiaaDoorRows
import GoSem.ClaimSeven
namespace Go.Proofs.YtddifhbjjiphiaaDoor
namespace Rows

/-- THE TIED CARD OF 'laws.FnExactApplyLink'. -/
def fnExactApplyLinkCard : Claim7 := { stood := { row := fnExactApplyLinkRow, standIns := [], harness := (true, "fe0e12f988b3534406f511d2bd81716dddc92162dfa239b0199816435ed96a2b"), looks := false }, kinds := [], alts := [], laidByText := true, laidKinds := [.data], laidTests := true, laidLooks := .later }
def FnExactApplyLinkCardSaid : Prop := Claim7.holds Tryd.pinned (.plain (OpenSpec.ofChange fnExactApplyLinkSpec)) fnExactApplyLinkCard

/-- THE TIED CARD OF 'laws.FnExactChainOf'. -/
def fnExactChainOfCard : Claim7 := { stood := { row := fnExactChainOfRow, standIns := [], harness := (true, "fe0e12f988b3534406f511d2bd81716dddc92162dfa239b0199816435ed96a2b"), looks := false }, kinds := [], alts := [], laidByText := true, laidKinds := [.data], laidTests := true, laidLooks := .later }
def FnExactChainOfCardSaid : Prop := Claim7.holds Tryd.pinned (.plain (OpenSpec.ofChange fnExactChainOfSpec)) fnExactChainOfCard

/-- THE TIED CARD OF 'laws.FnExactIsProof'. -/
def fnExactIsProofCard : Claim7 := { stood := { row := fnExactIsProofRow, standIns := [], harness := (true, "fe0e12f988b3534406f511d2bd81716dddc92162dfa239b0199816435ed96a2b"), looks := false }, kinds := [], alts := [], laidByText := true, laidKinds := [.data], laidTests := true, laidLooks := .later }
def FnExactIsProofCardSaid : Prop := Claim7.holds Tryd.pinned (.plain (OpenSpec.ofChange fnExactIsProofSpec)) fnExactIsProofCard

/-- THE TIED CARD OF 'laws.FnExactProofOf'. -/
def fnExactProofOfCard : Claim7 := { stood := { row := fnExactProofOfRow, standIns := [], harness := (true, "fe0e12f988b3534406f511d2bd81716dddc92162dfa239b0199816435ed96a2b"), looks := false }, kinds := [], alts := [], laidByText := true, laidKinds := [.data], laidTests := true, laidLooks := .later }
def FnExactProofOfCardSaid : Prop := Claim7.holds Tryd.pinned (.plain (OpenSpec.ofChange fnExactProofOfSpec)) fnExactProofOfCard

/-- THE TIED CARD OF 'laws.FnExactShortenProof'. -/
def fnExactShortenProofCard : Claim7 := { stood := { row := fnExactShortenProofRow, standIns := [], harness := (true, "fe0e12f988b3534406f511d2bd81716dddc92162dfa239b0199816435ed96a2b"), looks := false }, kinds := [], alts := [], laidByText := true, laidKinds := [.data], laidTests := true, laidLooks := .later }
def FnExactShortenProofCardSaid : Prop := Claim7.holds Tryd.pinned (.plain (OpenSpec.ofChange fnExactShortenProofSpec)) fnExactShortenProofCard

/-- THE TIED CARD OF 'laws.FnExactPeakOf'. -/
def fnExactPeakOfCard : Claim7 := { stood := { row := fnExactPeakOfRow, standIns := [], harness := (true, "fe0e12f988b3534406f511d2bd81716dddc92162dfa239b0199816435ed96a2b"), looks := false }, kinds := [], alts := [], laidByText := true, laidKinds := [.data], laidTests := true, laidLooks := .later }
def FnExactPeakOfCardSaid : Prop := Claim7.holds Tryd.pinned (.plain (OpenSpec.ofChange fnExactPeakOfSpec)) fnExactPeakOfCard

/-- THE SECOND FORM's CARD OF 'laws.FnExactApplyLink'. -/
def fnExactApplyLinkUptoCard : Claim7 := { stood := { row := fnExactApplyLinkUptoRow, standIns := [], harness := (true, "fe0e12f988b3534406f511d2bd81716dddc92162dfa239b0199816435ed96a2b"), looks := false }, kinds := [], alts := [], laidByText := true, laidKinds := [.data], laidTests := true, laidLooks := .later }
def FnExactApplyLinkUptoCardSaid : Prop := Claim7.holds Tryd.pinned (.plain (OpenSpec.upto fnExactApplyLinkSpec)) fnExactApplyLinkUptoCard

/-- THE SECOND FORM's CARD OF 'laws.FnExactChainOf'. -/
def fnExactChainOfUptoCard : Claim7 := { stood := { row := fnExactChainOfUptoRow, standIns := [], harness := (true, "fe0e12f988b3534406f511d2bd81716dddc92162dfa239b0199816435ed96a2b"), looks := false }, kinds := [], alts := [], laidByText := true, laidKinds := [.data], laidTests := true, laidLooks := .later }
def FnExactChainOfUptoCardSaid : Prop := Claim7.holds Tryd.pinned (.plain (OpenSpec.upto fnExactChainOfSpec)) fnExactChainOfUptoCard

/-- THE SECOND FORM's CARD OF 'laws.FnExactIsProof'. -/
def fnExactIsProofUptoCard : Claim7 := { stood := { row := fnExactIsProofUptoRow, standIns := [], harness := (true, "fe0e12f988b3534406f511d2bd81716dddc92162dfa239b0199816435ed96a2b"), looks := false }, kinds := [], alts := [], laidByText := true, laidKinds := [.data], laidTests := true, laidLooks := .later }
def FnExactIsProofUptoCardSaid : Prop := Claim7.holds Tryd.pinned (.plain (OpenSpec.upto fnExactIsProofSpec)) fnExactIsProofUptoCard

/-- THE SECOND FORM's CARD OF 'laws.FnExactProofOf'. -/
def fnExactProofOfUptoCard : Claim7 := { stood := { row := fnExactProofOfUptoRow, standIns := [], harness := (true, "fe0e12f988b3534406f511d2bd81716dddc92162dfa239b0199816435ed96a2b"), looks := false }, kinds := [], alts := [], laidByText := true, laidKinds := [.data], laidTests := true, laidLooks := .later }
def FnExactProofOfUptoCardSaid : Prop := Claim7.holds Tryd.pinned (.plain (OpenSpec.upto fnExactProofOfSpec)) fnExactProofOfUptoCard

/-- THE SECOND FORM's CARD OF 'laws.FnExactShortenProof'. -/
def fnExactShortenProofUptoCard : Claim7 := { stood := { row := fnExactShortenProofUptoRow, standIns := [], harness := (true, "fe0e12f988b3534406f511d2bd81716dddc92162dfa239b0199816435ed96a2b"), looks := false }, kinds := [], alts := [], laidByText := true, laidKinds := [.data], laidTests := true, laidLooks := .later }
def FnExactShortenProofUptoCardSaid : Prop := Claim7.holds Tryd.pinned (.plain (OpenSpec.upto fnExactShortenProofSpec)) fnExactShortenProofUptoCard

/-- THE SECOND FORM's CARD OF 'laws.FnExactPeakOf'. -/
def fnExactPeakOfUptoCard : Claim7 := { stood := { row := fnExactPeakOfUptoRow, standIns := [], harness := (true, "fe0e12f988b3534406f511d2bd81716dddc92162dfa239b0199816435ed96a2b"), looks := false }, kinds := [], alts := [], laidByText := true, laidKinds := [.data], laidTests := true, laidLooks := .later }
def FnExactPeakOfUptoCardSaid : Prop := Claim7.holds Tryd.pinned (.plain (OpenSpec.upto fnExactPeakOfSpec)) fnExactPeakOfUptoCard
end Rows
end Go.Proofs.YtddifhbjjiphiaaDoor
