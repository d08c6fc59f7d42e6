/-
  DERIVED. GIVEN WITH THE SEED: THE CARDS: each row of YtlgaihofaiigcaaDoorRows.lean that lists a variable, with what it lists TIED to the program's text (the seventh form; the later family's looks); each row that meets fmt, with fmt's text TOLD by the authors' own Lean function (tested against real Go, not proved from fmt's source: count such statements apart). THE CARD IS WHAT COUNTS. Prove the row's statement (the work); the ties are given (YtlgaihofaiigcaaDoorTie.lean); close each card by the builder's one call (the guide's Derived/Test/ToyasCard.lean, 'card_holds'). Laid BY PROGRAM, IN A SANDBOX (cutbox-door.mjs). By AI agents, Wed Nov 11 2026. No macro, syntax, notation, axiom, sorry.
-/
import Derived.Test.YtlgaihofaiigcaaDoorRows
import GoSem.ClaimSeven
namespace Go.Proofs.YtlgaihofaiigcaaDoor
namespace Rows

/-- THE TIED CARD OF 'laws.FnExactValueOf'. -/
def fnExactValueOfCard : Claim7 := { stood := { row := fnExactValueOfRow, standIns := [], harness := (true, "47efb8d4f4428844a9b9b4bf02101db12af9e90ffb44aee597ae42a86fd9afaa"), looks := false }, kinds := [], alts := [], laidByText := true, laidKinds := [.data], laidTests := true, laidLooks := .later }
def FnExactValueOfCardSaid : Prop := Claim7.holds Tryd.pinned (.plain (OpenSpec.ofChange fnExactValueOfSpec)) fnExactValueOfCard

/-- THE TIED CARD OF 'laws.FnExactSatisfiesRules'. -/
def fnExactSatisfiesRulesCard : Claim7 := { stood := { row := fnExactSatisfiesRulesRow, standIns := [], harness := (true, "47efb8d4f4428844a9b9b4bf02101db12af9e90ffb44aee597ae42a86fd9afaa"), looks := false }, kinds := [], alts := [], laidByText := true, laidKinds := [.data], laidTests := true, laidLooks := .later }
def FnExactSatisfiesRulesCardSaid : Prop := Claim7.holds Tryd.pinned (.plain (OpenSpec.ofChange fnExactSatisfiesRulesSpec)) fnExactSatisfiesRulesCard

/-- THE TIED CARD OF 'laws.FnExactCountMaps'. -/
def fnExactCountMapsCard : Claim7 := { stood := { row := fnExactCountMapsRow, standIns := [], harness := (true, "47efb8d4f4428844a9b9b4bf02101db12af9e90ffb44aee597ae42a86fd9afaa"), looks := false }, kinds := [], alts := [], laidByText := true, laidKinds := [.data], laidTests := true, laidLooks := .later }
def FnExactCountMapsCardSaid : Prop := Claim7.holds Tryd.pinned (.plain (OpenSpec.ofChange fnExactCountMapsSpec)) fnExactCountMapsCard

/-- THE TIED CARD OF 'laws.FnExactFirstMap'. -/
def fnExactFirstMapCard : Claim7 := { stood := { row := fnExactFirstMapRow, standIns := [], harness := (true, "47efb8d4f4428844a9b9b4bf02101db12af9e90ffb44aee597ae42a86fd9afaa"), looks := false }, kinds := [], alts := [], laidByText := true, laidKinds := [.data], laidTests := true, laidLooks := .later }
def FnExactFirstMapCardSaid : Prop := Claim7.holds Tryd.pinned (.plain (OpenSpec.ofChange fnExactFirstMapSpec)) fnExactFirstMapCard

/-- THE TIED CARD OF 'laws.FnExactReachedBy'. -/
def fnExactReachedByCard : Claim7 := { stood := { row := fnExactReachedByRow, standIns := [], harness := (true, "47efb8d4f4428844a9b9b4bf02101db12af9e90ffb44aee597ae42a86fd9afaa"), looks := false }, kinds := [], alts := [], laidByText := true, laidKinds := [.data], laidTests := true, laidLooks := .later }
def FnExactReachedByCardSaid : Prop := Claim7.holds Tryd.pinned (.plain (OpenSpec.ofChange fnExactReachedBySpec)) fnExactReachedByCard

/-- THE TIED CARD OF 'laws.FnExactShortestWord'. -/
def fnExactShortestWordCard : Claim7 := { stood := { row := fnExactShortestWordRow, standIns := [], harness := (true, "47efb8d4f4428844a9b9b4bf02101db12af9e90ffb44aee597ae42a86fd9afaa"), looks := false }, kinds := [], alts := [], laidByText := true, laidKinds := [.data], laidTests := true, laidLooks := .later }
def FnExactShortestWordCardSaid : Prop := Claim7.holds Tryd.pinned (.plain (OpenSpec.ofChange fnExactShortestWordSpec)) fnExactShortestWordCard

/-- THE SECOND FORM's CARD OF 'laws.FnExactValueOf'. -/
def fnExactValueOfUptoCard : Claim7 := { stood := { row := fnExactValueOfUptoRow, standIns := [], harness := (true, "47efb8d4f4428844a9b9b4bf02101db12af9e90ffb44aee597ae42a86fd9afaa"), looks := false }, kinds := [], alts := [], laidByText := true, laidKinds := [.data], laidTests := true, laidLooks := .later }
def FnExactValueOfUptoCardSaid : Prop := Claim7.holds Tryd.pinned (.plain (OpenSpec.upto fnExactValueOfSpec)) fnExactValueOfUptoCard

/-- THE SECOND FORM's CARD OF 'laws.FnExactSatisfiesRules'. -/
def fnExactSatisfiesRulesUptoCard : Claim7 := { stood := { row := fnExactSatisfiesRulesUptoRow, standIns := [], harness := (true, "47efb8d4f4428844a9b9b4bf02101db12af9e90ffb44aee597ae42a86fd9afaa"), looks := false }, kinds := [], alts := [], laidByText := true, laidKinds := [.data], laidTests := true, laidLooks := .later }
def FnExactSatisfiesRulesUptoCardSaid : Prop := Claim7.holds Tryd.pinned (.plain (OpenSpec.upto fnExactSatisfiesRulesSpec)) fnExactSatisfiesRulesUptoCard

/-- THE SECOND FORM's CARD OF 'laws.FnExactCountMaps'. -/
def fnExactCountMapsUptoCard : Claim7 := { stood := { row := fnExactCountMapsUptoRow, standIns := [], harness := (true, "47efb8d4f4428844a9b9b4bf02101db12af9e90ffb44aee597ae42a86fd9afaa"), looks := false }, kinds := [], alts := [], laidByText := true, laidKinds := [.data], laidTests := true, laidLooks := .later }
def FnExactCountMapsUptoCardSaid : Prop := Claim7.holds Tryd.pinned (.plain (OpenSpec.upto fnExactCountMapsSpec)) fnExactCountMapsUptoCard

/-- THE SECOND FORM's CARD OF 'laws.FnExactFirstMap'. -/
def fnExactFirstMapUptoCard : Claim7 := { stood := { row := fnExactFirstMapUptoRow, standIns := [], harness := (true, "47efb8d4f4428844a9b9b4bf02101db12af9e90ffb44aee597ae42a86fd9afaa"), looks := false }, kinds := [], alts := [], laidByText := true, laidKinds := [.data], laidTests := true, laidLooks := .later }
def FnExactFirstMapUptoCardSaid : Prop := Claim7.holds Tryd.pinned (.plain (OpenSpec.upto fnExactFirstMapSpec)) fnExactFirstMapUptoCard

/-- THE SECOND FORM's CARD OF 'laws.FnExactReachedBy'. -/
def fnExactReachedByUptoCard : Claim7 := { stood := { row := fnExactReachedByUptoRow, standIns := [], harness := (true, "47efb8d4f4428844a9b9b4bf02101db12af9e90ffb44aee597ae42a86fd9afaa"), looks := false }, kinds := [], alts := [], laidByText := true, laidKinds := [.data], laidTests := true, laidLooks := .later }
def FnExactReachedByUptoCardSaid : Prop := Claim7.holds Tryd.pinned (.plain (OpenSpec.upto fnExactReachedBySpec)) fnExactReachedByUptoCard

/-- THE SECOND FORM's CARD OF 'laws.FnExactShortestWord'. -/
def fnExactShortestWordUptoCard : Claim7 := { stood := { row := fnExactShortestWordUptoRow, standIns := [], harness := (true, "47efb8d4f4428844a9b9b4bf02101db12af9e90ffb44aee597ae42a86fd9afaa"), looks := false }, kinds := [], alts := [], laidByText := true, laidKinds := [.data], laidTests := true, laidLooks := .later }
def FnExactShortestWordUptoCardSaid : Prop := Claim7.holds Tryd.pinned (.plain (OpenSpec.upto fnExactShortestWordSpec)) fnExactShortestWordUptoCard
end Rows
end Go.Proofs.YtlgaihofaiigcaaDoor
