/-
  DERIVED. GIVEN WITH THE SEED: THE CARDS: each row of YtfkojahoaljiaaaDoorRows.lean that lists a variable, with what it lists TIED to the program's text (the seventh form; the later family's looks); each row that meets fmt, with fmt's text TOLD by the authors' own Lean function (tested against real Go, not proved from fmt's source: count such statements apart). THE CARD IS WHAT COUNTS. Prove the row's statement (the work); the ties are given (YtfkojahoaljiaaaDoorTie.lean); close each card by the builder's one call (the guide's Derived/Test/ToyasCard.lean, 'card_holds'). Laid BY PROGRAM, IN A SANDBOX (cutbox-door.mjs). By AI agents, Wed Nov 11 2026. No macro, syntax, notation, axiom, sorry.
-/
import Derived.Test.YtfkojahoaljiaaaDoorRows
import GoSem.ClaimSeven
namespace Go.Proofs.YtfkojahoaljiaaaDoor
namespace Rows

/-- THE TIED CARD OF 'laws.FnReduced'. -/
def fnReducedCard : Claim7 := { stood := { row := fnReducedRow, standIns := [], harness := (true, "4d7d1b6ac0db1707ea9b6c0c6951a3fa85a2bd529af2bf2559592269c990eade"), looks := false }, kinds := [], alts := [], laidByText := true, laidKinds := [.data], laidTests := true, laidLooks := .later }
def FnReducedCardSaid : Prop := Claim7.holds Tryd.pinned (.plain (OpenSpec.ofChange fnReducedSpec)) fnReducedCard

/-- THE TIED CARD OF 'laws.FnFinite'. -/
def fnFiniteCard : Claim7 := { stood := { row := fnFiniteRow, standIns := [], harness := (true, "4d7d1b6ac0db1707ea9b6c0c6951a3fa85a2bd529af2bf2559592269c990eade"), looks := false }, kinds := [], alts := [], laidByText := true, laidKinds := [.data], laidTests := true, laidLooks := .later }
def FnFiniteCardSaid : Prop := Claim7.holds Tryd.pinned (.plain (OpenSpec.ofChange fnFiniteSpec)) fnFiniteCard

/-- THE SECOND FORM's CARD OF 'laws.FnReduced'. -/
def fnReducedUptoCard : Claim7 := { stood := { row := fnReducedUptoRow, standIns := [], harness := (true, "4d7d1b6ac0db1707ea9b6c0c6951a3fa85a2bd529af2bf2559592269c990eade"), looks := false }, kinds := [], alts := [], laidByText := true, laidKinds := [.data], laidTests := true, laidLooks := .later }
def FnReducedUptoCardSaid : Prop := Claim7.holds Tryd.pinned (.plain (OpenSpec.upto fnReducedSpec)) fnReducedUptoCard

/-- THE SECOND FORM's CARD OF 'laws.FnFinite'. -/
def fnFiniteUptoCard : Claim7 := { stood := { row := fnFiniteUptoRow, standIns := [], harness := (true, "4d7d1b6ac0db1707ea9b6c0c6951a3fa85a2bd529af2bf2559592269c990eade"), looks := false }, kinds := [], alts := [], laidByText := true, laidKinds := [.data], laidTests := true, laidLooks := .later }
def FnFiniteUptoCardSaid : Prop := Claim7.holds Tryd.pinned (.plain (OpenSpec.upto fnFiniteSpec)) fnFiniteUptoCard
end Rows
end Go.Proofs.YtfkojahoaljiaaaDoor
