/-
  DERIVED. GIVEN WITH THE SEED: THE CARDS: each row of YtjecadpofkblnaaDoorRows.lean that lists a variable, with what it lists TIED to the program's text (the seventh form; the later family's looks); each row that meets fmt, with fmt's text TOLD by the authors' own Lean function (tested against real Go, not proved from fmt's source: count such statements apart). THE CARD IS WHAT COUNTS. Prove the row's statement (the work); the ties are given (YtjecadpofkblnaaDoorTie.lean); close each card by the builder's one call (the guide's Derived/Test/ToyasCard.lean, 'card_holds'). Laid BY PROGRAM, IN A SANDBOX (cutbox-door.mjs). By AI agents, Wed Nov 11 2026. No macro, syntax, notation, axiom, sorry.
-/
import Derived.Test.YtjecadpofkblnaaDoorRows
import GoSem.ClaimSeven
namespace Go.Proofs.YtjecadpofkblnaaDoor
namespace Rows

/-- THE TIED CARD OF 'laws.FnReduced'. -/
def fnReducedCard : Claim7 := { stood := { row := fnReducedRow, standIns := [], harness := (true, "bff74c5d697b880ecc1932c99f80e03fd9b38cf04392c5a1444e7b2f88d2875f"), looks := false }, kinds := [], alts := [], laidByText := true, laidKinds := [.data], laidTests := true, laidLooks := .later }
def FnReducedCardSaid : Prop := Claim7.holds Tryd.pinned (.plain (OpenSpec.ofChange fnReducedSpec)) fnReducedCard

/-- THE TIED CARD OF 'laws.FnFinite'. -/
def fnFiniteCard : Claim7 := { stood := { row := fnFiniteRow, standIns := [], harness := (true, "bff74c5d697b880ecc1932c99f80e03fd9b38cf04392c5a1444e7b2f88d2875f"), looks := false }, kinds := [], alts := [], laidByText := true, laidKinds := [.data], laidTests := true, laidLooks := .later }
def FnFiniteCardSaid : Prop := Claim7.holds Tryd.pinned (.plain (OpenSpec.ofChange fnFiniteSpec)) fnFiniteCard

/-- THE TIED CARD OF 'laws.FnExactReducedWords'. -/
def fnExactReducedWordsCard : Claim7 := { stood := { row := fnExactReducedWordsRow, standIns := [], harness := (true, "bff74c5d697b880ecc1932c99f80e03fd9b38cf04392c5a1444e7b2f88d2875f"), looks := false }, kinds := [], alts := [], laidByText := true, laidKinds := [.data], laidTests := true, laidLooks := .later }
def FnExactReducedWordsCardSaid : Prop := Claim7.holds Tryd.pinned (.plain (OpenSpec.ofChange fnExactReducedWordsSpec)) fnExactReducedWordsCard

/-- THE TIED CARD OF 'laws.FnExactAllReduced'. -/
def fnExactAllReducedCard : Claim7 := { stood := { row := fnExactAllReducedRow, standIns := [], harness := (true, "bff74c5d697b880ecc1932c99f80e03fd9b38cf04392c5a1444e7b2f88d2875f"), looks := false }, kinds := [], alts := [], laidByText := true, laidKinds := [.data], laidTests := true, laidLooks := .later }
def FnExactAllReducedCardSaid : Prop := Claim7.holds Tryd.pinned (.plain (OpenSpec.ofChange fnExactAllReducedSpec)) fnExactAllReducedCard

/-- THE TIED CARD OF 'laws.FnExactNextReduced'. -/
def fnExactNextReducedCard : Claim7 := { stood := { row := fnExactNextReducedRow, standIns := [], harness := (true, "bff74c5d697b880ecc1932c99f80e03fd9b38cf04392c5a1444e7b2f88d2875f"), looks := false }, kinds := [], alts := [], laidByText := true, laidKinds := [.data], laidTests := true, laidLooks := .later }
def FnExactNextReducedCardSaid : Prop := Claim7.holds Tryd.pinned (.plain (OpenSpec.ofChange fnExactNextReducedSpec)) fnExactNextReducedCard

/-- THE SECOND FORM's CARD OF 'laws.FnReduced'. -/
def fnReducedUptoCard : Claim7 := { stood := { row := fnReducedUptoRow, standIns := [], harness := (true, "bff74c5d697b880ecc1932c99f80e03fd9b38cf04392c5a1444e7b2f88d2875f"), looks := false }, kinds := [], alts := [], laidByText := true, laidKinds := [.data], laidTests := true, laidLooks := .later }
def FnReducedUptoCardSaid : Prop := Claim7.holds Tryd.pinned (.plain (OpenSpec.upto fnReducedSpec)) fnReducedUptoCard

/-- THE SECOND FORM's CARD OF 'laws.FnFinite'. -/
def fnFiniteUptoCard : Claim7 := { stood := { row := fnFiniteUptoRow, standIns := [], harness := (true, "bff74c5d697b880ecc1932c99f80e03fd9b38cf04392c5a1444e7b2f88d2875f"), looks := false }, kinds := [], alts := [], laidByText := true, laidKinds := [.data], laidTests := true, laidLooks := .later }
def FnFiniteUptoCardSaid : Prop := Claim7.holds Tryd.pinned (.plain (OpenSpec.upto fnFiniteSpec)) fnFiniteUptoCard

/-- THE SECOND FORM's CARD OF 'laws.FnExactReducedWords'. -/
def fnExactReducedWordsUptoCard : Claim7 := { stood := { row := fnExactReducedWordsUptoRow, standIns := [], harness := (true, "bff74c5d697b880ecc1932c99f80e03fd9b38cf04392c5a1444e7b2f88d2875f"), looks := false }, kinds := [], alts := [], laidByText := true, laidKinds := [.data], laidTests := true, laidLooks := .later }
def FnExactReducedWordsUptoCardSaid : Prop := Claim7.holds Tryd.pinned (.plain (OpenSpec.upto fnExactReducedWordsSpec)) fnExactReducedWordsUptoCard

/-- THE SECOND FORM's CARD OF 'laws.FnExactAllReduced'. -/
def fnExactAllReducedUptoCard : Claim7 := { stood := { row := fnExactAllReducedUptoRow, standIns := [], harness := (true, "bff74c5d697b880ecc1932c99f80e03fd9b38cf04392c5a1444e7b2f88d2875f"), looks := false }, kinds := [], alts := [], laidByText := true, laidKinds := [.data], laidTests := true, laidLooks := .later }
def FnExactAllReducedUptoCardSaid : Prop := Claim7.holds Tryd.pinned (.plain (OpenSpec.upto fnExactAllReducedSpec)) fnExactAllReducedUptoCard

/-- THE SECOND FORM's CARD OF 'laws.FnExactNextReduced'. -/
def fnExactNextReducedUptoCard : Claim7 := { stood := { row := fnExactNextReducedUptoRow, standIns := [], harness := (true, "bff74c5d697b880ecc1932c99f80e03fd9b38cf04392c5a1444e7b2f88d2875f"), looks := false }, kinds := [], alts := [], laidByText := true, laidKinds := [.data], laidTests := true, laidLooks := .later }
def FnExactNextReducedUptoCardSaid : Prop := Claim7.holds Tryd.pinned (.plain (OpenSpec.upto fnExactNextReducedSpec)) fnExactNextReducedUptoCard
end Rows
end Go.Proofs.YtjecadpofkblnaaDoor
