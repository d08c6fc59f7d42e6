/-
  DERIVED. GIVEN WITH THE SEED: THE CARDS: each row of YtomejfebmibfjaaDoorRows.lean that lists a variable, with what it lists TIED to the program's text (the seventh form; the later family's looks); each row that meets fmt, with fmt's text TOLD by the authors' own Lean function (tested against real Go, not proved from fmt's source: count such statements apart). THE CARD IS WHAT COUNTS. Prove the row's statement (the work); the ties are given (YtomejfebmibfjaaDoorTie.lean); close each card by the builder's one call (the guide's Derived/Test/ToyasCard.lean, 'card_holds'). Laid BY PROGRAM, IN A SANDBOX (cutbox-door.mjs). By AI agents, Wed Nov 11 2026. No macro, syntax, notation, axiom, sorry.
-/
import Derived.Test.YtomejfebmibfjaaDoorRows
import GoSem.ClaimSeven
namespace Go.Proofs.YtomejfebmibfjaaDoor
namespace Rows

/-- THE TIED CARD OF 'laws.FnExactPairsOf'. -/
def fnExactPairsOfCard : Claim7 := { stood := { row := fnExactPairsOfRow, standIns := [], harness := (true, "43852c0c1174b75b839655eecebb9358e23dddc425846d54315e2e013114dcfd"), looks := false }, kinds := [], alts := [], goes := true, laidByText := true, laidKinds := [.data], laidTests := true, laidLooks := .later }
def FnExactPairsOfCardSaid : Prop := Claim7.holds Tryd.pinned (.plain (OpenSpec.ofChange fnExactPairsOfSpec)) fnExactPairsOfCard

/-- THE TIED CARD OF 'laws.FnExactSidesOf'. -/
def fnExactSidesOfCard : Claim7 := { stood := { row := fnExactSidesOfRow, standIns := [], harness := (true, "43852c0c1174b75b839655eecebb9358e23dddc425846d54315e2e013114dcfd"), looks := false }, kinds := [], alts := [], laidByText := true, laidKinds := [.data], laidTests := true, laidLooks := .later }
def FnExactSidesOfCardSaid : Prop := Claim7.holds Tryd.pinned (.plain (OpenSpec.ofChange fnExactSidesOfSpec)) fnExactSidesOfCard

/-- THE TIED CARD OF 'laws.FnExactIsJoined'. -/
def fnExactIsJoinedCard : Claim7 := { stood := { row := fnExactIsJoinedRow, standIns := [], harness := (true, "43852c0c1174b75b839655eecebb9358e23dddc425846d54315e2e013114dcfd"), looks := false }, kinds := [], alts := [], goes := true, laidByText := true, laidKinds := [.data], laidTests := true, laidLooks := .later }
def FnExactIsJoinedCardSaid : Prop := Claim7.holds Tryd.pinned (.plain (OpenSpec.ofChange fnExactIsJoinedSpec)) fnExactIsJoinedCard

/-- THE TIED CARD OF 'laws.FnExactOpenPairs'. -/
def fnExactOpenPairsCard : Claim7 := { stood := { row := fnExactOpenPairsRow, standIns := [], harness := (true, "43852c0c1174b75b839655eecebb9358e23dddc425846d54315e2e013114dcfd"), looks := false }, kinds := [], alts := [], goes := true, laidByText := true, laidKinds := [.data], laidTests := true, laidLooks := .later }
def FnExactOpenPairsCardSaid : Prop := Claim7.holds Tryd.pinned (.plain (OpenSpec.ofChange fnExactOpenPairsSpec)) fnExactOpenPairsCard

/-- THE TIED CARD OF 'laws.FnExactIsComplete'. -/
def fnExactIsCompleteCard : Claim7 := { stood := { row := fnExactIsCompleteRow, standIns := [], harness := (true, "43852c0c1174b75b839655eecebb9358e23dddc425846d54315e2e013114dcfd"), looks := false }, kinds := [], alts := [], goes := true, laidByText := true, laidKinds := [.data], laidTests := true, laidLooks := .later }
def FnExactIsCompleteCardSaid : Prop := Claim7.holds Tryd.pinned (.plain (OpenSpec.ofChange fnExactIsCompleteSpec)) fnExactIsCompleteCard

/-- THE TIED CARD OF 'laws.FnExactIsInterreduced'. -/
def fnExactIsInterreducedCard : Claim7 := { stood := { row := fnExactIsInterreducedRow, standIns := [], harness := (true, "43852c0c1174b75b839655eecebb9358e23dddc425846d54315e2e013114dcfd"), looks := false }, kinds := [], alts := [], laidByText := true, laidKinds := [.data], laidTests := true, laidLooks := .later }
def FnExactIsInterreducedCardSaid : Prop := Claim7.holds Tryd.pinned (.plain (OpenSpec.ofChange fnExactIsInterreducedSpec)) fnExactIsInterreducedCard

/-- THE TIED CARD OF 'laws.FnExactCountPairs'. -/
def fnExactCountPairsCard : Claim7 := { stood := { row := fnExactCountPairsRow, standIns := [], harness := (true, "43852c0c1174b75b839655eecebb9358e23dddc425846d54315e2e013114dcfd"), looks := false }, kinds := [], alts := [], goes := true, laidByText := true, laidKinds := [.data], laidTests := true, laidLooks := .later }
def FnExactCountPairsCardSaid : Prop := Claim7.holds Tryd.pinned (.plain (OpenSpec.ofChange fnExactCountPairsSpec)) fnExactCountPairsCard

/-- THE SECOND FORM's CARD OF 'laws.FnExactPairsOf'. -/
def fnExactPairsOfUptoCard : Claim7 := { stood := { row := fnExactPairsOfUptoRow, standIns := [], harness := (true, "43852c0c1174b75b839655eecebb9358e23dddc425846d54315e2e013114dcfd"), looks := false }, kinds := [], alts := [], goes := true, laidByText := true, laidKinds := [.data], laidTests := true, laidLooks := .later }
def FnExactPairsOfUptoCardSaid : Prop := Claim7.holds Tryd.pinned (.plain (OpenSpec.upto fnExactPairsOfSpec)) fnExactPairsOfUptoCard

/-- THE SECOND FORM's CARD OF 'laws.FnExactSidesOf'. -/
def fnExactSidesOfUptoCard : Claim7 := { stood := { row := fnExactSidesOfUptoRow, standIns := [], harness := (true, "43852c0c1174b75b839655eecebb9358e23dddc425846d54315e2e013114dcfd"), looks := false }, kinds := [], alts := [], laidByText := true, laidKinds := [.data], laidTests := true, laidLooks := .later }
def FnExactSidesOfUptoCardSaid : Prop := Claim7.holds Tryd.pinned (.plain (OpenSpec.upto fnExactSidesOfSpec)) fnExactSidesOfUptoCard

/-- THE SECOND FORM's CARD OF 'laws.FnExactIsJoined'. -/
def fnExactIsJoinedUptoCard : Claim7 := { stood := { row := fnExactIsJoinedUptoRow, standIns := [], harness := (true, "43852c0c1174b75b839655eecebb9358e23dddc425846d54315e2e013114dcfd"), looks := false }, kinds := [], alts := [], goes := true, laidByText := true, laidKinds := [.data], laidTests := true, laidLooks := .later }
def FnExactIsJoinedUptoCardSaid : Prop := Claim7.holds Tryd.pinned (.plain (OpenSpec.upto fnExactIsJoinedSpec)) fnExactIsJoinedUptoCard

/-- THE SECOND FORM's CARD OF 'laws.FnExactOpenPairs'. -/
def fnExactOpenPairsUptoCard : Claim7 := { stood := { row := fnExactOpenPairsUptoRow, standIns := [], harness := (true, "43852c0c1174b75b839655eecebb9358e23dddc425846d54315e2e013114dcfd"), looks := false }, kinds := [], alts := [], goes := true, laidByText := true, laidKinds := [.data], laidTests := true, laidLooks := .later }
def FnExactOpenPairsUptoCardSaid : Prop := Claim7.holds Tryd.pinned (.plain (OpenSpec.upto fnExactOpenPairsSpec)) fnExactOpenPairsUptoCard

/-- THE SECOND FORM's CARD OF 'laws.FnExactIsComplete'. -/
def fnExactIsCompleteUptoCard : Claim7 := { stood := { row := fnExactIsCompleteUptoRow, standIns := [], harness := (true, "43852c0c1174b75b839655eecebb9358e23dddc425846d54315e2e013114dcfd"), looks := false }, kinds := [], alts := [], goes := true, laidByText := true, laidKinds := [.data], laidTests := true, laidLooks := .later }
def FnExactIsCompleteUptoCardSaid : Prop := Claim7.holds Tryd.pinned (.plain (OpenSpec.upto fnExactIsCompleteSpec)) fnExactIsCompleteUptoCard

/-- THE SECOND FORM's CARD OF 'laws.FnExactIsInterreduced'. -/
def fnExactIsInterreducedUptoCard : Claim7 := { stood := { row := fnExactIsInterreducedUptoRow, standIns := [], harness := (true, "43852c0c1174b75b839655eecebb9358e23dddc425846d54315e2e013114dcfd"), looks := false }, kinds := [], alts := [], laidByText := true, laidKinds := [.data], laidTests := true, laidLooks := .later }
def FnExactIsInterreducedUptoCardSaid : Prop := Claim7.holds Tryd.pinned (.plain (OpenSpec.upto fnExactIsInterreducedSpec)) fnExactIsInterreducedUptoCard

/-- THE SECOND FORM's CARD OF 'laws.FnExactCountPairs'. -/
def fnExactCountPairsUptoCard : Claim7 := { stood := { row := fnExactCountPairsUptoRow, standIns := [], harness := (true, "43852c0c1174b75b839655eecebb9358e23dddc425846d54315e2e013114dcfd"), looks := false }, kinds := [], alts := [], goes := true, laidByText := true, laidKinds := [.data], laidTests := true, laidLooks := .later }
def FnExactCountPairsUptoCardSaid : Prop := Claim7.holds Tryd.pinned (.plain (OpenSpec.upto fnExactCountPairsSpec)) fnExactCountPairsUptoCard
end Rows
end Go.Proofs.YtomejfebmibfjaaDoor
