/-
  DERIVED. GIVEN WITH THE SEED: THE CARDS: each row of YtlehdmflnglipaaDoorRows.lean that lists a variable, with what it lists TIED to the program's text (the seventh form; the later family's looks); each row that meets fmt, with fmt's text TOLD by the authors' own Lean function (tested against real Go, not proved from fmt's source: count such statements apart). THE CARD IS WHAT COUNTS. Prove the row's statement (the work); the ties are given (YtlehdmflnglipaaDoorTie.lean); close each card by the builder's one call (the guide's Derived/Test/ToyasCard.lean, 'card_holds'). Laid BY PROGRAM, IN A SANDBOX (cutbox-door.mjs). By AI agents, Wed Nov 11 2026. No macro, syntax, notation, axiom, sorry.
-/
import Derived.Test.YtlehdmflnglipaaDoorRows
import GoSem.ClaimSeven
namespace Go.Proofs.YtlehdmflnglipaaDoor
namespace Rows

/-- THE TIED CARD OF 'laws.FnExactCyclicSystem'. -/
def fnExactCyclicSystemCard : Claim7 := { stood := { row := fnExactCyclicSystemRow, standIns := [], harness := (true, "fb19c595a53da78978562f0a035bc147430da68a4d514ed46309ab2a7546b87b"), looks := false }, kinds := [], alts := [], laidByText := true, laidKinds := [.data], laidTests := true, laidLooks := .later }
def FnExactCyclicSystemCardSaid : Prop := Claim7.holds Tryd.pinned (.plain (OpenSpec.ofChange fnExactCyclicSystemSpec)) fnExactCyclicSystemCard

/-- THE TIED CARD OF 'laws.FnExactSortingSystem'. -/
def fnExactSortingSystemCard : Claim7 := { stood := { row := fnExactSortingSystemRow, standIns := [], harness := (true, "fb19c595a53da78978562f0a035bc147430da68a4d514ed46309ab2a7546b87b"), looks := false }, kinds := [], alts := [], laidByText := true, laidKinds := [.data], laidTests := true, laidLooks := .later }
def FnExactSortingSystemCardSaid : Prop := Claim7.holds Tryd.pinned (.plain (OpenSpec.ofChange fnExactSortingSystemSpec)) fnExactSortingSystemCard

/-- THE TIED CARD OF 'laws.FnExactProjectorSystem'. -/
def fnExactProjectorSystemCard : Claim7 := { stood := { row := fnExactProjectorSystemRow, standIns := [], harness := (true, "fb19c595a53da78978562f0a035bc147430da68a4d514ed46309ab2a7546b87b"), looks := false }, kinds := [], alts := [], laidByText := true, laidKinds := [.data], laidTests := true, laidLooks := .later }
def FnExactProjectorSystemCardSaid : Prop := Claim7.holds Tryd.pinned (.plain (OpenSpec.ofChange fnExactProjectorSystemSpec)) fnExactProjectorSystemCard

/-- THE TIED CARD OF 'laws.FnExactBracketSystem'. -/
def fnExactBracketSystemCard : Claim7 := { stood := { row := fnExactBracketSystemRow, standIns := [], harness := (true, "fb19c595a53da78978562f0a035bc147430da68a4d514ed46309ab2a7546b87b"), looks := false }, kinds := [], alts := [], laidByText := true, laidKinds := [.data], laidTests := true, laidLooks := .later }
def FnExactBracketSystemCardSaid : Prop := Claim7.holds Tryd.pinned (.plain (OpenSpec.ofChange fnExactBracketSystemSpec)) fnExactBracketSystemCard

/-- THE TIED CARD OF 'laws.FnExactTableSystem'. -/
def fnExactTableSystemCard : Claim7 := { stood := { row := fnExactTableSystemRow, standIns := [], harness := (true, "fb19c595a53da78978562f0a035bc147430da68a4d514ed46309ab2a7546b87b"), looks := false }, kinds := [], alts := [], laidByText := true, laidKinds := [.data], laidTests := true, laidLooks := .later }
def FnExactTableSystemCardSaid : Prop := Claim7.holds Tryd.pinned (.plain (OpenSpec.ofChange fnExactTableSystemSpec)) fnExactTableSystemCard

/-- THE SECOND FORM's CARD OF 'laws.FnExactCyclicSystem'. -/
def fnExactCyclicSystemUptoCard : Claim7 := { stood := { row := fnExactCyclicSystemUptoRow, standIns := [], harness := (true, "fb19c595a53da78978562f0a035bc147430da68a4d514ed46309ab2a7546b87b"), looks := false }, kinds := [], alts := [], laidByText := true, laidKinds := [.data], laidTests := true, laidLooks := .later }
def FnExactCyclicSystemUptoCardSaid : Prop := Claim7.holds Tryd.pinned (.plain (OpenSpec.upto fnExactCyclicSystemSpec)) fnExactCyclicSystemUptoCard

/-- THE SECOND FORM's CARD OF 'laws.FnExactSortingSystem'. -/
def fnExactSortingSystemUptoCard : Claim7 := { stood := { row := fnExactSortingSystemUptoRow, standIns := [], harness := (true, "fb19c595a53da78978562f0a035bc147430da68a4d514ed46309ab2a7546b87b"), looks := false }, kinds := [], alts := [], laidByText := true, laidKinds := [.data], laidTests := true, laidLooks := .later }
def FnExactSortingSystemUptoCardSaid : Prop := Claim7.holds Tryd.pinned (.plain (OpenSpec.upto fnExactSortingSystemSpec)) fnExactSortingSystemUptoCard

/-- THE SECOND FORM's CARD OF 'laws.FnExactProjectorSystem'. -/
def fnExactProjectorSystemUptoCard : Claim7 := { stood := { row := fnExactProjectorSystemUptoRow, standIns := [], harness := (true, "fb19c595a53da78978562f0a035bc147430da68a4d514ed46309ab2a7546b87b"), looks := false }, kinds := [], alts := [], laidByText := true, laidKinds := [.data], laidTests := true, laidLooks := .later }
def FnExactProjectorSystemUptoCardSaid : Prop := Claim7.holds Tryd.pinned (.plain (OpenSpec.upto fnExactProjectorSystemSpec)) fnExactProjectorSystemUptoCard

/-- THE SECOND FORM's CARD OF 'laws.FnExactBracketSystem'. -/
def fnExactBracketSystemUptoCard : Claim7 := { stood := { row := fnExactBracketSystemUptoRow, standIns := [], harness := (true, "fb19c595a53da78978562f0a035bc147430da68a4d514ed46309ab2a7546b87b"), looks := false }, kinds := [], alts := [], laidByText := true, laidKinds := [.data], laidTests := true, laidLooks := .later }
def FnExactBracketSystemUptoCardSaid : Prop := Claim7.holds Tryd.pinned (.plain (OpenSpec.upto fnExactBracketSystemSpec)) fnExactBracketSystemUptoCard

/-- THE SECOND FORM's CARD OF 'laws.FnExactTableSystem'. -/
def fnExactTableSystemUptoCard : Claim7 := { stood := { row := fnExactTableSystemUptoRow, standIns := [], harness := (true, "fb19c595a53da78978562f0a035bc147430da68a4d514ed46309ab2a7546b87b"), looks := false }, kinds := [], alts := [], laidByText := true, laidKinds := [.data], laidTests := true, laidLooks := .later }
def FnExactTableSystemUptoCardSaid : Prop := Claim7.holds Tryd.pinned (.plain (OpenSpec.upto fnExactTableSystemSpec)) fnExactTableSystemUptoCard
end Rows
end Go.Proofs.YtlehdmflnglipaaDoor
