/-
  DERIVED. GIVEN WITH THE SEED: THE CARDS: each row of YtpmghdecfpfahaaDoorRows.lean that lists a variable, with what it lists TIED to the program's text (the seventh form; the later family's looks); each row that meets fmt, with fmt's text TOLD by the authors' own Lean function (tested against real Go, not proved from fmt's source: count such statements apart). THE CARD IS WHAT COUNTS. Prove the row's statement (the work); the ties are given (YtpmghdecfpfahaaDoorTie.lean); close each card by the builder's one call (the guide's Derived/Test/ToyasCard.lean, 'card_holds'). Laid BY PROGRAM, IN A SANDBOX (cutbox-door.mjs). By AI agents, Wed Nov 11 2026. No macro, syntax, notation, axiom, sorry.
-/
import Derived.Test.YtpmghdecfpfahaaDoorRows
import GoSem.ClaimSeven
namespace Go.Proofs.YtpmghdecfpfahaaDoor
namespace Rows

/-- THE TIED CARD OF 'laws.FnExactSidesOk'. -/
def fnExactSidesOkCard : Claim7 := { stood := { row := fnExactSidesOkRow, standIns := [], harness := (true, "e90476d56df692ac335a5cb1c69636503613de00d99fc8ebc892385d2f9d33cb"), looks := true }, kinds := [], alts := [], laidByText := true, laidKinds := [.data], laidTests := true, laidLooks := .later }
def FnExactSidesOkCardSaid : Prop := Claim7.holds Tryd.pinned (.plain (OpenSpec.ofChange fnExactSidesOkSpec)) fnExactSidesOkCard

/-- THE TIED CARD OF 'laws.FnExactRulesOk'. -/
def fnExactRulesOkCard : Claim7 := { stood := { row := fnExactRulesOkRow, standIns := [], harness := (true, "e90476d56df692ac335a5cb1c69636503613de00d99fc8ebc892385d2f9d33cb"), looks := true }, kinds := [], alts := [], laidByText := true, laidKinds := [.data], laidTests := true, laidLooks := .later }
def FnExactRulesOkCardSaid : Prop := Claim7.holds Tryd.pinned (.plain (OpenSpec.ofChange fnExactRulesOkSpec)) fnExactRulesOkCard

/-- THE TIED CARD OF 'laws.FnExactSystemOk'. -/
def fnExactSystemOkCard : Claim7 := { stood := { row := fnExactSystemOkRow, standIns := [], harness := (true, "e90476d56df692ac335a5cb1c69636503613de00d99fc8ebc892385d2f9d33cb"), looks := true }, kinds := [], alts := [], laidByText := true, laidKinds := [.data], laidTests := true, laidLooks := .later }
def FnExactSystemOkCardSaid : Prop := Claim7.holds Tryd.pinned (.plain (OpenSpec.ofChange fnExactSystemOkSpec)) fnExactSystemOkCard

/-- THE TIED CARD OF 'laws.FnExactOrientRule'. -/
def fnExactOrientRuleCard : Claim7 := { stood := { row := fnExactOrientRuleRow, standIns := [], harness := (true, "e90476d56df692ac335a5cb1c69636503613de00d99fc8ebc892385d2f9d33cb"), looks := true }, kinds := [], alts := [], laidByText := true, laidKinds := [.data], laidTests := true, laidLooks := .later }
def FnExactOrientRuleCardSaid : Prop := Claim7.holds Tryd.pinned (.plain (OpenSpec.ofChange fnExactOrientRuleSpec)) fnExactOrientRuleCard

/-- THE TIED CARD OF 'laws.FnExactMirrorSystem'. -/
def fnExactMirrorSystemCard : Claim7 := { stood := { row := fnExactMirrorSystemRow, standIns := [], harness := (true, "e90476d56df692ac335a5cb1c69636503613de00d99fc8ebc892385d2f9d33cb"), looks := true }, kinds := [], alts := [], laidByText := true, laidKinds := [.data], laidTests := true, laidLooks := .later }
def FnExactMirrorSystemCardSaid : Prop := Claim7.holds Tryd.pinned (.plain (OpenSpec.ofChange fnExactMirrorSystemSpec)) fnExactMirrorSystemCard

/-- THE TIED CARD OF 'laws.FnExactParseRule'. -/
def fnExactParseRuleCard : Claim7 := { stood := { row := fnExactParseRuleRow, standIns := [], harness := (true, "e90476d56df692ac335a5cb1c69636503613de00d99fc8ebc892385d2f9d33cb"), looks := true }, kinds := [], alts := [], laidByText := true, laidKinds := [.data], laidTests := true, laidLooks := .later }
def FnExactParseRuleCardSaid : Prop := Claim7.holds Tryd.pinned (.plain (OpenSpec.ofChange fnExactParseRuleSpec)) fnExactParseRuleCard

/-- THE TIED CARD OF 'laws.FnExactFormatSystem'. -/
def fnExactFormatSystemCard : Claim7 := { stood := { row := fnExactFormatSystemRow, standIns := [], harness := (true, "e90476d56df692ac335a5cb1c69636503613de00d99fc8ebc892385d2f9d33cb"), looks := true }, kinds := [], alts := [], laidByText := true, laidKinds := [.data, .data, .data, .data], laidTests := true, laidLooks := .later }
def FnExactFormatSystemCardSaid : Prop := Claim7.holds Tryd.pinned (.plain (OpenSpec.ofChange fnExactFormatSystemSpec)) fnExactFormatSystemCard

/-- THE TIED CARD OF 'laws.FnExactParseSystem'. -/
def fnExactParseSystemCard : Claim7 := { stood := { row := fnExactParseSystemRow, standIns := [], harness := (true, "e90476d56df692ac335a5cb1c69636503613de00d99fc8ebc892385d2f9d33cb"), looks := true }, kinds := [], alts := [], laidByText := true, laidKinds := [.data, .data, .data, .sentinel, .sentinel, .data], laidTests := true, laidLooks := .later }
def FnExactParseSystemCardSaid : Prop := Claim7.holds Tryd.pinned (.plain (OpenSpec.ofChange fnExactParseSystemSpec)) fnExactParseSystemCard

/-- THE SECOND FORM's CARD OF 'laws.FnExactSidesOk'. -/
def fnExactSidesOkUptoCard : Claim7 := { stood := { row := fnExactSidesOkUptoRow, standIns := [], harness := (true, "e90476d56df692ac335a5cb1c69636503613de00d99fc8ebc892385d2f9d33cb"), looks := true }, kinds := [], alts := [], laidByText := true, laidKinds := [.data], laidTests := true, laidLooks := .later }
def FnExactSidesOkUptoCardSaid : Prop := Claim7.holds Tryd.pinned (.plain (OpenSpec.upto fnExactSidesOkSpec)) fnExactSidesOkUptoCard

/-- THE SECOND FORM's CARD OF 'laws.FnExactRulesOk'. -/
def fnExactRulesOkUptoCard : Claim7 := { stood := { row := fnExactRulesOkUptoRow, standIns := [], harness := (true, "e90476d56df692ac335a5cb1c69636503613de00d99fc8ebc892385d2f9d33cb"), looks := true }, kinds := [], alts := [], laidByText := true, laidKinds := [.data], laidTests := true, laidLooks := .later }
def FnExactRulesOkUptoCardSaid : Prop := Claim7.holds Tryd.pinned (.plain (OpenSpec.upto fnExactRulesOkSpec)) fnExactRulesOkUptoCard

/-- THE SECOND FORM's CARD OF 'laws.FnExactSystemOk'. -/
def fnExactSystemOkUptoCard : Claim7 := { stood := { row := fnExactSystemOkUptoRow, standIns := [], harness := (true, "e90476d56df692ac335a5cb1c69636503613de00d99fc8ebc892385d2f9d33cb"), looks := true }, kinds := [], alts := [], laidByText := true, laidKinds := [.data], laidTests := true, laidLooks := .later }
def FnExactSystemOkUptoCardSaid : Prop := Claim7.holds Tryd.pinned (.plain (OpenSpec.upto fnExactSystemOkSpec)) fnExactSystemOkUptoCard

/-- THE SECOND FORM's CARD OF 'laws.FnExactOrientRule'. -/
def fnExactOrientRuleUptoCard : Claim7 := { stood := { row := fnExactOrientRuleUptoRow, standIns := [], harness := (true, "e90476d56df692ac335a5cb1c69636503613de00d99fc8ebc892385d2f9d33cb"), looks := true }, kinds := [], alts := [], laidByText := true, laidKinds := [.data], laidTests := true, laidLooks := .later }
def FnExactOrientRuleUptoCardSaid : Prop := Claim7.holds Tryd.pinned (.plain (OpenSpec.upto fnExactOrientRuleSpec)) fnExactOrientRuleUptoCard

/-- THE SECOND FORM's CARD OF 'laws.FnExactMirrorSystem'. -/
def fnExactMirrorSystemUptoCard : Claim7 := { stood := { row := fnExactMirrorSystemUptoRow, standIns := [], harness := (true, "e90476d56df692ac335a5cb1c69636503613de00d99fc8ebc892385d2f9d33cb"), looks := true }, kinds := [], alts := [], laidByText := true, laidKinds := [.data], laidTests := true, laidLooks := .later }
def FnExactMirrorSystemUptoCardSaid : Prop := Claim7.holds Tryd.pinned (.plain (OpenSpec.upto fnExactMirrorSystemSpec)) fnExactMirrorSystemUptoCard

/-- THE SECOND FORM's CARD OF 'laws.FnExactParseRule'. -/
def fnExactParseRuleUptoCard : Claim7 := { stood := { row := fnExactParseRuleUptoRow, standIns := [], harness := (true, "e90476d56df692ac335a5cb1c69636503613de00d99fc8ebc892385d2f9d33cb"), looks := true }, kinds := [], alts := [], laidByText := true, laidKinds := [.data], laidTests := true, laidLooks := .later }
def FnExactParseRuleUptoCardSaid : Prop := Claim7.holds Tryd.pinned (.plain (OpenSpec.upto fnExactParseRuleSpec)) fnExactParseRuleUptoCard

/-- THE SECOND FORM's CARD OF 'laws.FnExactFormatSystem'. -/
def fnExactFormatSystemUptoCard : Claim7 := { stood := { row := fnExactFormatSystemUptoRow, standIns := [], harness := (true, "e90476d56df692ac335a5cb1c69636503613de00d99fc8ebc892385d2f9d33cb"), looks := true }, kinds := [], alts := [], laidByText := true, laidKinds := [.data, .data, .data, .data], laidTests := true, laidLooks := .later }
def FnExactFormatSystemUptoCardSaid : Prop := Claim7.holds Tryd.pinned (.plain (OpenSpec.upto fnExactFormatSystemSpec)) fnExactFormatSystemUptoCard

/-- THE SECOND FORM's CARD OF 'laws.FnExactParseSystem'. -/
def fnExactParseSystemUptoCard : Claim7 := { stood := { row := fnExactParseSystemUptoRow, standIns := [], harness := (true, "e90476d56df692ac335a5cb1c69636503613de00d99fc8ebc892385d2f9d33cb"), looks := true }, kinds := [], alts := [], laidByText := true, laidKinds := [.data, .data, .data, .sentinel, .sentinel, .data], laidTests := true, laidLooks := .later }
def FnExactParseSystemUptoCardSaid : Prop := Claim7.holds Tryd.pinned (.plain (OpenSpec.upto fnExactParseSystemSpec)) fnExactParseSystemUptoCard
end Rows
end Go.Proofs.YtpmghdecfpfahaaDoor
