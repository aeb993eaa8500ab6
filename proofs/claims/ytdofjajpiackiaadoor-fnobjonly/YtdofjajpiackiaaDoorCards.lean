/-
  DERIVED. GIVEN WITH THE SEED: THE CARDS: each row of YtdofjajpiackiaaDoorRows.lean that lists a variable, with what it lists TIED to the program's text (the seventh form; the later family's looks); each row that meets fmt, with fmt's text TOLD by the authors' own Lean function (tested against real Go, not proved from fmt's source: count such statements apart). THE CARD IS WHAT COUNTS. Prove the row's statement (the work); the ties are given (YtdofjajpiackiaaDoorTie.lean); close each card by the builder's one call (the guide's Derived/Test/ToyasCard.lean, 'card_holds'). Laid BY PROGRAM, IN A SANDBOX (cutbox-door.mjs). By AI agents, Wed Nov 11 2026. No macro, syntax, notation, axiom, sorry.
-/
import Derived.Test.YtdofjajpiackiaaDoorRows
import GoSem.ClaimSeven
namespace Go.Proofs.YtdofjajpiackiaaDoor
namespace Rows

/-- THE TIED CARD OF 'laws.FnObjBack'. -/
def fnObjBackCard : Claim7 := { stood := { row := fnObjBackRow, standIns := [], harness := (true, "ee3abc4563edbc1730c7062cbe4cabacd37897b217435accbe6fd51ece32be80"), looks := true }, kinds := [], alts := [], laidByText := true, laidKinds := [.handle], laidTests := true, laidLooks := .later }
def FnObjBackCardSaid : Prop := Claim7.holds Tryd.pinned (.plain (OpenSpec.ofChange fnObjBackSpec)) fnObjBackCard

/-- THE TIED CARD OF 'laws.FnObjOnly'. -/
def fnObjOnlyCard : Claim7 := { stood := { row := fnObjOnlyRow, standIns := [], harness := (true, "ee3abc4563edbc1730c7062cbe4cabacd37897b217435accbe6fd51ece32be80"), looks := true }, kinds := [], alts := [], laidByText := true, laidKinds := [.handle], laidTests := true, laidLooks := .later }
def FnObjOnlyCardSaid : Prop := Claim7.holds Tryd.pinned (.plain (OpenSpec.ofChange fnObjOnlySpec)) fnObjOnlyCard

/-- THE SECOND FORM's CARD OF 'laws.FnObjBack'. -/
def fnObjBackUptoCard : Claim7 := { stood := { row := fnObjBackUptoRow, standIns := [], harness := (true, "ee3abc4563edbc1730c7062cbe4cabacd37897b217435accbe6fd51ece32be80"), looks := true }, kinds := [], alts := [], laidByText := true, laidKinds := [.handle], laidTests := true, laidLooks := .later }
def FnObjBackUptoCardSaid : Prop := Claim7.holds Tryd.pinned (.plain (OpenSpec.upto fnObjBackSpec)) fnObjBackUptoCard

/-- THE SECOND FORM's CARD OF 'laws.FnObjOnly'. -/
def fnObjOnlyUptoCard : Claim7 := { stood := { row := fnObjOnlyUptoRow, standIns := [], harness := (true, "ee3abc4563edbc1730c7062cbe4cabacd37897b217435accbe6fd51ece32be80"), looks := true }, kinds := [], alts := [], laidByText := true, laidKinds := [.handle], laidTests := true, laidLooks := .later }
def FnObjOnlyUptoCardSaid : Prop := Claim7.holds Tryd.pinned (.plain (OpenSpec.upto fnObjOnlySpec)) fnObjOnlyUptoCard
end Rows
end Go.Proofs.YtdofjajpiackiaaDoor
