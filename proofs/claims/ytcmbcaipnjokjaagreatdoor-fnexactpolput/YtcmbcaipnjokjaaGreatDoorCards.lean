/-
  DERIVED. GIVEN WITH THE SEED: THE CARDS: each row of YtcmbcaipnjokjaaGreatDoorRows.lean that lists a variable, with what it lists TIED to the program's text (the seventh form; the later family's looks); each row that meets fmt, with fmt's text TOLD by the authors' own Lean function (tested against real Go, not proved from fmt's source: count such statements apart). THE CARD IS WHAT COUNTS. Prove the row's statement (the work); the ties are given (YtcmbcaipnjokjaaGreatDoorTie.lean); close each card by the builder's one call (the guide's Derived/Test/ToyasCard.lean, 'card_holds'). Laid BY PROGRAM, IN A SANDBOX (cutbox-door.mjs). By AI agents, Wed Nov 11 2026. No macro, syntax, notation, axiom, sorry.
-/
import Derived.Test.YtcmbcaipnjokjaaGreatDoorRows
import GoSem.ClaimSeven
namespace Go.Proofs.YtcmbcaipnjokjaaGreatDoor
namespace Rows

/-- THE TIED CARD OF 'laws.FnExactPolPut'. -/
def fnExactPolPutCard : Claim7 := { stood := { row := fnExactPolPutRow, standIns := [], harness := (true, "b8c2da31a858facb0f72ac93dc518d0b2c253bb48be658fa3d4561ee5d1be2fb"), looks := true }, kinds := [], alts := [], laidByText := true, laidKinds := [.handle], laidTests := true, laidLooks := .later }
def FnExactPolPutCardSaid : Prop := Claim7.holds Tryz.pinned (.plain (OpenSpec.ofChange fnExactPolPutSpec)) fnExactPolPutCard

/-- THE TIED CARD OF 'laws.FnExactPolReach'. -/
def fnExactPolReachCard : Claim7 := { stood := { row := fnExactPolReachRow, standIns := [], harness := (true, "b8c2da31a858facb0f72ac93dc518d0b2c253bb48be658fa3d4561ee5d1be2fb"), looks := true }, kinds := [], alts := [], laidByText := true, laidKinds := [.handle], laidTests := true, laidLooks := .later }
def FnExactPolReachCardSaid : Prop := Claim7.holds Tryz.pinned (.plain (OpenSpec.ofChange fnExactPolReachSpec)) fnExactPolReachCard

/-- THE TIED CARD OF 'laws.FnExactTreRead'. -/
def fnExactTreReadCard : Claim7 := { stood := { row := fnExactTreReadRow, standIns := [], harness := (true, "b8c2da31a858facb0f72ac93dc518d0b2c253bb48be658fa3d4561ee5d1be2fb"), looks := true }, kinds := [], alts := [], laidByText := true, laidKinds := [.handle], laidTests := true, laidLooks := .later }
def FnExactTreReadCardSaid : Prop := Claim7.holds Tryz.pinned (.plain (OpenSpec.ofChange fnExactTreReadSpec)) fnExactTreReadCard

/-- THE SECOND FORM's CARD OF 'laws.FnExactPolPut'. -/
def fnExactPolPutUptoCard : Claim7 := { stood := { row := fnExactPolPutUptoRow, standIns := [], harness := (true, "b8c2da31a858facb0f72ac93dc518d0b2c253bb48be658fa3d4561ee5d1be2fb"), looks := true }, kinds := [], alts := [], laidByText := true, laidKinds := [.handle], laidTests := true, laidLooks := .later }
def FnExactPolPutUptoCardSaid : Prop := Claim7.holds Tryz.pinned (.plain (OpenSpec.upto fnExactPolPutSpec)) fnExactPolPutUptoCard

/-- THE SECOND FORM's CARD OF 'laws.FnExactPolReach'. -/
def fnExactPolReachUptoCard : Claim7 := { stood := { row := fnExactPolReachUptoRow, standIns := [], harness := (true, "b8c2da31a858facb0f72ac93dc518d0b2c253bb48be658fa3d4561ee5d1be2fb"), looks := true }, kinds := [], alts := [], laidByText := true, laidKinds := [.handle], laidTests := true, laidLooks := .later }
def FnExactPolReachUptoCardSaid : Prop := Claim7.holds Tryz.pinned (.plain (OpenSpec.upto fnExactPolReachSpec)) fnExactPolReachUptoCard

/-- THE SECOND FORM's CARD OF 'laws.FnExactTreRead'. -/
def fnExactTreReadUptoCard : Claim7 := { stood := { row := fnExactTreReadUptoRow, standIns := [], harness := (true, "b8c2da31a858facb0f72ac93dc518d0b2c253bb48be658fa3d4561ee5d1be2fb"), looks := true }, kinds := [], alts := [], laidByText := true, laidKinds := [.handle], laidTests := true, laidLooks := .later }
def FnExactTreReadUptoCardSaid : Prop := Claim7.holds Tryz.pinned (.plain (OpenSpec.upto fnExactTreReadSpec)) fnExactTreReadUptoCard
end Rows
end Go.Proofs.YtcmbcaipnjokjaaGreatDoor
