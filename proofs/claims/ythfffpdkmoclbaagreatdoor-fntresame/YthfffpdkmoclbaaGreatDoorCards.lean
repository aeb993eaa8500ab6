/-
  DERIVED. GIVEN WITH THE SEED: THE CARDS: each row of YthfffpdkmoclbaaGreatDoorRows.lean that lists a variable, with what it lists TIED to the program's text (the seventh form; the later family's looks); each row that meets fmt, with fmt's text TOLD by the authors' own Lean function (tested against real Go, not proved from fmt's source: count such statements apart). THE CARD IS WHAT COUNTS. Prove the row's statement (the work); the ties are given (YthfffpdkmoclbaaGreatDoorTie.lean); close each card by the builder's one call (the guide's Derived/Test/ToyasCard.lean, 'card_holds'). Laid BY PROGRAM, IN A SANDBOX (cutbox-door.mjs). By AI agents, Wed Nov 11 2026. No macro, syntax, notation, axiom, sorry.
-/
import Derived.Test.YthfffpdkmoclbaaGreatDoorRows
import GoSem.ClaimSeven
namespace Go.Proofs.YthfffpdkmoclbaaGreatDoor
namespace Rows

/-- THE TIED CARD OF 'laws.FnPolPut'. -/
def fnPolPutCard : Claim7 := { stood := { row := fnPolPutRow, standIns := [], harness := (true, "73b7ea806499cff5b3007a24915ad8e0e743c903ded68f1685f4c37a8429e704"), looks := true }, kinds := [], alts := [], laidByText := true, laidKinds := [.handle], laidTests := true, laidLooks := .later }
def FnPolPutCardSaid : Prop := Claim7.holds Tryz.pinned (.plain (OpenSpec.ofChange fnPolPutSpec)) fnPolPutCard

/-- THE TIED CARD OF 'laws.FnPolOut'. -/
def fnPolOutCard : Claim7 := { stood := { row := fnPolOutRow, standIns := [], harness := (true, "73b7ea806499cff5b3007a24915ad8e0e743c903ded68f1685f4c37a8429e704"), looks := true }, kinds := [], alts := [], laidByText := true, laidKinds := [.handle], laidTests := true, laidLooks := .later }
def FnPolOutCardSaid : Prop := Claim7.holds Tryz.pinned (.plain (OpenSpec.ofChange fnPolOutSpec)) fnPolOutCard

/-- THE TIED CARD OF 'laws.FnPolReach'. -/
def fnPolReachCard : Claim7 := { stood := { row := fnPolReachRow, standIns := [], harness := (true, "73b7ea806499cff5b3007a24915ad8e0e743c903ded68f1685f4c37a8429e704"), looks := true }, kinds := [], alts := [], laidByText := true, laidKinds := [.handle], laidTests := true, laidLooks := .later }
def FnPolReachCardSaid : Prop := Claim7.holds Tryz.pinned (.plain (OpenSpec.ofChange fnPolReachSpec)) fnPolReachCard

/-- THE TIED CARD OF 'laws.FnTreBack'. -/
def fnTreBackCard : Claim7 := { stood := { row := fnTreBackRow, standIns := [], harness := (true, "73b7ea806499cff5b3007a24915ad8e0e743c903ded68f1685f4c37a8429e704"), looks := true }, kinds := [], alts := [], laidByText := true, laidKinds := [.handle], laidTests := true, laidLooks := .later }
def FnTreBackCardSaid : Prop := Claim7.holds Tryz.pinned (.plain (OpenSpec.ofChange fnTreBackSpec)) fnTreBackCard

/-- THE TIED CARD OF 'laws.FnTreSame'. -/
def fnTreSameCard : Claim7 := { stood := { row := fnTreSameRow, standIns := [], harness := (true, "73b7ea806499cff5b3007a24915ad8e0e743c903ded68f1685f4c37a8429e704"), looks := true }, kinds := [], alts := [], laidByText := true, laidKinds := [.handle], laidTests := true, laidLooks := .later }
def FnTreSameCardSaid : Prop := Claim7.holds Tryz.pinned (.plain (OpenSpec.ofChange fnTreSameSpec)) fnTreSameCard

/-- THE TIED CARD OF 'laws.FnExactPolReach'. -/
def fnExactPolReachCard : Claim7 := { stood := { row := fnExactPolReachRow, standIns := [], harness := (true, "73b7ea806499cff5b3007a24915ad8e0e743c903ded68f1685f4c37a8429e704"), looks := true }, kinds := [], alts := [], laidByText := true, laidKinds := [.handle], laidTests := true, laidLooks := .later }
def FnExactPolReachCardSaid : Prop := Claim7.holds Tryz.pinned (.plain (OpenSpec.ofChange fnExactPolReachSpec)) fnExactPolReachCard

/-- THE SECOND FORM's CARD OF 'laws.FnPolPut'. -/
def fnPolPutUptoCard : Claim7 := { stood := { row := fnPolPutUptoRow, standIns := [], harness := (true, "73b7ea806499cff5b3007a24915ad8e0e743c903ded68f1685f4c37a8429e704"), looks := true }, kinds := [], alts := [], laidByText := true, laidKinds := [.handle], laidTests := true, laidLooks := .later }
def FnPolPutUptoCardSaid : Prop := Claim7.holds Tryz.pinned (.plain (OpenSpec.upto fnPolPutSpec)) fnPolPutUptoCard

/-- THE SECOND FORM's CARD OF 'laws.FnPolOut'. -/
def fnPolOutUptoCard : Claim7 := { stood := { row := fnPolOutUptoRow, standIns := [], harness := (true, "73b7ea806499cff5b3007a24915ad8e0e743c903ded68f1685f4c37a8429e704"), looks := true }, kinds := [], alts := [], laidByText := true, laidKinds := [.handle], laidTests := true, laidLooks := .later }
def FnPolOutUptoCardSaid : Prop := Claim7.holds Tryz.pinned (.plain (OpenSpec.upto fnPolOutSpec)) fnPolOutUptoCard

/-- THE SECOND FORM's CARD OF 'laws.FnPolReach'. -/
def fnPolReachUptoCard : Claim7 := { stood := { row := fnPolReachUptoRow, standIns := [], harness := (true, "73b7ea806499cff5b3007a24915ad8e0e743c903ded68f1685f4c37a8429e704"), looks := true }, kinds := [], alts := [], laidByText := true, laidKinds := [.handle], laidTests := true, laidLooks := .later }
def FnPolReachUptoCardSaid : Prop := Claim7.holds Tryz.pinned (.plain (OpenSpec.upto fnPolReachSpec)) fnPolReachUptoCard

/-- THE SECOND FORM's CARD OF 'laws.FnTreBack'. -/
def fnTreBackUptoCard : Claim7 := { stood := { row := fnTreBackUptoRow, standIns := [], harness := (true, "73b7ea806499cff5b3007a24915ad8e0e743c903ded68f1685f4c37a8429e704"), looks := true }, kinds := [], alts := [], laidByText := true, laidKinds := [.handle], laidTests := true, laidLooks := .later }
def FnTreBackUptoCardSaid : Prop := Claim7.holds Tryz.pinned (.plain (OpenSpec.upto fnTreBackSpec)) fnTreBackUptoCard

/-- THE SECOND FORM's CARD OF 'laws.FnTreSame'. -/
def fnTreSameUptoCard : Claim7 := { stood := { row := fnTreSameUptoRow, standIns := [], harness := (true, "73b7ea806499cff5b3007a24915ad8e0e743c903ded68f1685f4c37a8429e704"), looks := true }, kinds := [], alts := [], laidByText := true, laidKinds := [.handle], laidTests := true, laidLooks := .later }
def FnTreSameUptoCardSaid : Prop := Claim7.holds Tryz.pinned (.plain (OpenSpec.upto fnTreSameSpec)) fnTreSameUptoCard

/-- THE SECOND FORM's CARD OF 'laws.FnExactPolReach'. -/
def fnExactPolReachUptoCard : Claim7 := { stood := { row := fnExactPolReachUptoRow, standIns := [], harness := (true, "73b7ea806499cff5b3007a24915ad8e0e743c903ded68f1685f4c37a8429e704"), looks := true }, kinds := [], alts := [], laidByText := true, laidKinds := [.handle], laidTests := true, laidLooks := .later }
def FnExactPolReachUptoCardSaid : Prop := Claim7.holds Tryz.pinned (.plain (OpenSpec.upto fnExactPolReachSpec)) fnExactPolReachUptoCard
end Rows
end Go.Proofs.YthfffpdkmoclbaaGreatDoor
