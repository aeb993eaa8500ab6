/-
  DERIVED. GIVEN WITH THE SEED: THE CARDS: each row of YteaicokndmgciaaDoorRows.lean that lists a variable, with what it lists TIED to the program's text (the seventh form; the later family's looks); each row that meets fmt, with fmt's text TOLD by the authors' own Lean function (tested against real Go, not proved from fmt's source: count such statements apart). THE CARD IS WHAT COUNTS. Prove the row's statement (the work); the ties are given (YteaicokndmgciaaDoorTie.lean); close each card by the builder's one call (the guide's Derived/Test/ToyasCard.lean, 'card_holds'). Laid BY PROGRAM, IN A SANDBOX (cutbox-door.mjs). By AI agents, Wed Nov 11 2026. No macro, syntax, notation, axiom, sorry.
-/
import Derived.Test.YteaicokndmgciaaDoorRows
import GoSem.ClaimSeven
namespace Go.Proofs.YteaicokndmgciaaDoor
namespace Rows

/-- THE TIED CARD OF 'laws.FnExactPolOk'. -/
def fnExactPolOkCard : Claim7 := { stood := { row := fnExactPolOkRow, standIns := [], harness := (true, "46a055f14c2870ad4db191c4a7031b8bb494866376f6f0f9cbb102812907f0fd"), looks := true }, kinds := [], alts := [], laidByText := true, laidKinds := [.handle], laidTests := true, laidLooks := .later }
def FnExactPolOkCardSaid : Prop := Claim7.holds Tryd.pinned (.plain (OpenSpec.ofChange fnExactPolOkSpec)) fnExactPolOkCard

/-- THE SECOND FORM's CARD OF 'laws.FnExactPolOk'. -/
def fnExactPolOkUptoCard : Claim7 := { stood := { row := fnExactPolOkUptoRow, standIns := [], harness := (true, "46a055f14c2870ad4db191c4a7031b8bb494866376f6f0f9cbb102812907f0fd"), looks := true }, kinds := [], alts := [], laidByText := true, laidKinds := [.handle], laidTests := true, laidLooks := .later }
def FnExactPolOkUptoCardSaid : Prop := Claim7.holds Tryd.pinned (.plain (OpenSpec.upto fnExactPolOkSpec)) fnExactPolOkUptoCard
end Rows
end Go.Proofs.YteaicokndmgciaaDoor
