/-
  DERIVED. GIVEN WITH THE SEED: THE CARDS: each row of YtfpchfmjgjlelaaDoorRows.lean that lists a variable, with what it lists TIED to the program's text (the seventh form; the later family's looks); each row that meets fmt, with fmt's text TOLD by the authors' own Lean function (tested against real Go, not proved from fmt's source: count such statements apart). THE CARD IS WHAT COUNTS. Prove the row's statement (the work); the ties are given (YtfpchfmjgjlelaaDoorTie.lean); close each card by the builder's one call (the guide's Derived/Test/ToyasCard.lean, 'card_holds'). Laid BY PROGRAM, IN A SANDBOX (cutbox-door.mjs). By AI agents, Wed Nov 11 2026. No macro, syntax, notation, axiom, sorry.
-/
import Derived.Test.YtfpchfmjgjlelaaDoorRows
import GoSem.ClaimSeven
namespace Go.Proofs.YtfpchfmjgjlelaaDoor
namespace Rows

/-- THE TIED CARD OF 'laws.FnExactDskAnswer'. -/
def fnExactDskAnswerCard : Claim7 := { stood := { row := fnExactDskAnswerRow, standIns := [], harness := (true, "37f61232dab5f424b5c41caea190d9121f088e3f378c47849a661adc4f91fa55"), looks := false }, kinds := [], alts := [], laidByText := true, laidKinds := [.data, .data, .data], laidTests := true, laidLooks := .later }
def FnExactDskAnswerCardSaid : Prop := Claim7.holds Tryd.pinned (.plain (OpenSpec.ofChange fnExactDskAnswerSpec)) fnExactDskAnswerCard

/-- THE SECOND FORM's CARD OF 'laws.FnExactDskAnswer'. -/
def fnExactDskAnswerUptoCard : Claim7 := { stood := { row := fnExactDskAnswerUptoRow, standIns := [], harness := (true, "37f61232dab5f424b5c41caea190d9121f088e3f378c47849a661adc4f91fa55"), looks := false }, kinds := [], alts := [], laidByText := true, laidKinds := [.data, .data, .data], laidTests := true, laidLooks := .later }
def FnExactDskAnswerUptoCardSaid : Prop := Claim7.holds Tryd.pinned (.plain (OpenSpec.upto fnExactDskAnswerSpec)) fnExactDskAnswerUptoCard
end Rows
end Go.Proofs.YtfpchfmjgjlelaaDoor
