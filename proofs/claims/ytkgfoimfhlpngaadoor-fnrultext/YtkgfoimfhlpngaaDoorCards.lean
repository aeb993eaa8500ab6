/-
  DERIVED. GIVEN WITH THE SEED: THE CARDS: each row of YtkgfoimfhlpngaaDoorRows.lean that lists a variable, with what it lists TIED to the program's text (the seventh form; the later family's looks); each row that meets fmt, with fmt's text TOLD by the authors' own Lean function (tested against real Go, not proved from fmt's source: count such statements apart). THE CARD IS WHAT COUNTS. Prove the row's statement (the work); the ties are given (YtkgfoimfhlpngaaDoorTie.lean); close each card by the builder's one call (the guide's Derived/Test/ToyasCard.lean, 'card_holds'). Laid BY PROGRAM, IN A SANDBOX (cutbox-door.mjs). By AI agents, Wed Nov 11 2026. No macro, syntax, notation, axiom, sorry.
-/
import Derived.Test.YtkgfoimfhlpngaaDoorRows
import GoSem.ClaimSeven
namespace Go.Proofs.YtkgfoimfhlpngaaDoor
namespace Rows

/-- THE TIED CARD OF 'laws.FnExactRulRead'. -/
def fnExactRulReadCard : Claim7 := { stood := { row := fnExactRulReadRow, standIns := [], harness := (true, "ebe5d639c1289299694b7d0e6044f56c289aa60c2fbd8e58b6097a00efef54f4"), looks := true }, kinds := [], alts := [], laidByText := true, laidKinds := [.data, .data, .data, .data, .sentinel, .sentinel, .pinned], laidTests := true, laidLooks := .later }
def FnExactRulReadCardSaid : Prop := Claim7.holds Tryd.pinned (.plain (OpenSpec.ofChange fnExactRulReadSpec)) fnExactRulReadCard

/-- THE TIED CARD OF 'laws.FnRulText'. -/
def fnRulTextCard : Claim7 := { stood := { row := fnRulTextRow, standIns := [], harness := (true, "ebe5d639c1289299694b7d0e6044f56c289aa60c2fbd8e58b6097a00efef54f4"), looks := true }, kinds := [], alts := [], laidByText := true, laidKinds := [.data, .data, .data, .data, .sentinel, .sentinel, .pinned], laidTests := true, laidLooks := .later }
def FnRulTextCardSaid : Prop := Claim7.holds Tryd.pinned (.plain (OpenSpec.ofChange fnRulTextSpec)) fnRulTextCard

/-- THE SECOND FORM's CARD OF 'laws.FnExactRulRead'. -/
def fnExactRulReadUptoCard : Claim7 := { stood := { row := fnExactRulReadUptoRow, standIns := [], harness := (true, "ebe5d639c1289299694b7d0e6044f56c289aa60c2fbd8e58b6097a00efef54f4"), looks := true }, kinds := [], alts := [], laidByText := true, laidKinds := [.data, .data, .data, .data, .sentinel, .sentinel, .pinned], laidTests := true, laidLooks := .later }
def FnExactRulReadUptoCardSaid : Prop := Claim7.holds Tryd.pinned (.plain (OpenSpec.upto fnExactRulReadSpec)) fnExactRulReadUptoCard

/-- THE SECOND FORM's CARD OF 'laws.FnRulText'. -/
def fnRulTextUptoCard : Claim7 := { stood := { row := fnRulTextUptoRow, standIns := [], harness := (true, "ebe5d639c1289299694b7d0e6044f56c289aa60c2fbd8e58b6097a00efef54f4"), looks := true }, kinds := [], alts := [], laidByText := true, laidKinds := [.data, .data, .data, .data, .sentinel, .sentinel, .pinned], laidTests := true, laidLooks := .later }
def FnRulTextUptoCardSaid : Prop := Claim7.holds Tryd.pinned (.plain (OpenSpec.upto fnRulTextSpec)) fnRulTextUptoCard
end Rows
end Go.Proofs.YtkgfoimfhlpngaaDoor
