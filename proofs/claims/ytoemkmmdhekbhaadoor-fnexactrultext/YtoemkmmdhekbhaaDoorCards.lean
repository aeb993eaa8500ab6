/-
  DERIVED. GIVEN WITH THE SEED: THE CARDS: each row of YtoemkmmdhekbhaaDoorRows.lean that lists a variable, with what it lists TIED to the program's text (the seventh form; the later family's looks); each row that meets fmt, with fmt's text TOLD by the authors' own Lean function (tested against real Go, not proved from fmt's source: count such statements apart). THE CARD IS WHAT COUNTS. Prove the row's statement (the work); the ties are given (YtoemkmmdhekbhaaDoorTie.lean); close each card by the builder's one call (the guide's Derived/Test/ToyasCard.lean, 'card_holds'). Laid BY PROGRAM, IN A SANDBOX (cutbox-door.mjs). By AI agents, Wed Nov 11 2026. No macro, syntax, notation, axiom, sorry.
-/
import Derived.Test.YtoemkmmdhekbhaaDoorRows
import GoSem.ClaimSeven
namespace Go.Proofs.YtoemkmmdhekbhaaDoor
namespace Rows

/-- THE TIED CARD OF 'laws.FnExactRulText'. -/
def fnExactRulTextCard : Claim7 := { stood := { row := fnExactRulTextRow, standIns := [], harness := (true, "eb5d65f8ec49ab8a20cecc6d71f477202c6e2ae16fdb7ea612457c73f58c4489"), looks := true }, kinds := [], alts := [], laidByText := true, laidKinds := [.data, .data, .data], laidTests := true, laidLooks := .later }
def FnExactRulTextCardSaid : Prop := Claim7.holds Tryd.pinned (.plain (OpenSpec.ofChange fnExactRulTextSpec)) fnExactRulTextCard

/-- THE TIED CARD OF 'laws.FnExactRulRead'. -/
def fnExactRulReadCard : Claim7 := { stood := { row := fnExactRulReadRow, standIns := [], harness := (true, "eb5d65f8ec49ab8a20cecc6d71f477202c6e2ae16fdb7ea612457c73f58c4489"), looks := true }, kinds := [], alts := [], laidByText := true, laidKinds := [.data, .data, .data, .data, .sentinel, .sentinel, .pinned], laidTests := true, laidLooks := .later }
def FnExactRulReadCardSaid : Prop := Claim7.holds Tryd.pinned (.plain (OpenSpec.ofChange fnExactRulReadSpec)) fnExactRulReadCard

/-- THE SECOND FORM's CARD OF 'laws.FnExactRulText'. -/
def fnExactRulTextUptoCard : Claim7 := { stood := { row := fnExactRulTextUptoRow, standIns := [], harness := (true, "eb5d65f8ec49ab8a20cecc6d71f477202c6e2ae16fdb7ea612457c73f58c4489"), looks := true }, kinds := [], alts := [], laidByText := true, laidKinds := [.data, .data, .data], laidTests := true, laidLooks := .later }
def FnExactRulTextUptoCardSaid : Prop := Claim7.holds Tryd.pinned (.plain (OpenSpec.upto fnExactRulTextSpec)) fnExactRulTextUptoCard

/-- THE SECOND FORM's CARD OF 'laws.FnExactRulRead'. -/
def fnExactRulReadUptoCard : Claim7 := { stood := { row := fnExactRulReadUptoRow, standIns := [], harness := (true, "eb5d65f8ec49ab8a20cecc6d71f477202c6e2ae16fdb7ea612457c73f58c4489"), looks := true }, kinds := [], alts := [], laidByText := true, laidKinds := [.data, .data, .data, .data, .sentinel, .sentinel, .pinned], laidTests := true, laidLooks := .later }
def FnExactRulReadUptoCardSaid : Prop := Claim7.holds Tryd.pinned (.plain (OpenSpec.upto fnExactRulReadSpec)) fnExactRulReadUptoCard
end Rows
end Go.Proofs.YtoemkmmdhekbhaaDoor
