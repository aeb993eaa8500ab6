/-
  DERIVED. GIVEN WITH THE SEED: THE CARDS: each row of YtnkbgpkpbiolhaaDoorRows.lean that lists a variable, with what it lists TIED to the program's text (the seventh form; the later family's looks); each row that meets fmt, with fmt's text TOLD by the authors' own Lean function (tested against real Go, not proved from fmt's source: count such statements apart). THE CARD IS WHAT COUNTS. Prove the row's statement (the work); the ties are given (YtnkbgpkpbiolhaaDoorTie.lean); close each card by the builder's one call (the guide's Derived/Test/ToyasCard.lean, 'card_holds'). Laid BY PROGRAM, IN A SANDBOX (cutbox-door.mjs). By AI agents, Wed Nov 11 2026. No macro, syntax, notation, axiom, sorry.
-/
import Derived.Test.YtnkbgpkpbiolhaaDoorRows
import GoSem.ClaimSeven
namespace Go.Proofs.YtnkbgpkpbiolhaaDoor
namespace Rows

/-- THE TIED CARD OF 'laws.FnExactObjEntries'. -/
def fnExactObjEntriesCard : Claim7 := { stood := { row := fnExactObjEntriesRow, standIns := [], harness := (true, "692e5fbe8c11b115676f60937ce01a3a81cc571c07602c09fb831078f14346d3"), looks := true }, kinds := [], alts := [], laidByText := true, laidKinds := [.handle], laidTests := true, laidLooks := .later }
def FnExactObjEntriesCardSaid : Prop := Claim7.holds Tryd.pinned (.plain (OpenSpec.ofChange fnExactObjEntriesSpec)) fnExactObjEntriesCard

/-- THE TIED CARD OF 'laws.FnExactObjKind'. -/
def fnExactObjKindCard : Claim7 := { stood := { row := fnExactObjKindRow, standIns := [], harness := (true, "692e5fbe8c11b115676f60937ce01a3a81cc571c07602c09fb831078f14346d3"), looks := true }, kinds := [], alts := [], laidByText := true, laidKinds := [.handle], laidTests := true, laidLooks := .later }
def FnExactObjKindCardSaid : Prop := Claim7.holds Tryd.pinned (.plain (OpenSpec.ofChange fnExactObjKindSpec)) fnExactObjKindCard

/-- THE TIED CARD OF 'laws.FnExactObjBytes'. -/
def fnExactObjBytesCard : Claim7 := { stood := { row := fnExactObjBytesRow, standIns := [], harness := (true, "692e5fbe8c11b115676f60937ce01a3a81cc571c07602c09fb831078f14346d3"), looks := true }, kinds := [], alts := [], laidByText := true, laidKinds := [.handle], laidTests := true, laidLooks := .later }
def FnExactObjBytesCardSaid : Prop := Claim7.holds Tryd.pinned (.plain (OpenSpec.ofChange fnExactObjBytesSpec)) fnExactObjBytesCard

/-- THE TIED CARD OF 'laws.FnExactObjKids'. -/
def fnExactObjKidsCard : Claim7 := { stood := { row := fnExactObjKidsRow, standIns := [], harness := (true, "692e5fbe8c11b115676f60937ce01a3a81cc571c07602c09fb831078f14346d3"), looks := true }, kinds := [], alts := [], laidByText := true, laidKinds := [.handle], laidTests := true, laidLooks := .later }
def FnExactObjKidsCardSaid : Prop := Claim7.holds Tryd.pinned (.plain (OpenSpec.ofChange fnExactObjKidsSpec)) fnExactObjKidsCard

/-- THE SECOND FORM's CARD OF 'laws.FnExactObjEntries'. -/
def fnExactObjEntriesUptoCard : Claim7 := { stood := { row := fnExactObjEntriesUptoRow, standIns := [], harness := (true, "692e5fbe8c11b115676f60937ce01a3a81cc571c07602c09fb831078f14346d3"), looks := true }, kinds := [], alts := [], laidByText := true, laidKinds := [.handle], laidTests := true, laidLooks := .later }
def FnExactObjEntriesUptoCardSaid : Prop := Claim7.holds Tryd.pinned (.plain (OpenSpec.upto fnExactObjEntriesSpec)) fnExactObjEntriesUptoCard

/-- THE SECOND FORM's CARD OF 'laws.FnExactObjKind'. -/
def fnExactObjKindUptoCard : Claim7 := { stood := { row := fnExactObjKindUptoRow, standIns := [], harness := (true, "692e5fbe8c11b115676f60937ce01a3a81cc571c07602c09fb831078f14346d3"), looks := true }, kinds := [], alts := [], laidByText := true, laidKinds := [.handle], laidTests := true, laidLooks := .later }
def FnExactObjKindUptoCardSaid : Prop := Claim7.holds Tryd.pinned (.plain (OpenSpec.upto fnExactObjKindSpec)) fnExactObjKindUptoCard

/-- THE SECOND FORM's CARD OF 'laws.FnExactObjBytes'. -/
def fnExactObjBytesUptoCard : Claim7 := { stood := { row := fnExactObjBytesUptoRow, standIns := [], harness := (true, "692e5fbe8c11b115676f60937ce01a3a81cc571c07602c09fb831078f14346d3"), looks := true }, kinds := [], alts := [], laidByText := true, laidKinds := [.handle], laidTests := true, laidLooks := .later }
def FnExactObjBytesUptoCardSaid : Prop := Claim7.holds Tryd.pinned (.plain (OpenSpec.upto fnExactObjBytesSpec)) fnExactObjBytesUptoCard

/-- THE SECOND FORM's CARD OF 'laws.FnExactObjKids'. -/
def fnExactObjKidsUptoCard : Claim7 := { stood := { row := fnExactObjKidsUptoRow, standIns := [], harness := (true, "692e5fbe8c11b115676f60937ce01a3a81cc571c07602c09fb831078f14346d3"), looks := true }, kinds := [], alts := [], laidByText := true, laidKinds := [.handle], laidTests := true, laidLooks := .later }
def FnExactObjKidsUptoCardSaid : Prop := Claim7.holds Tryd.pinned (.plain (OpenSpec.upto fnExactObjKidsSpec)) fnExactObjKidsUptoCard
end Rows
end Go.Proofs.YtnkbgpkpbiolhaaDoor
