/-
  NARROWER THAN 'FOR EVERY INPUT', by the rows' own cells (each row's printed sentence says how): FnExactObjEntries: laid · FnExactObjKind: laid · FnExactObjBytes: laid · FnExactObjKids: laid.
  DERIVED. THE GIVEN ROWS OF THIS SEAT. 4 by the template 'for every input the law returns true; each argument reads behind the call as it read before'; 0 by the template 'total and deterministic' (their statements: YtnkbgpkpbiolhaaDoorTotals.lean).
  GIVEN WITH THE SEED: the statements are not yours to turn. If you find one false, say at which input.
  Laid BY PROGRAM, IN A SANDBOX (cutbox-rows.mjs): the forced cells as the released guide's own fill.sh prints them over the translation af0bf29dcb5203bf… (all of the seat's roots in one cut). By AI agents, Wed Nov 11 2026. No macro, syntax, notation, axiom, sorry.
-/
import Derived.Test.YtnkbgpkpbiolhaaDoorChecked
import GoSem.Claim
import GoSem.ClaimJoined
import GoSem.ClaimMapViews
import Derived.JoinedTies
import Derived.KernelRfl
namespace Go.Proofs.YtnkbgpkpbiolhaaDoor
/- THE CELL 'sum', in the pinned program and in every row, IS THE sha256 OF THE DUMP (.gsa) THAT YtnkbgpkpbiolhaaDoorProg.lean LOADS. Nothing in Lean hashes anything: it is a label: what it is worth is what the hold of that sum in a sandbox is worth. -/
noncomputable def Tryd.pinned : Pinned := { name := "ytnkbgpkpbiolhaadoor", sum := "af0bf29dcb5203bfddcaca4e560453b87a9f7917b4240d32ef3976b3830dd785", checked := Tryd.checked }
namespace Rows
def none {H : Type} : Left H := { results := [], args := [] }

/- WHAT THE LISTED PACKAGE-LEVEL VARIABLES READ AS WHEN THE CALL BEGINS. Each datum BY PROGRAM (the guide's laid-datum.mjs) off the statement by which the dump's own 'gosem.cut.vars' lays the variable. In a bare row this is a premise. The card (YtnkbgpkpbiolhaaDoorCards.lean) ties it to the program's text. -/
def laid_errors_errorType {H : Type} : DataW H := .iface "internal/reflectlite.rtype" (.agg [.ptr (.lit (.string [101, 114, 114, 111, 114]))])

/-- 'laws.FnExactObjEntries': WHATEVER THE INPUT: true; the input reads as it did. -/
def fnExactObjEntriesSpec : ChangeSpec := { name := "fnExactObjEntries", fn := fun _ => fun
  | [d] => { results := [.lit (.bool true)], args := [d] }
  | _ => none }
def fnExactObjEntriesRow : OpenClaim := { program := "ytnkbgpkpbiolhaadoor", sum := "af0bf29dcb5203bfddcaca4e560453b87a9f7917b4240d32ef3976b3830dd785", func := "loop.example/chartulary/laws.FnExactObjEntries", spec := "fnExactObjEntries", inPlace := ["internal/bytealg.IndexByteString", "internal/reflectlite.ValueOf", "(internal/reflectlite.Value).Type", "(internal/reflectlite.Value).IsNil", "internal/reflectlite.TypeOf", "(internal/reflectlite.Value).Elem", "(internal/reflectlite.Value).Set"], unfollowed := true, recurses := true, named := ["errors.errorType"], apart := false, laid := [("errors.errorType", laid_errors_errorType)] }
def FnExactObjEntriesSaid : Prop := fnExactObjEntriesRow.holds Tryd.pinned (OpenSpec.ofChange fnExactObjEntriesSpec)

/-- ITS FALSE NEIGHBOUR: 'it returns false'. Refute it at one input. -/
def fnExactObjEntriesWrong : ChangeSpec := { name := "fnExactObjEntries", fn := fun _ => fun
  | [d] => { results := [.lit (.bool false)], args := [d] }
  | _ => none }
def FnExactObjEntriesWrongFalsely : Prop := fnExactObjEntriesRow.holds Tryd.pinned (OpenSpec.ofChange fnExactObjEntriesWrong)

/-- 'laws.FnExactObjKind': WHATEVER THE INPUT: true; the input reads as it did. -/
def fnExactObjKindSpec : ChangeSpec := { name := "fnExactObjKind", fn := fun _ => fun
  | [d] => { results := [.lit (.bool true)], args := [d] }
  | _ => none }
def fnExactObjKindRow : OpenClaim := { program := "ytnkbgpkpbiolhaadoor", sum := "af0bf29dcb5203bfddcaca4e560453b87a9f7917b4240d32ef3976b3830dd785", func := "loop.example/chartulary/laws.FnExactObjKind", spec := "fnExactObjKind", inPlace := ["internal/bytealg.IndexByteString", "internal/reflectlite.ValueOf", "(internal/reflectlite.Value).Type", "(internal/reflectlite.Value).IsNil", "internal/reflectlite.TypeOf", "(internal/reflectlite.Value).Elem", "(internal/reflectlite.Value).Set"], unfollowed := true, recurses := true, named := ["errors.errorType"], apart := false, laid := [("errors.errorType", laid_errors_errorType)] }
def FnExactObjKindSaid : Prop := fnExactObjKindRow.holds Tryd.pinned (OpenSpec.ofChange fnExactObjKindSpec)

/-- ITS FALSE NEIGHBOUR: 'it returns false'. Refute it at one input. -/
def fnExactObjKindWrong : ChangeSpec := { name := "fnExactObjKind", fn := fun _ => fun
  | [d] => { results := [.lit (.bool false)], args := [d] }
  | _ => none }
def FnExactObjKindWrongFalsely : Prop := fnExactObjKindRow.holds Tryd.pinned (OpenSpec.ofChange fnExactObjKindWrong)

/-- 'laws.FnExactObjBytes': WHATEVER THE INPUT: true; the input reads as it did. -/
def fnExactObjBytesSpec : ChangeSpec := { name := "fnExactObjBytes", fn := fun _ => fun
  | [d] => { results := [.lit (.bool true)], args := [d] }
  | _ => none }
def fnExactObjBytesRow : OpenClaim := { program := "ytnkbgpkpbiolhaadoor", sum := "af0bf29dcb5203bfddcaca4e560453b87a9f7917b4240d32ef3976b3830dd785", func := "loop.example/chartulary/laws.FnExactObjBytes", spec := "fnExactObjBytes", inPlace := ["internal/bytealg.IndexByteString", "internal/reflectlite.ValueOf", "(internal/reflectlite.Value).Type", "(internal/reflectlite.Value).IsNil", "internal/reflectlite.TypeOf", "(internal/reflectlite.Value).Elem", "(internal/reflectlite.Value).Set"], unfollowed := true, recurses := true, named := ["errors.errorType"], apart := false, laid := [("errors.errorType", laid_errors_errorType)] }
def FnExactObjBytesSaid : Prop := fnExactObjBytesRow.holds Tryd.pinned (OpenSpec.ofChange fnExactObjBytesSpec)

/-- ITS FALSE NEIGHBOUR: 'it returns false'. Refute it at one input. -/
def fnExactObjBytesWrong : ChangeSpec := { name := "fnExactObjBytes", fn := fun _ => fun
  | [d] => { results := [.lit (.bool false)], args := [d] }
  | _ => none }
def FnExactObjBytesWrongFalsely : Prop := fnExactObjBytesRow.holds Tryd.pinned (OpenSpec.ofChange fnExactObjBytesWrong)

/-- 'laws.FnExactObjKids': WHATEVER THE INPUT: true; the input reads as it did. -/
def fnExactObjKidsSpec : ChangeSpec := { name := "fnExactObjKids", fn := fun _ => fun
  | [d] => { results := [.lit (.bool true)], args := [d] }
  | _ => none }
def fnExactObjKidsRow : OpenClaim := { program := "ytnkbgpkpbiolhaadoor", sum := "af0bf29dcb5203bfddcaca4e560453b87a9f7917b4240d32ef3976b3830dd785", func := "loop.example/chartulary/laws.FnExactObjKids", spec := "fnExactObjKids", inPlace := ["internal/bytealg.IndexByteString", "internal/reflectlite.ValueOf", "(internal/reflectlite.Value).Type", "(internal/reflectlite.Value).IsNil", "internal/reflectlite.TypeOf", "(internal/reflectlite.Value).Elem", "(internal/reflectlite.Value).Set"], unfollowed := true, recurses := true, named := ["errors.errorType"], apart := false, laid := [("errors.errorType", laid_errors_errorType)] }
def FnExactObjKidsSaid : Prop := fnExactObjKidsRow.holds Tryd.pinned (OpenSpec.ofChange fnExactObjKidsSpec)

/-- ITS FALSE NEIGHBOUR: 'it returns false'. Refute it at one input. -/
def fnExactObjKidsWrong : ChangeSpec := { name := "fnExactObjKids", fn := fun _ => fun
  | [d] => { results := [.lit (.bool false)], args := [d] }
  | _ => none }
def FnExactObjKidsWrongFalsely : Prop := fnExactObjKidsRow.holds Tryd.pinned (OpenSpec.ofChange fnExactObjKidsWrong)

/- THE SECOND FORM. 'bulk': how many values and letters a reading holds, each counted each time it is reached (what is shared counts as often as it is met; a slice's spare places count too). A statement '..UptoSaid' is the law's where the arguments, and the package variables that the reading takes, are together of bulk at most 1048576: NARROWER than '..Said'. Prove '..Said' where nothing that the law and all that it calls make is longer than what came in: it says more and counts as full. Else prove '..UptoSaid'. A law counts once. -/
mutual
def uptoBulk {H : Type} : DataW H → Nat
  | .lit (.string bytes) => bytes.length + 1
  | .lit _ => 1
  | .nil => 1
  | .ptr d => uptoBulk d + 1
  | .slice elems spare => uptoBulkAll elems + uptoBulkAll spare + 1
  | .agg parts => uptoBulkAll parts + 1
  | .iface _ d => uptoBulk d + 1
  | .map entries => uptoBulkEntries entries + 1
  | .held _ => 1
def uptoBulkAll {H : Type} : List (DataW H) → Nat
  | [] => 0
  | d :: r => uptoBulk d + uptoBulkAll r
def uptoBulkEntries {H : Type} : List (Lit × DataW H) → Nat
  | [] => 0
  | x :: r => uptoBulkEntry x + uptoBulkEntries r
def uptoBulkEntry {H : Type} : Lit × DataW H → Nat
  | (.string bytes, d) => bytes.length + uptoBulk d + 1
  | (_, d) => uptoBulk d + 1
 end
def uptoSmall : (H : Type) → List (DataW H) → Bool := fun _ ds => decide (uptoBulkAll ds ≤ 1048576)
def OpenSpec.upto (s : _root_.Go.ChangeSpec) : _root_.Go.OpenSpec := { _root_.Go.OpenSpec.ofChange s with cond := some uptoSmall }

/-- 'laws.FnExactObjEntries', WHERE WHAT IT READS IS OF BULK AT MOST 1048576: true; the input reads as it did. -/
def fnExactObjEntriesUptoRow : OpenClaim := { program := "ytnkbgpkpbiolhaadoor", sum := "af0bf29dcb5203bfddcaca4e560453b87a9f7917b4240d32ef3976b3830dd785", func := "loop.example/chartulary/laws.FnExactObjEntries", spec := "fnExactObjEntries", inPlace := ["internal/bytealg.IndexByteString", "internal/reflectlite.ValueOf", "(internal/reflectlite.Value).Type", "(internal/reflectlite.Value).IsNil", "internal/reflectlite.TypeOf", "(internal/reflectlite.Value).Elem", "(internal/reflectlite.Value).Set"], unfollowed := true, recurses := true, named := ["errors.errorType"], apart := false, laid := [("errors.errorType", laid_errors_errorType)], narrowed := true }
def FnExactObjEntriesUptoSaid : Prop := fnExactObjEntriesUptoRow.holds Tryd.pinned (OpenSpec.upto fnExactObjEntriesSpec)

/-- 'laws.FnExactObjKind', WHERE WHAT IT READS IS OF BULK AT MOST 1048576: true; the input reads as it did. -/
def fnExactObjKindUptoRow : OpenClaim := { program := "ytnkbgpkpbiolhaadoor", sum := "af0bf29dcb5203bfddcaca4e560453b87a9f7917b4240d32ef3976b3830dd785", func := "loop.example/chartulary/laws.FnExactObjKind", spec := "fnExactObjKind", inPlace := ["internal/bytealg.IndexByteString", "internal/reflectlite.ValueOf", "(internal/reflectlite.Value).Type", "(internal/reflectlite.Value).IsNil", "internal/reflectlite.TypeOf", "(internal/reflectlite.Value).Elem", "(internal/reflectlite.Value).Set"], unfollowed := true, recurses := true, named := ["errors.errorType"], apart := false, laid := [("errors.errorType", laid_errors_errorType)], narrowed := true }
def FnExactObjKindUptoSaid : Prop := fnExactObjKindUptoRow.holds Tryd.pinned (OpenSpec.upto fnExactObjKindSpec)

/-- 'laws.FnExactObjBytes', WHERE WHAT IT READS IS OF BULK AT MOST 1048576: true; the input reads as it did. -/
def fnExactObjBytesUptoRow : OpenClaim := { program := "ytnkbgpkpbiolhaadoor", sum := "af0bf29dcb5203bfddcaca4e560453b87a9f7917b4240d32ef3976b3830dd785", func := "loop.example/chartulary/laws.FnExactObjBytes", spec := "fnExactObjBytes", inPlace := ["internal/bytealg.IndexByteString", "internal/reflectlite.ValueOf", "(internal/reflectlite.Value).Type", "(internal/reflectlite.Value).IsNil", "internal/reflectlite.TypeOf", "(internal/reflectlite.Value).Elem", "(internal/reflectlite.Value).Set"], unfollowed := true, recurses := true, named := ["errors.errorType"], apart := false, laid := [("errors.errorType", laid_errors_errorType)], narrowed := true }
def FnExactObjBytesUptoSaid : Prop := fnExactObjBytesUptoRow.holds Tryd.pinned (OpenSpec.upto fnExactObjBytesSpec)

/-- 'laws.FnExactObjKids', WHERE WHAT IT READS IS OF BULK AT MOST 1048576: true; the input reads as it did. -/
def fnExactObjKidsUptoRow : OpenClaim := { program := "ytnkbgpkpbiolhaadoor", sum := "af0bf29dcb5203bfddcaca4e560453b87a9f7917b4240d32ef3976b3830dd785", func := "loop.example/chartulary/laws.FnExactObjKids", spec := "fnExactObjKids", inPlace := ["internal/bytealg.IndexByteString", "internal/reflectlite.ValueOf", "(internal/reflectlite.Value).Type", "(internal/reflectlite.Value).IsNil", "internal/reflectlite.TypeOf", "(internal/reflectlite.Value).Elem", "(internal/reflectlite.Value).Set"], unfollowed := true, recurses := true, named := ["errors.errorType"], apart := false, laid := [("errors.errorType", laid_errors_errorType)], narrowed := true }
def FnExactObjKidsUptoSaid : Prop := fnExactObjKidsUptoRow.holds Tryd.pinned (OpenSpec.upto fnExactObjKidsSpec)

end Rows
end Go.Proofs.YtnkbgpkpbiolhaaDoor
