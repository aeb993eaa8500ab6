/-
  NARROWER THAN 'FOR EVERY INPUT', by the rows' own cells (each row's printed sentence says how): FnExactPolPut: laid · FnExactPolReach: laid · FnExactTreRead: laid.
  DERIVED. THE GIVEN ROWS OF THIS SEAT. 3 by the template 'for every input the law returns true; each argument reads behind the call as it read before'; 0 by the template 'total and deterministic' (their statements: YtcmbcaipnjokjaaGreatDoorTotals.lean).
  GIVEN WITH THE SEED: the statements are not yours to turn. If you find one false, say at which input.
  Laid BY PROGRAM, IN A SANDBOX (cutbox-rows.mjs): the forced cells as the released guide's own fill.sh prints them over the translation 4175c4ac18d359c8… (all of the seat's roots in one cut). By AI agents, Wed Nov 11 2026. No macro, syntax, notation, axiom, sorry.
-/
import Derived.Test.YtcmbcaipnjokjaaGreatDoorChecked
import GoSem.Claim
import GoSem.ClaimJoined
import GoSem.ClaimMapViews
import Derived.JoinedTies
import Derived.KernelRfl
namespace Go.Proofs.YtcmbcaipnjokjaaGreatDoor
/- THE CELL 'sum', in the pinned program and in every row, IS THE sha256 OF THE DUMP (.gsa) THAT YtcmbcaipnjokjaaGreatDoorProg.lean LOADS. Nothing in Lean hashes anything: it is a label: what it is worth is what the hold of that sum in a sandbox is worth. -/
noncomputable def Tryz.pinned : Pinned := { name := "ytcmbcaipnjokjaagreatdoor", sum := "4175c4ac18d359c8dd4ef33f43996caa5a0d078cd64324486a9c2d5ed6595867", checked := Tryz.checked }
namespace Rows
def none {H : Type} : Left H := { results := [], args := [] }

/- WHAT THE LISTED PACKAGE-LEVEL VARIABLES READ AS WHEN THE CALL BEGINS. Each datum BY PROGRAM (the guide's laid-datum.mjs) off the statement by which the dump's own 'gosem.cut.vars' lays the variable. In a bare row this is a premise. The card (YtcmbcaipnjokjaaGreatDoorCards.lean) ties it to the program's text. -/
def laid_errors_errorType {H : Type} : DataW H := .iface "internal/reflectlite.rtype" (.agg [.ptr (.lit (.string [101, 114, 114, 111, 114]))])

/-- 'laws.FnExactPolPut': WHATEVER THE INPUT: true; the input reads as it did. -/
def fnExactPolPutSpec : ChangeSpec := { name := "fnExactPolPut", fn := fun _ => fun
  | [d1, d2] => { results := [.lit (.bool true)], args := [d1, d2] }
  | _ => none }
def fnExactPolPutRow : OpenClaim := { program := "ytcmbcaipnjokjaagreatdoor", sum := "4175c4ac18d359c8dd4ef33f43996caa5a0d078cd64324486a9c2d5ed6595867", func := "loop.example/chartulary/laws.FnExactPolPut", spec := "fnExactPolPut", inPlace := ["internal/bytealg.IndexByteString", "internal/reflectlite.ValueOf", "(internal/reflectlite.Value).Type", "(internal/reflectlite.Value).IsNil", "internal/reflectlite.TypeOf", "(internal/reflectlite.Value).Elem", "(internal/reflectlite.Value).Set"], unfollowed := true, recurses := true, named := ["errors.errorType"], apart := false, laid := [("errors.errorType", laid_errors_errorType)] }
def FnExactPolPutSaid : Prop := fnExactPolPutRow.holds Tryz.pinned (OpenSpec.ofChange fnExactPolPutSpec)

/-- ITS FALSE NEIGHBOUR: 'it returns false'. Refute it at one input. -/
def fnExactPolPutWrong : ChangeSpec := { name := "fnExactPolPut", fn := fun _ => fun
  | [d1, d2] => { results := [.lit (.bool false)], args := [d1, d2] }
  | _ => none }
def FnExactPolPutWrongFalsely : Prop := fnExactPolPutRow.holds Tryz.pinned (OpenSpec.ofChange fnExactPolPutWrong)

/-- 'laws.FnExactPolReach': WHATEVER THE INPUT: true; the input reads as it did. -/
def fnExactPolReachSpec : ChangeSpec := { name := "fnExactPolReach", fn := fun _ => fun
  | [d1, d2] => { results := [.lit (.bool true)], args := [d1, d2] }
  | _ => none }
def fnExactPolReachRow : OpenClaim := { program := "ytcmbcaipnjokjaagreatdoor", sum := "4175c4ac18d359c8dd4ef33f43996caa5a0d078cd64324486a9c2d5ed6595867", func := "loop.example/chartulary/laws.FnExactPolReach", spec := "fnExactPolReach", inPlace := ["internal/bytealg.IndexByteString", "internal/reflectlite.ValueOf", "(internal/reflectlite.Value).Type", "(internal/reflectlite.Value).IsNil", "internal/reflectlite.TypeOf", "(internal/reflectlite.Value).Elem", "(internal/reflectlite.Value).Set"], unfollowed := true, recurses := true, named := ["errors.errorType"], apart := false, laid := [("errors.errorType", laid_errors_errorType)] }
def FnExactPolReachSaid : Prop := fnExactPolReachRow.holds Tryz.pinned (OpenSpec.ofChange fnExactPolReachSpec)

/-- ITS FALSE NEIGHBOUR: 'it returns false'. Refute it at one input. -/
def fnExactPolReachWrong : ChangeSpec := { name := "fnExactPolReach", fn := fun _ => fun
  | [d1, d2] => { results := [.lit (.bool false)], args := [d1, d2] }
  | _ => none }
def FnExactPolReachWrongFalsely : Prop := fnExactPolReachRow.holds Tryz.pinned (OpenSpec.ofChange fnExactPolReachWrong)

/-- 'laws.FnExactTreRead': WHATEVER THE INPUT: true; the input reads as it did. -/
def fnExactTreReadSpec : ChangeSpec := { name := "fnExactTreRead", fn := fun _ => fun
  | [d1, d2] => { results := [.lit (.bool true)], args := [d1, d2] }
  | _ => none }
def fnExactTreReadRow : OpenClaim := { program := "ytcmbcaipnjokjaagreatdoor", sum := "4175c4ac18d359c8dd4ef33f43996caa5a0d078cd64324486a9c2d5ed6595867", func := "loop.example/chartulary/laws.FnExactTreRead", spec := "fnExactTreRead", inPlace := ["internal/bytealg.IndexByteString", "internal/reflectlite.ValueOf", "(internal/reflectlite.Value).Type", "(internal/reflectlite.Value).IsNil", "internal/reflectlite.TypeOf", "(internal/reflectlite.Value).Elem", "(internal/reflectlite.Value).Set", "internal/bytealg.IndexString"], unfollowed := true, recurses := true, named := ["errors.errorType", "internal/bytealg.MaxLen"], apart := false, laid := [("errors.errorType", laid_errors_errorType)] }
def FnExactTreReadSaid : Prop := fnExactTreReadRow.holds Tryz.pinned (OpenSpec.ofChange fnExactTreReadSpec)

/-- ITS FALSE NEIGHBOUR: 'it returns false'. Refute it at one input. -/
def fnExactTreReadWrong : ChangeSpec := { name := "fnExactTreRead", fn := fun _ => fun
  | [d1, d2] => { results := [.lit (.bool false)], args := [d1, d2] }
  | _ => none }
def FnExactTreReadWrongFalsely : Prop := fnExactTreReadRow.holds Tryz.pinned (OpenSpec.ofChange fnExactTreReadWrong)

/- THE SECOND FORM. 'bulk': how many values and letters a reading holds, each counted each time it is reached (what is shared counts as often as it is met; a slice's spare places count too). A statement '..UptoSaid' is the law's where the arguments, and the package variables that the reading takes, are together of bulk at most 1048576: NARROWER than '..Said'. Prove '..Said' where nothing that the law and all that it calls make is longer than what came in: it says more and counts as full. Else prove '..UptoSaid'. A law counts once. -/
mutual
def uptoBulk {H : Type} : DataW H → Nat
  | .lit (.string bytes) => bytes.length + 1
  | .lit _ => 1
  | .nil => 1
  | .ptr d => uptoBulk d + 1
  | .slice elems spare => uptoBulkAll elems + uptoBulkAll spare + 1
  | .agg parts => uptoBulkAll parts + 1
  | .iface _ d => uptoBulk d + 1
  | .map entries => uptoBulkEntries entries + 1
  | .held _ => 1
def uptoBulkAll {H : Type} : List (DataW H) → Nat
  | [] => 0
  | d :: r => uptoBulk d + uptoBulkAll r
def uptoBulkEntries {H : Type} : List (Lit × DataW H) → Nat
  | [] => 0
  | x :: r => uptoBulkEntry x + uptoBulkEntries r
def uptoBulkEntry {H : Type} : Lit × DataW H → Nat
  | (.string bytes, d) => bytes.length + uptoBulk d + 1
  | (_, d) => uptoBulk d + 1
 end
def uptoSmall : (H : Type) → List (DataW H) → Bool := fun _ ds => decide (uptoBulkAll ds ≤ 1048576)
def OpenSpec.upto (s : _root_.Go.ChangeSpec) : _root_.Go.OpenSpec := { _root_.Go.OpenSpec.ofChange s with cond := some uptoSmall }

/-- 'laws.FnExactPolPut', WHERE WHAT IT READS IS OF BULK AT MOST 1048576: true; the input reads as it did. -/
def fnExactPolPutUptoRow : OpenClaim := { program := "ytcmbcaipnjokjaagreatdoor", sum := "4175c4ac18d359c8dd4ef33f43996caa5a0d078cd64324486a9c2d5ed6595867", func := "loop.example/chartulary/laws.FnExactPolPut", spec := "fnExactPolPut", inPlace := ["internal/bytealg.IndexByteString", "internal/reflectlite.ValueOf", "(internal/reflectlite.Value).Type", "(internal/reflectlite.Value).IsNil", "internal/reflectlite.TypeOf", "(internal/reflectlite.Value).Elem", "(internal/reflectlite.Value).Set"], unfollowed := true, recurses := true, named := ["errors.errorType"], apart := false, laid := [("errors.errorType", laid_errors_errorType)], narrowed := true }
def FnExactPolPutUptoSaid : Prop := fnExactPolPutUptoRow.holds Tryz.pinned (OpenSpec.upto fnExactPolPutSpec)

/-- 'laws.FnExactPolReach', WHERE WHAT IT READS IS OF BULK AT MOST 1048576: true; the input reads as it did. -/
def fnExactPolReachUptoRow : OpenClaim := { program := "ytcmbcaipnjokjaagreatdoor", sum := "4175c4ac18d359c8dd4ef33f43996caa5a0d078cd64324486a9c2d5ed6595867", func := "loop.example/chartulary/laws.FnExactPolReach", spec := "fnExactPolReach", inPlace := ["internal/bytealg.IndexByteString", "internal/reflectlite.ValueOf", "(internal/reflectlite.Value).Type", "(internal/reflectlite.Value).IsNil", "internal/reflectlite.TypeOf", "(internal/reflectlite.Value).Elem", "(internal/reflectlite.Value).Set"], unfollowed := true, recurses := true, named := ["errors.errorType"], apart := false, laid := [("errors.errorType", laid_errors_errorType)], narrowed := true }
def FnExactPolReachUptoSaid : Prop := fnExactPolReachUptoRow.holds Tryz.pinned (OpenSpec.upto fnExactPolReachSpec)

/-- 'laws.FnExactTreRead', WHERE WHAT IT READS IS OF BULK AT MOST 1048576: true; the input reads as it did. -/
def fnExactTreReadUptoRow : OpenClaim := { program := "ytcmbcaipnjokjaagreatdoor", sum := "4175c4ac18d359c8dd4ef33f43996caa5a0d078cd64324486a9c2d5ed6595867", func := "loop.example/chartulary/laws.FnExactTreRead", spec := "fnExactTreRead", inPlace := ["internal/bytealg.IndexByteString", "internal/reflectlite.ValueOf", "(internal/reflectlite.Value).Type", "(internal/reflectlite.Value).IsNil", "internal/reflectlite.TypeOf", "(internal/reflectlite.Value).Elem", "(internal/reflectlite.Value).Set", "internal/bytealg.IndexString"], unfollowed := true, recurses := true, named := ["errors.errorType", "internal/bytealg.MaxLen"], apart := false, laid := [("errors.errorType", laid_errors_errorType)], narrowed := true }
def FnExactTreReadUptoSaid : Prop := fnExactTreReadUptoRow.holds Tryz.pinned (OpenSpec.upto fnExactTreReadSpec)

end Rows
end Go.Proofs.YtcmbcaipnjokjaaGreatDoor
