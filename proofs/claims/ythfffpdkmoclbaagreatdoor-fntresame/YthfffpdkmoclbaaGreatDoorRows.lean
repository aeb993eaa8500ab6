/-
  NARROWER THAN 'FOR EVERY INPUT', by the rows' own cells (each row's printed sentence says how): FnPolPut: laid · FnPolOut: laid · FnPolReach: laid · FnTreBack: laid · FnTreSame: laid · FnExactPolReach: laid.
  DERIVED. THE GIVEN ROWS OF THIS SEAT. 6 by the template 'for every input the law returns true; each argument reads behind the call as it read before'; 0 by the template 'total and deterministic' (their statements: YthfffpdkmoclbaaGreatDoorTotals.lean).
  GIVEN WITH THE SEED: the statements are not yours to turn. If you find one false, say at which input.
  Laid BY PROGRAM, IN A SANDBOX (cutbox-rows.mjs): the forced cells as the released guide's own fill.sh prints them over the translation d43ab3f1e3862228… (all of the seat's roots in one cut). By AI agents, Wed Nov 11 2026. No macro, syntax, notation, axiom, sorry.
-/
import Derived.Test.YthfffpdkmoclbaaGreatDoorChecked
import GoSem.Claim
import GoSem.ClaimJoined
import GoSem.ClaimMapViews
import Derived.JoinedTies
import Derived.KernelRfl
namespace Go.Proofs.YthfffpdkmoclbaaGreatDoor
/- THE CELL 'sum', in the pinned program and in every row, IS THE sha256 OF THE DUMP (.gsa) THAT YthfffpdkmoclbaaGreatDoorProg.lean LOADS. Nothing in Lean hashes anything: it is a label: what it is worth is what the hold of that sum in a sandbox is worth. -/
noncomputable def Tryz.pinned : Pinned := { name := "ythfffpdkmoclbaagreatdoor", sum := "d43ab3f1e3862228781e70d12a827d6f1ebca4f78bb0582bc24bfeb15820ae98", checked := Tryz.checked }
namespace Rows
def none {H : Type} : Left H := { results := [], args := [] }

/- WHAT THE LISTED PACKAGE-LEVEL VARIABLES READ AS WHEN THE CALL BEGINS. Each datum BY PROGRAM (the guide's laid-datum.mjs) off the statement by which the dump's own 'gosem.cut.vars' lays the variable. In a bare row this is a premise. The card (YthfffpdkmoclbaaGreatDoorCards.lean) ties it to the program's text. -/
def laid_errors_errorType {H : Type} : DataW H := .iface "internal/reflectlite.rtype" (.agg [.ptr (.lit (.string [101, 114, 114, 111, 114]))])

/-- 'laws.FnPolPut': WHATEVER THE INPUT: true; the input reads as it did. -/
def fnPolPutSpec : ChangeSpec := { name := "fnPolPut", fn := fun _ => fun
  | [d] => { results := [.lit (.bool true)], args := [d] }
  | _ => none }
def fnPolPutRow : OpenClaim := { program := "ythfffpdkmoclbaagreatdoor", sum := "d43ab3f1e3862228781e70d12a827d6f1ebca4f78bb0582bc24bfeb15820ae98", func := "loop.example/chartulary/laws.FnPolPut", spec := "fnPolPut", inPlace := ["internal/bytealg.IndexByteString", "internal/reflectlite.ValueOf", "(internal/reflectlite.Value).Type", "(internal/reflectlite.Value).IsNil", "internal/reflectlite.TypeOf", "(internal/reflectlite.Value).Elem", "(internal/reflectlite.Value).Set"], unfollowed := true, recurses := true, named := ["errors.errorType"], apart := false, laid := [("errors.errorType", laid_errors_errorType)] }
def FnPolPutSaid : Prop := fnPolPutRow.holds Tryz.pinned (OpenSpec.ofChange fnPolPutSpec)

/-- ITS FALSE NEIGHBOUR: 'it returns false'. Refute it at one input. -/
def fnPolPutWrong : ChangeSpec := { name := "fnPolPut", fn := fun _ => fun
  | [d] => { results := [.lit (.bool false)], args := [d] }
  | _ => none }
def FnPolPutWrongFalsely : Prop := fnPolPutRow.holds Tryz.pinned (OpenSpec.ofChange fnPolPutWrong)

/-- 'laws.FnPolOut': WHATEVER THE INPUT: true; the input reads as it did. -/
def fnPolOutSpec : ChangeSpec := { name := "fnPolOut", fn := fun _ => fun
  | [d] => { results := [.lit (.bool true)], args := [d] }
  | _ => none }
def fnPolOutRow : OpenClaim := { program := "ythfffpdkmoclbaagreatdoor", sum := "d43ab3f1e3862228781e70d12a827d6f1ebca4f78bb0582bc24bfeb15820ae98", func := "loop.example/chartulary/laws.FnPolOut", spec := "fnPolOut", inPlace := ["internal/bytealg.IndexByteString", "internal/reflectlite.ValueOf", "(internal/reflectlite.Value).Type", "(internal/reflectlite.Value).IsNil", "internal/reflectlite.TypeOf", "(internal/reflectlite.Value).Elem", "(internal/reflectlite.Value).Set"], unfollowed := true, recurses := true, named := ["errors.errorType"], apart := false, laid := [("errors.errorType", laid_errors_errorType)] }
def FnPolOutSaid : Prop := fnPolOutRow.holds Tryz.pinned (OpenSpec.ofChange fnPolOutSpec)

/-- ITS FALSE NEIGHBOUR: 'it returns false'. Refute it at one input. -/
def fnPolOutWrong : ChangeSpec := { name := "fnPolOut", fn := fun _ => fun
  | [d] => { results := [.lit (.bool false)], args := [d] }
  | _ => none }
def FnPolOutWrongFalsely : Prop := fnPolOutRow.holds Tryz.pinned (OpenSpec.ofChange fnPolOutWrong)

/-- 'laws.FnPolReach': WHATEVER THE INPUT: true; the input reads as it did. -/
def fnPolReachSpec : ChangeSpec := { name := "fnPolReach", fn := fun _ => fun
  | [d] => { results := [.lit (.bool true)], args := [d] }
  | _ => none }
def fnPolReachRow : OpenClaim := { program := "ythfffpdkmoclbaagreatdoor", sum := "d43ab3f1e3862228781e70d12a827d6f1ebca4f78bb0582bc24bfeb15820ae98", func := "loop.example/chartulary/laws.FnPolReach", spec := "fnPolReach", inPlace := ["internal/bytealg.IndexByteString", "internal/reflectlite.ValueOf", "(internal/reflectlite.Value).Type", "(internal/reflectlite.Value).IsNil", "internal/reflectlite.TypeOf", "(internal/reflectlite.Value).Elem", "(internal/reflectlite.Value).Set"], unfollowed := true, recurses := true, named := ["errors.errorType"], apart := false, laid := [("errors.errorType", laid_errors_errorType)] }
def FnPolReachSaid : Prop := fnPolReachRow.holds Tryz.pinned (OpenSpec.ofChange fnPolReachSpec)

/-- ITS FALSE NEIGHBOUR: 'it returns false'. Refute it at one input. -/
def fnPolReachWrong : ChangeSpec := { name := "fnPolReach", fn := fun _ => fun
  | [d] => { results := [.lit (.bool false)], args := [d] }
  | _ => none }
def FnPolReachWrongFalsely : Prop := fnPolReachRow.holds Tryz.pinned (OpenSpec.ofChange fnPolReachWrong)

/-- 'laws.FnTreBack': WHATEVER THE INPUT: true; the input reads as it did. -/
def fnTreBackSpec : ChangeSpec := { name := "fnTreBack", fn := fun _ => fun
  | [d1, d2] => { results := [.lit (.bool true)], args := [d1, d2] }
  | _ => none }
def fnTreBackRow : OpenClaim := { program := "ythfffpdkmoclbaagreatdoor", sum := "d43ab3f1e3862228781e70d12a827d6f1ebca4f78bb0582bc24bfeb15820ae98", func := "loop.example/chartulary/laws.FnTreBack", spec := "fnTreBack", inPlace := ["internal/bytealg.IndexByteString", "internal/bytealg.IndexString", "internal/reflectlite.ValueOf", "(internal/reflectlite.Value).Type", "(internal/reflectlite.Value).IsNil", "internal/reflectlite.TypeOf", "(internal/reflectlite.Value).Elem", "(internal/reflectlite.Value).Set"], unfollowed := true, recurses := true, named := ["internal/bytealg.MaxLen", "errors.errorType"], apart := false, laid := [("errors.errorType", laid_errors_errorType)] }
def FnTreBackSaid : Prop := fnTreBackRow.holds Tryz.pinned (OpenSpec.ofChange fnTreBackSpec)

/-- ITS FALSE NEIGHBOUR: 'it returns false'. Refute it at one input. -/
def fnTreBackWrong : ChangeSpec := { name := "fnTreBack", fn := fun _ => fun
  | [d1, d2] => { results := [.lit (.bool false)], args := [d1, d2] }
  | _ => none }
def FnTreBackWrongFalsely : Prop := fnTreBackRow.holds Tryz.pinned (OpenSpec.ofChange fnTreBackWrong)

/-- 'laws.FnTreSame': WHATEVER THE INPUT: true; the input reads as it did. -/
def fnTreSameSpec : ChangeSpec := { name := "fnTreSame", fn := fun _ => fun
  | [d] => { results := [.lit (.bool true)], args := [d] }
  | _ => none }
def fnTreSameRow : OpenClaim := { program := "ythfffpdkmoclbaagreatdoor", sum := "d43ab3f1e3862228781e70d12a827d6f1ebca4f78bb0582bc24bfeb15820ae98", func := "loop.example/chartulary/laws.FnTreSame", spec := "fnTreSame", inPlace := ["internal/bytealg.IndexByteString", "internal/bytealg.IndexString", "internal/reflectlite.ValueOf", "(internal/reflectlite.Value).Type", "(internal/reflectlite.Value).IsNil", "internal/reflectlite.TypeOf", "(internal/reflectlite.Value).Elem", "(internal/reflectlite.Value).Set"], unfollowed := true, recurses := true, named := ["internal/bytealg.MaxLen", "errors.errorType"], apart := false, laid := [("errors.errorType", laid_errors_errorType)] }
def FnTreSameSaid : Prop := fnTreSameRow.holds Tryz.pinned (OpenSpec.ofChange fnTreSameSpec)

/-- ITS FALSE NEIGHBOUR: 'it returns false'. Refute it at one input. -/
def fnTreSameWrong : ChangeSpec := { name := "fnTreSame", fn := fun _ => fun
  | [d] => { results := [.lit (.bool false)], args := [d] }
  | _ => none }
def FnTreSameWrongFalsely : Prop := fnTreSameRow.holds Tryz.pinned (OpenSpec.ofChange fnTreSameWrong)

/-- 'laws.FnExactPolReach': WHATEVER THE INPUT: true; the input reads as it did. -/
def fnExactPolReachSpec : ChangeSpec := { name := "fnExactPolReach", fn := fun _ => fun
  | [d1, d2] => { results := [.lit (.bool true)], args := [d1, d2] }
  | _ => none }
def fnExactPolReachRow : OpenClaim := { program := "ythfffpdkmoclbaagreatdoor", sum := "d43ab3f1e3862228781e70d12a827d6f1ebca4f78bb0582bc24bfeb15820ae98", func := "loop.example/chartulary/laws.FnExactPolReach", spec := "fnExactPolReach", inPlace := ["internal/bytealg.IndexByteString", "internal/reflectlite.ValueOf", "(internal/reflectlite.Value).Type", "(internal/reflectlite.Value).IsNil", "internal/reflectlite.TypeOf", "(internal/reflectlite.Value).Elem", "(internal/reflectlite.Value).Set"], unfollowed := true, recurses := true, named := ["errors.errorType"], apart := false, laid := [("errors.errorType", laid_errors_errorType)] }
def FnExactPolReachSaid : Prop := fnExactPolReachRow.holds Tryz.pinned (OpenSpec.ofChange fnExactPolReachSpec)

/-- ITS FALSE NEIGHBOUR: 'it returns false'. Refute it at one input. -/
def fnExactPolReachWrong : ChangeSpec := { name := "fnExactPolReach", fn := fun _ => fun
  | [d1, d2] => { results := [.lit (.bool false)], args := [d1, d2] }
  | _ => none }
def FnExactPolReachWrongFalsely : Prop := fnExactPolReachRow.holds Tryz.pinned (OpenSpec.ofChange fnExactPolReachWrong)

/- THE SECOND FORM. 'bulk': how many values and letters a reading holds, each counted each time it is reached (what is shared counts as often as it is met; a slice's spare places count too). A statement '..UptoSaid' is the law's where the arguments, and the package variables that the reading takes, are together of bulk at most 1048576: NARROWER than '..Said'. Prove '..Said' where nothing that the law and all that it calls make is longer than what came in: it says more and counts as full. Else prove '..UptoSaid'. A law counts once. -/
mutual
def uptoBulk {H : Type} : DataW H → Nat
  | .lit (.string bytes) => bytes.length + 1
  | .lit _ => 1
  | .nil => 1
  | .ptr d => uptoBulk d + 1
  | .slice elems spare => uptoBulkAll elems + uptoBulkAll spare + 1
  | .agg parts => uptoBulkAll parts + 1
  | .iface _ d => uptoBulk d + 1
  | .map entries => uptoBulkEntries entries + 1
  | .held _ => 1
def uptoBulkAll {H : Type} : List (DataW H) → Nat
  | [] => 0
  | d :: r => uptoBulk d + uptoBulkAll r
def uptoBulkEntries {H : Type} : List (Lit × DataW H) → Nat
  | [] => 0
  | x :: r => uptoBulkEntry x + uptoBulkEntries r
def uptoBulkEntry {H : Type} : Lit × DataW H → Nat
  | (.string bytes, d) => bytes.length + uptoBulk d + 1
  | (_, d) => uptoBulk d + 1
 end
def uptoSmall : (H : Type) → List (DataW H) → Bool := fun _ ds => decide (uptoBulkAll ds ≤ 1048576)
def OpenSpec.upto (s : _root_.Go.ChangeSpec) : _root_.Go.OpenSpec := { _root_.Go.OpenSpec.ofChange s with cond := some uptoSmall }

/-- 'laws.FnPolPut', WHERE WHAT IT READS IS OF BULK AT MOST 1048576: true; the input reads as it did. -/
def fnPolPutUptoRow : OpenClaim := { program := "ythfffpdkmoclbaagreatdoor", sum := "d43ab3f1e3862228781e70d12a827d6f1ebca4f78bb0582bc24bfeb15820ae98", func := "loop.example/chartulary/laws.FnPolPut", spec := "fnPolPut", inPlace := ["internal/bytealg.IndexByteString", "internal/reflectlite.ValueOf", "(internal/reflectlite.Value).Type", "(internal/reflectlite.Value).IsNil", "internal/reflectlite.TypeOf", "(internal/reflectlite.Value).Elem", "(internal/reflectlite.Value).Set"], unfollowed := true, recurses := true, named := ["errors.errorType"], apart := false, laid := [("errors.errorType", laid_errors_errorType)], narrowed := true }
def FnPolPutUptoSaid : Prop := fnPolPutUptoRow.holds Tryz.pinned (OpenSpec.upto fnPolPutSpec)

/-- 'laws.FnPolOut', WHERE WHAT IT READS IS OF BULK AT MOST 1048576: true; the input reads as it did. -/
def fnPolOutUptoRow : OpenClaim := { program := "ythfffpdkmoclbaagreatdoor", sum := "d43ab3f1e3862228781e70d12a827d6f1ebca4f78bb0582bc24bfeb15820ae98", func := "loop.example/chartulary/laws.FnPolOut", spec := "fnPolOut", inPlace := ["internal/bytealg.IndexByteString", "internal/reflectlite.ValueOf", "(internal/reflectlite.Value).Type", "(internal/reflectlite.Value).IsNil", "internal/reflectlite.TypeOf", "(internal/reflectlite.Value).Elem", "(internal/reflectlite.Value).Set"], unfollowed := true, recurses := true, named := ["errors.errorType"], apart := false, laid := [("errors.errorType", laid_errors_errorType)], narrowed := true }
def FnPolOutUptoSaid : Prop := fnPolOutUptoRow.holds Tryz.pinned (OpenSpec.upto fnPolOutSpec)

/-- 'laws.FnPolReach', WHERE WHAT IT READS IS OF BULK AT MOST 1048576: true; the input reads as it did. -/
def fnPolReachUptoRow : OpenClaim := { program := "ythfffpdkmoclbaagreatdoor", sum := "d43ab3f1e3862228781e70d12a827d6f1ebca4f78bb0582bc24bfeb15820ae98", func := "loop.example/chartulary/laws.FnPolReach", spec := "fnPolReach", inPlace := ["internal/bytealg.IndexByteString", "internal/reflectlite.ValueOf", "(internal/reflectlite.Value).Type", "(internal/reflectlite.Value).IsNil", "internal/reflectlite.TypeOf", "(internal/reflectlite.Value).Elem", "(internal/reflectlite.Value).Set"], unfollowed := true, recurses := true, named := ["errors.errorType"], apart := false, laid := [("errors.errorType", laid_errors_errorType)], narrowed := true }
def FnPolReachUptoSaid : Prop := fnPolReachUptoRow.holds Tryz.pinned (OpenSpec.upto fnPolReachSpec)

/-- 'laws.FnTreBack', WHERE WHAT IT READS IS OF BULK AT MOST 1048576: true; the input reads as it did. -/
def fnTreBackUptoRow : OpenClaim := { program := "ythfffpdkmoclbaagreatdoor", sum := "d43ab3f1e3862228781e70d12a827d6f1ebca4f78bb0582bc24bfeb15820ae98", func := "loop.example/chartulary/laws.FnTreBack", spec := "fnTreBack", inPlace := ["internal/bytealg.IndexByteString", "internal/bytealg.IndexString", "internal/reflectlite.ValueOf", "(internal/reflectlite.Value).Type", "(internal/reflectlite.Value).IsNil", "internal/reflectlite.TypeOf", "(internal/reflectlite.Value).Elem", "(internal/reflectlite.Value).Set"], unfollowed := true, recurses := true, named := ["internal/bytealg.MaxLen", "errors.errorType"], apart := false, laid := [("errors.errorType", laid_errors_errorType)], narrowed := true }
def FnTreBackUptoSaid : Prop := fnTreBackUptoRow.holds Tryz.pinned (OpenSpec.upto fnTreBackSpec)

/-- 'laws.FnTreSame', WHERE WHAT IT READS IS OF BULK AT MOST 1048576: true; the input reads as it did. -/
def fnTreSameUptoRow : OpenClaim := { program := "ythfffpdkmoclbaagreatdoor", sum := "d43ab3f1e3862228781e70d12a827d6f1ebca4f78bb0582bc24bfeb15820ae98", func := "loop.example/chartulary/laws.FnTreSame", spec := "fnTreSame", inPlace := ["internal/bytealg.IndexByteString", "internal/bytealg.IndexString", "internal/reflectlite.ValueOf", "(internal/reflectlite.Value).Type", "(internal/reflectlite.Value).IsNil", "internal/reflectlite.TypeOf", "(internal/reflectlite.Value).Elem", "(internal/reflectlite.Value).Set"], unfollowed := true, recurses := true, named := ["internal/bytealg.MaxLen", "errors.errorType"], apart := false, laid := [("errors.errorType", laid_errors_errorType)], narrowed := true }
def FnTreSameUptoSaid : Prop := fnTreSameUptoRow.holds Tryz.pinned (OpenSpec.upto fnTreSameSpec)

/-- 'laws.FnExactPolReach', WHERE WHAT IT READS IS OF BULK AT MOST 1048576: true; the input reads as it did. -/
def fnExactPolReachUptoRow : OpenClaim := { program := "ythfffpdkmoclbaagreatdoor", sum := "d43ab3f1e3862228781e70d12a827d6f1ebca4f78bb0582bc24bfeb15820ae98", func := "loop.example/chartulary/laws.FnExactPolReach", spec := "fnExactPolReach", inPlace := ["internal/bytealg.IndexByteString", "internal/reflectlite.ValueOf", "(internal/reflectlite.Value).Type", "(internal/reflectlite.Value).IsNil", "internal/reflectlite.TypeOf", "(internal/reflectlite.Value).Elem", "(internal/reflectlite.Value).Set"], unfollowed := true, recurses := true, named := ["errors.errorType"], apart := false, laid := [("errors.errorType", laid_errors_errorType)], narrowed := true }
def FnExactPolReachUptoSaid : Prop := fnExactPolReachUptoRow.holds Tryz.pinned (OpenSpec.upto fnExactPolReachSpec)

end Rows
end Go.Proofs.YthfffpdkmoclbaaGreatDoor
