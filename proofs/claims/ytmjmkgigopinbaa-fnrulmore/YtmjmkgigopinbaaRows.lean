/-
  No cell of these rows narrows 'for every input' (looked for: loops, veiled, ifaces, maps, wideKeys, modest, calm, conditions, laid).
  DERIVED. THE GIVEN ROWS OF THIS SEAT. 5 by the template 'for every input the law returns true; each argument reads behind the call as it read before'; 0 by the template 'total and deterministic' (their statements: YtmjmkgigopinbaaTotals.lean).
  GIVEN WITH THE SEED: the statements are not yours to turn. If you find one false, say at which input.
  Laid BY PROGRAM, IN A SANDBOX (cutbox-rows.mjs): the forced cells as the released guide's own fill.sh prints them over the translation 89b5726b365a5652… (all of the seat's roots in one cut). By AI agents, Wed Nov 11 2026. No macro, syntax, notation, axiom, sorry.
-/
import Derived.Test.YtmjmkgigopinbaaChecked
import GoSem.Claim
import GoSem.ClaimJoined
import GoSem.ClaimMapViews
import Derived.JoinedTies
import Derived.KernelRfl
namespace Go.Proofs.Ytmjmkgigopinbaa
/- THE CELL 'sum', in the pinned program and in every row, IS THE sha256 OF THE DUMP (.gsa) THAT YtmjmkgigopinbaaProg.lean LOADS. Nothing in Lean hashes anything: it is a label: what it is worth is what the hold of that sum in a sandbox is worth. -/
noncomputable def Try.pinned : Pinned := { name := "ytmjmkgigopinbaa", sum := "89b5726b365a565225ffa5d57b72164b344c3c9c76d65e156984c6bb2c8faed5", checked := Try.checked }
namespace Rows
def none {H : Type} : Left H := { results := [], args := [] }

/-- 'laws.FnRulMay': WHATEVER THE INPUT: true; the input reads as it did. -/
def fnRulMaySpec : ChangeSpec := { name := "fnRulMay", fn := fun _ => fun
  | [d] => { results := [.lit (.bool true)], args := [d] }
  | _ => none }
def fnRulMayRow : OpenClaim := { program := "ytmjmkgigopinbaa", sum := "89b5726b365a565225ffa5d57b72164b344c3c9c76d65e156984c6bb2c8faed5", func := "loop.example/chartulary/laws.FnRulMay", spec := "fnRulMay", inPlace := ["internal/bytealg.IndexByteString", "internal/bytealg.IndexString"], unfollowed := true, recurses := true, named := ["internal/bytealg.MaxLen"], apart := false }
def FnRulMaySaid : Prop := fnRulMayRow.holds Try.pinned (OpenSpec.ofChange fnRulMaySpec)

/-- ITS FALSE NEIGHBOUR: 'it returns false'. Refute it at one input. -/
def fnRulMayWrong : ChangeSpec := { name := "fnRulMay", fn := fun _ => fun
  | [d] => { results := [.lit (.bool false)], args := [d] }
  | _ => none }
def FnRulMayWrongFalsely : Prop := fnRulMayRow.holds Try.pinned (OpenSpec.ofChange fnRulMayWrong)

/-- 'laws.FnRulMore': WHATEVER THE INPUT: true; the input reads as it did. -/
def fnRulMoreSpec : ChangeSpec := { name := "fnRulMore", fn := fun _ => fun
  | [d1, d2] => { results := [.lit (.bool true)], args := [d1, d2] }
  | _ => none }
def fnRulMoreRow : OpenClaim := { program := "ytmjmkgigopinbaa", sum := "89b5726b365a565225ffa5d57b72164b344c3c9c76d65e156984c6bb2c8faed5", func := "loop.example/chartulary/laws.FnRulMore", spec := "fnRulMore", inPlace := ["internal/bytealg.IndexByteString", "internal/bytealg.IndexString"], unfollowed := true, recurses := true, named := ["internal/bytealg.MaxLen"], apart := false }
def FnRulMoreSaid : Prop := fnRulMoreRow.holds Try.pinned (OpenSpec.ofChange fnRulMoreSpec)

/-- ITS FALSE NEIGHBOUR: 'it returns false'. Refute it at one input. -/
def fnRulMoreWrong : ChangeSpec := { name := "fnRulMore", fn := fun _ => fun
  | [d1, d2] => { results := [.lit (.bool false)], args := [d1, d2] }
  | _ => none }
def FnRulMoreWrongFalsely : Prop := fnRulMoreRow.holds Try.pinned (OpenSpec.ofChange fnRulMoreWrong)

/-- 'laws.FnRulOut': WHATEVER THE INPUT: true; the input reads as it did. -/
def fnRulOutSpec : ChangeSpec := { name := "fnRulOut", fn := fun _ => fun
  | [d] => { results := [.lit (.bool true)], args := [d] }
  | _ => none }
def fnRulOutRow : OpenClaim := { program := "ytmjmkgigopinbaa", sum := "89b5726b365a565225ffa5d57b72164b344c3c9c76d65e156984c6bb2c8faed5", func := "loop.example/chartulary/laws.FnRulOut", spec := "fnRulOut", inPlace := ["internal/bytealg.IndexByteString", "internal/bytealg.IndexString"], unfollowed := true, recurses := true, named := ["internal/bytealg.MaxLen"], apart := false }
def FnRulOutSaid : Prop := fnRulOutRow.holds Try.pinned (OpenSpec.ofChange fnRulOutSpec)

/-- ITS FALSE NEIGHBOUR: 'it returns false'. Refute it at one input. -/
def fnRulOutWrong : ChangeSpec := { name := "fnRulOut", fn := fun _ => fun
  | [d] => { results := [.lit (.bool false)], args := [d] }
  | _ => none }
def FnRulOutWrongFalsely : Prop := fnRulOutRow.holds Try.pinned (OpenSpec.ofChange fnRulOutWrong)

/-- 'laws.FnRulSees': WHATEVER THE INPUT: true; the input reads as it did. -/
def fnRulSeesSpec : ChangeSpec := { name := "fnRulSees", fn := fun _ => fun
  | [d] => { results := [.lit (.bool true)], args := [d] }
  | _ => none }
def fnRulSeesRow : OpenClaim := { program := "ytmjmkgigopinbaa", sum := "89b5726b365a565225ffa5d57b72164b344c3c9c76d65e156984c6bb2c8faed5", func := "loop.example/chartulary/laws.FnRulSees", spec := "fnRulSees", inPlace := ["internal/bytealg.IndexByteString", "internal/bytealg.IndexString"], unfollowed := true, recurses := true, named := ["internal/bytealg.MaxLen"], apart := false }
def FnRulSeesSaid : Prop := fnRulSeesRow.holds Try.pinned (OpenSpec.ofChange fnRulSeesSpec)

/-- ITS FALSE NEIGHBOUR: 'it returns false'. Refute it at one input. -/
def fnRulSeesWrong : ChangeSpec := { name := "fnRulSees", fn := fun _ => fun
  | [d] => { results := [.lit (.bool false)], args := [d] }
  | _ => none }
def FnRulSeesWrongFalsely : Prop := fnRulSeesRow.holds Try.pinned (OpenSpec.ofChange fnRulSeesWrong)

/-- 'laws.FnRulAll': WHATEVER THE INPUT: true; the input reads as it did. -/
def fnRulAllSpec : ChangeSpec := { name := "fnRulAll", fn := fun _ => fun
  | [d] => { results := [.lit (.bool true)], args := [d] }
  | _ => none }
def fnRulAllRow : OpenClaim := { program := "ytmjmkgigopinbaa", sum := "89b5726b365a565225ffa5d57b72164b344c3c9c76d65e156984c6bb2c8faed5", func := "loop.example/chartulary/laws.FnRulAll", spec := "fnRulAll", inPlace := ["internal/bytealg.IndexByteString", "internal/bytealg.IndexString"], unfollowed := true, recurses := true, named := ["internal/bytealg.MaxLen"], apart := false }
def FnRulAllSaid : Prop := fnRulAllRow.holds Try.pinned (OpenSpec.ofChange fnRulAllSpec)

/-- ITS FALSE NEIGHBOUR: 'it returns false'. Refute it at one input. -/
def fnRulAllWrong : ChangeSpec := { name := "fnRulAll", fn := fun _ => fun
  | [d] => { results := [.lit (.bool false)], args := [d] }
  | _ => none }
def FnRulAllWrongFalsely : Prop := fnRulAllRow.holds Try.pinned (OpenSpec.ofChange fnRulAllWrong)

/- THE SECOND FORM. 'bulk': how many values and letters a reading holds, each counted each time it is reached (what is shared counts as often as it is met; a slice's spare places count too). A statement '..UptoSaid' is the law's where the arguments, and the package variables that the reading takes, are together of bulk at most 1048576: NARROWER than '..Said'. Prove '..Said' where nothing that the law and all that it calls make is longer than what came in: it says more and counts as full. Else prove '..UptoSaid'. A law counts once. -/
mutual
def uptoBulk {H : Type} : DataW H → Nat
  | .lit (.string bytes) => bytes.length + 1
  | .lit _ => 1
  | .nil => 1
  | .ptr d => uptoBulk d + 1
  | .slice elems spare => uptoBulkAll elems + uptoBulkAll spare + 1
  | .agg parts => uptoBulkAll parts + 1
  | .iface _ d => uptoBulk d + 1
  | .map entries => uptoBulkEntries entries + 1
  | .held _ => 1
def uptoBulkAll {H : Type} : List (DataW H) → Nat
  | [] => 0
  | d :: r => uptoBulk d + uptoBulkAll r
def uptoBulkEntries {H : Type} : List (Lit × DataW H) → Nat
  | [] => 0
  | x :: r => uptoBulkEntry x + uptoBulkEntries r
def uptoBulkEntry {H : Type} : Lit × DataW H → Nat
  | (.string bytes, d) => bytes.length + uptoBulk d + 1
  | (_, d) => uptoBulk d + 1
 end
def uptoSmall : (H : Type) → List (DataW H) → Bool := fun _ ds => decide (uptoBulkAll ds ≤ 1048576)
def OpenSpec.upto (s : _root_.Go.ChangeSpec) : _root_.Go.OpenSpec := { _root_.Go.OpenSpec.ofChange s with cond := some uptoSmall }

/-- 'laws.FnRulMay', WHERE WHAT IT READS IS OF BULK AT MOST 1048576: true; the input reads as it did. -/
def fnRulMayUptoRow : OpenClaim := { program := "ytmjmkgigopinbaa", sum := "89b5726b365a565225ffa5d57b72164b344c3c9c76d65e156984c6bb2c8faed5", func := "loop.example/chartulary/laws.FnRulMay", spec := "fnRulMay", inPlace := ["internal/bytealg.IndexByteString", "internal/bytealg.IndexString"], unfollowed := true, recurses := true, named := ["internal/bytealg.MaxLen"], apart := false, narrowed := true }
def FnRulMayUptoSaid : Prop := fnRulMayUptoRow.holds Try.pinned (OpenSpec.upto fnRulMaySpec)

/-- 'laws.FnRulMore', WHERE WHAT IT READS IS OF BULK AT MOST 1048576: true; the input reads as it did. -/
def fnRulMoreUptoRow : OpenClaim := { program := "ytmjmkgigopinbaa", sum := "89b5726b365a565225ffa5d57b72164b344c3c9c76d65e156984c6bb2c8faed5", func := "loop.example/chartulary/laws.FnRulMore", spec := "fnRulMore", inPlace := ["internal/bytealg.IndexByteString", "internal/bytealg.IndexString"], unfollowed := true, recurses := true, named := ["internal/bytealg.MaxLen"], apart := false, narrowed := true }
def FnRulMoreUptoSaid : Prop := fnRulMoreUptoRow.holds Try.pinned (OpenSpec.upto fnRulMoreSpec)

/-- 'laws.FnRulOut', WHERE WHAT IT READS IS OF BULK AT MOST 1048576: true; the input reads as it did. -/
def fnRulOutUptoRow : OpenClaim := { program := "ytmjmkgigopinbaa", sum := "89b5726b365a565225ffa5d57b72164b344c3c9c76d65e156984c6bb2c8faed5", func := "loop.example/chartulary/laws.FnRulOut", spec := "fnRulOut", inPlace := ["internal/bytealg.IndexByteString", "internal/bytealg.IndexString"], unfollowed := true, recurses := true, named := ["internal/bytealg.MaxLen"], apart := false, narrowed := true }
def FnRulOutUptoSaid : Prop := fnRulOutUptoRow.holds Try.pinned (OpenSpec.upto fnRulOutSpec)

/-- 'laws.FnRulSees', WHERE WHAT IT READS IS OF BULK AT MOST 1048576: true; the input reads as it did. -/
def fnRulSeesUptoRow : OpenClaim := { program := "ytmjmkgigopinbaa", sum := "89b5726b365a565225ffa5d57b72164b344c3c9c76d65e156984c6bb2c8faed5", func := "loop.example/chartulary/laws.FnRulSees", spec := "fnRulSees", inPlace := ["internal/bytealg.IndexByteString", "internal/bytealg.IndexString"], unfollowed := true, recurses := true, named := ["internal/bytealg.MaxLen"], apart := false, narrowed := true }
def FnRulSeesUptoSaid : Prop := fnRulSeesUptoRow.holds Try.pinned (OpenSpec.upto fnRulSeesSpec)

/-- 'laws.FnRulAll', WHERE WHAT IT READS IS OF BULK AT MOST 1048576: true; the input reads as it did. -/
def fnRulAllUptoRow : OpenClaim := { program := "ytmjmkgigopinbaa", sum := "89b5726b365a565225ffa5d57b72164b344c3c9c76d65e156984c6bb2c8faed5", func := "loop.example/chartulary/laws.FnRulAll", spec := "fnRulAll", inPlace := ["internal/bytealg.IndexByteString", "internal/bytealg.IndexString"], unfollowed := true, recurses := true, named := ["internal/bytealg.MaxLen"], apart := false, narrowed := true }
def FnRulAllUptoSaid : Prop := fnRulAllUptoRow.holds Try.pinned (OpenSpec.upto fnRulAllSpec)

end Rows
end Go.Proofs.Ytmjmkgigopinbaa
