/-
  No cell of these rows narrows 'for every input' (looked for: loops, veiled, ifaces, maps, wideKeys, modest, calm, conditions, laid).
  DERIVED. THE GIVEN ROWS OF THIS SEAT. 6 by the template 'for every input the law returns true; each argument reads behind the call as it read before'; 0 by the template 'total and deterministic' (their statements: YtolpalbeldolnaaTotals.lean).
  GIVEN WITH THE SEED: the statements are not yours to turn. If you find one false, say at which input.
  Laid BY PROGRAM, IN A SANDBOX (cutbox-rows.mjs): the forced cells as the released guide's own fill.sh prints them over the translation b8160d180beb1b45… (all of the seat's roots in one cut). By AI agents, Wed Nov 11 2026. No macro, syntax, notation, axiom, sorry.
-/
import Derived.Test.YtolpalbeldolnaaChecked
import GoSem.Claim
import GoSem.ClaimJoined
import GoSem.ClaimMapViews
import Derived.JoinedTies
import Derived.KernelRfl
namespace Go.Proofs.Ytolpalbeldolnaa
/- THE CELL 'sum', in the pinned program and in every row, IS THE sha256 OF THE DUMP (.gsa) THAT YtolpalbeldolnaaProg.lean LOADS. Nothing in Lean hashes anything: it is a label: what it is worth is what the hold of that sum in a sandbox is worth. -/
noncomputable def Try.pinned : Pinned := { name := "ytolpalbeldolnaa", sum := "b8160d180beb1b456e9eac0ba2a98b84fcaa58b30ce617ac790e8252eab54e8a", checked := Try.checked }
namespace Rows
def none {H : Type} : Left H := { results := [], args := [] }

/-- 'laws.FnExactRulOk': WHATEVER THE INPUT: true; the input reads as it did. -/
def fnExactRulOkSpec : ChangeSpec := { name := "fnExactRulOk", fn := fun _ => fun
  | [d] => { results := [.lit (.bool true)], args := [d] }
  | _ => none }
def fnExactRulOkRow : OpenClaim := { program := "ytolpalbeldolnaa", sum := "b8160d180beb1b456e9eac0ba2a98b84fcaa58b30ce617ac790e8252eab54e8a", func := "loop.example/chartulary/laws.FnExactRulOk", spec := "fnExactRulOk", inPlace := ["internal/bytealg.IndexByteString", "internal/bytealg.IndexString"], unfollowed := true, recurses := true, named := ["internal/bytealg.MaxLen"], apart := false }
def FnExactRulOkSaid : Prop := fnExactRulOkRow.holds Try.pinned (OpenSpec.ofChange fnExactRulOkSpec)

/-- ITS FALSE NEIGHBOUR: 'it returns false'. Refute it at one input. -/
def fnExactRulOkWrong : ChangeSpec := { name := "fnExactRulOk", fn := fun _ => fun
  | [d] => { results := [.lit (.bool false)], args := [d] }
  | _ => none }
def FnExactRulOkWrongFalsely : Prop := fnExactRulOkRow.holds Try.pinned (OpenSpec.ofChange fnExactRulOkWrong)

/-- 'laws.FnExactRulListOk': WHATEVER THE INPUT: true; the input reads as it did. -/
def fnExactRulListOkSpec : ChangeSpec := { name := "fnExactRulListOk", fn := fun _ => fun
  | [d] => { results := [.lit (.bool true)], args := [d] }
  | _ => none }
def fnExactRulListOkRow : OpenClaim := { program := "ytolpalbeldolnaa", sum := "b8160d180beb1b456e9eac0ba2a98b84fcaa58b30ce617ac790e8252eab54e8a", func := "loop.example/chartulary/laws.FnExactRulListOk", spec := "fnExactRulListOk", inPlace := ["internal/bytealg.IndexByteString", "internal/bytealg.IndexString"], unfollowed := true, recurses := true, named := ["internal/bytealg.MaxLen"], apart := false }
def FnExactRulListOkSaid : Prop := fnExactRulListOkRow.holds Try.pinned (OpenSpec.ofChange fnExactRulListOkSpec)

/-- ITS FALSE NEIGHBOUR: 'it returns false'. Refute it at one input. -/
def fnExactRulListOkWrong : ChangeSpec := { name := "fnExactRulListOk", fn := fun _ => fun
  | [d] => { results := [.lit (.bool false)], args := [d] }
  | _ => none }
def FnExactRulListOkWrongFalsely : Prop := fnExactRulListOkRow.holds Try.pinned (OpenSpec.ofChange fnExactRulListOkWrong)

/-- 'laws.FnExactRulMay': WHATEVER THE INPUT: true; the input reads as it did. -/
def fnExactRulMaySpec : ChangeSpec := { name := "fnExactRulMay", fn := fun _ => fun
  | [d1, d2, d3, d4, d5] => { results := [.lit (.bool true)], args := [d1, d2, d3, d4, d5] }
  | _ => none }
def fnExactRulMayRow : OpenClaim := { program := "ytolpalbeldolnaa", sum := "b8160d180beb1b456e9eac0ba2a98b84fcaa58b30ce617ac790e8252eab54e8a", func := "loop.example/chartulary/laws.FnExactRulMay", spec := "fnExactRulMay", inPlace := ["internal/bytealg.IndexByteString", "internal/bytealg.IndexString"], unfollowed := true, recurses := true, named := ["internal/bytealg.MaxLen"], apart := false }
def FnExactRulMaySaid : Prop := fnExactRulMayRow.holds Try.pinned (OpenSpec.ofChange fnExactRulMaySpec)

/-- ITS FALSE NEIGHBOUR: 'it returns false'. Refute it at one input. -/
def fnExactRulMayWrong : ChangeSpec := { name := "fnExactRulMay", fn := fun _ => fun
  | [d1, d2, d3, d4, d5] => { results := [.lit (.bool false)], args := [d1, d2, d3, d4, d5] }
  | _ => none }
def FnExactRulMayWrongFalsely : Prop := fnExactRulMayRow.holds Try.pinned (OpenSpec.ofChange fnExactRulMayWrong)

/-- 'laws.FnExactRulSees': WHATEVER THE INPUT: true; the input reads as it did. -/
def fnExactRulSeesSpec : ChangeSpec := { name := "fnExactRulSees", fn := fun _ => fun
  | [d1, d2, d3] => { results := [.lit (.bool true)], args := [d1, d2, d3] }
  | _ => none }
def fnExactRulSeesRow : OpenClaim := { program := "ytolpalbeldolnaa", sum := "b8160d180beb1b456e9eac0ba2a98b84fcaa58b30ce617ac790e8252eab54e8a", func := "loop.example/chartulary/laws.FnExactRulSees", spec := "fnExactRulSees", inPlace := ["internal/bytealg.IndexByteString", "internal/bytealg.IndexString"], unfollowed := true, recurses := true, named := ["internal/bytealg.MaxLen"], apart := false }
def FnExactRulSeesSaid : Prop := fnExactRulSeesRow.holds Try.pinned (OpenSpec.ofChange fnExactRulSeesSpec)

/-- ITS FALSE NEIGHBOUR: 'it returns false'. Refute it at one input. -/
def fnExactRulSeesWrong : ChangeSpec := { name := "fnExactRulSees", fn := fun _ => fun
  | [d1, d2, d3] => { results := [.lit (.bool false)], args := [d1, d2, d3] }
  | _ => none }
def FnExactRulSeesWrongFalsely : Prop := fnExactRulSeesRow.holds Try.pinned (OpenSpec.ofChange fnExactRulSeesWrong)

/-- 'laws.FnExactRulPut': WHATEVER THE INPUT: true; the input reads as it did. -/
def fnExactRulPutSpec : ChangeSpec := { name := "fnExactRulPut", fn := fun _ => fun
  | [d1, d2] => { results := [.lit (.bool true)], args := [d1, d2] }
  | _ => none }
def fnExactRulPutRow : OpenClaim := { program := "ytolpalbeldolnaa", sum := "b8160d180beb1b456e9eac0ba2a98b84fcaa58b30ce617ac790e8252eab54e8a", func := "loop.example/chartulary/laws.FnExactRulPut", spec := "fnExactRulPut", inPlace := ["internal/bytealg.IndexByteString", "internal/bytealg.IndexString"], unfollowed := true, recurses := true, named := ["internal/bytealg.MaxLen"], apart := false }
def FnExactRulPutSaid : Prop := fnExactRulPutRow.holds Try.pinned (OpenSpec.ofChange fnExactRulPutSpec)

/-- ITS FALSE NEIGHBOUR: 'it returns false'. Refute it at one input. -/
def fnExactRulPutWrong : ChangeSpec := { name := "fnExactRulPut", fn := fun _ => fun
  | [d1, d2] => { results := [.lit (.bool false)], args := [d1, d2] }
  | _ => none }
def FnExactRulPutWrongFalsely : Prop := fnExactRulPutRow.holds Try.pinned (OpenSpec.ofChange fnExactRulPutWrong)

/-- 'laws.FnExactRulOut': WHATEVER THE INPUT: true; the input reads as it did. -/
def fnExactRulOutSpec : ChangeSpec := { name := "fnExactRulOut", fn := fun _ => fun
  | [d1, d2] => { results := [.lit (.bool true)], args := [d1, d2] }
  | _ => none }
def fnExactRulOutRow : OpenClaim := { program := "ytolpalbeldolnaa", sum := "b8160d180beb1b456e9eac0ba2a98b84fcaa58b30ce617ac790e8252eab54e8a", func := "loop.example/chartulary/laws.FnExactRulOut", spec := "fnExactRulOut", apart := false }
def FnExactRulOutSaid : Prop := fnExactRulOutRow.holds Try.pinned (OpenSpec.ofChange fnExactRulOutSpec)

/-- ITS FALSE NEIGHBOUR: 'it returns false'. Refute it at one input. -/
def fnExactRulOutWrong : ChangeSpec := { name := "fnExactRulOut", fn := fun _ => fun
  | [d1, d2] => { results := [.lit (.bool false)], args := [d1, d2] }
  | _ => none }
def FnExactRulOutWrongFalsely : Prop := fnExactRulOutRow.holds Try.pinned (OpenSpec.ofChange fnExactRulOutWrong)

/- THE SECOND FORM. 'bulk': how many values and letters a reading holds, each counted each time it is reached (what is shared counts as often as it is met; a slice's spare places count too). A statement '..UptoSaid' is the law's where the arguments, and the package variables that the reading takes, are together of bulk at most 1048576: NARROWER than '..Said'. Prove '..Said' where nothing that the law and all that it calls make is longer than what came in: it says more and counts as full. Else prove '..UptoSaid'. A law counts once. -/
mutual
def uptoBulk {H : Type} : DataW H → Nat
  | .lit (.string bytes) => bytes.length + 1
  | .lit _ => 1
  | .nil => 1
  | .ptr d => uptoBulk d + 1
  | .slice elems spare => uptoBulkAll elems + uptoBulkAll spare + 1
  | .agg parts => uptoBulkAll parts + 1
  | .iface _ d => uptoBulk d + 1
  | .map entries => uptoBulkEntries entries + 1
  | .held _ => 1
def uptoBulkAll {H : Type} : List (DataW H) → Nat
  | [] => 0
  | d :: r => uptoBulk d + uptoBulkAll r
def uptoBulkEntries {H : Type} : List (Lit × DataW H) → Nat
  | [] => 0
  | x :: r => uptoBulkEntry x + uptoBulkEntries r
def uptoBulkEntry {H : Type} : Lit × DataW H → Nat
  | (.string bytes, d) => bytes.length + uptoBulk d + 1
  | (_, d) => uptoBulk d + 1
 end
def uptoSmall : (H : Type) → List (DataW H) → Bool := fun _ ds => decide (uptoBulkAll ds ≤ 1048576)
def OpenSpec.upto (s : _root_.Go.ChangeSpec) : _root_.Go.OpenSpec := { _root_.Go.OpenSpec.ofChange s with cond := some uptoSmall }

/-- 'laws.FnExactRulOk', WHERE WHAT IT READS IS OF BULK AT MOST 1048576: true; the input reads as it did. -/
def fnExactRulOkUptoRow : OpenClaim := { program := "ytolpalbeldolnaa", sum := "b8160d180beb1b456e9eac0ba2a98b84fcaa58b30ce617ac790e8252eab54e8a", func := "loop.example/chartulary/laws.FnExactRulOk", spec := "fnExactRulOk", inPlace := ["internal/bytealg.IndexByteString", "internal/bytealg.IndexString"], unfollowed := true, recurses := true, named := ["internal/bytealg.MaxLen"], apart := false, narrowed := true }
def FnExactRulOkUptoSaid : Prop := fnExactRulOkUptoRow.holds Try.pinned (OpenSpec.upto fnExactRulOkSpec)

/-- 'laws.FnExactRulListOk', WHERE WHAT IT READS IS OF BULK AT MOST 1048576: true; the input reads as it did. -/
def fnExactRulListOkUptoRow : OpenClaim := { program := "ytolpalbeldolnaa", sum := "b8160d180beb1b456e9eac0ba2a98b84fcaa58b30ce617ac790e8252eab54e8a", func := "loop.example/chartulary/laws.FnExactRulListOk", spec := "fnExactRulListOk", inPlace := ["internal/bytealg.IndexByteString", "internal/bytealg.IndexString"], unfollowed := true, recurses := true, named := ["internal/bytealg.MaxLen"], apart := false, narrowed := true }
def FnExactRulListOkUptoSaid : Prop := fnExactRulListOkUptoRow.holds Try.pinned (OpenSpec.upto fnExactRulListOkSpec)

/-- 'laws.FnExactRulMay', WHERE WHAT IT READS IS OF BULK AT MOST 1048576: true; the input reads as it did. -/
def fnExactRulMayUptoRow : OpenClaim := { program := "ytolpalbeldolnaa", sum := "b8160d180beb1b456e9eac0ba2a98b84fcaa58b30ce617ac790e8252eab54e8a", func := "loop.example/chartulary/laws.FnExactRulMay", spec := "fnExactRulMay", inPlace := ["internal/bytealg.IndexByteString", "internal/bytealg.IndexString"], unfollowed := true, recurses := true, named := ["internal/bytealg.MaxLen"], apart := false, narrowed := true }
def FnExactRulMayUptoSaid : Prop := fnExactRulMayUptoRow.holds Try.pinned (OpenSpec.upto fnExactRulMaySpec)

/-- 'laws.FnExactRulSees', WHERE WHAT IT READS IS OF BULK AT MOST 1048576: true; the input reads as it did. -/
def fnExactRulSeesUptoRow : OpenClaim := { program := "ytolpalbeldolnaa", sum := "b8160d180beb1b456e9eac0ba2a98b84fcaa58b30ce617ac790e8252eab54e8a", func := "loop.example/chartulary/laws.FnExactRulSees", spec := "fnExactRulSees", inPlace := ["internal/bytealg.IndexByteString", "internal/bytealg.IndexString"], unfollowed := true, recurses := true, named := ["internal/bytealg.MaxLen"], apart := false, narrowed := true }
def FnExactRulSeesUptoSaid : Prop := fnExactRulSeesUptoRow.holds Try.pinned (OpenSpec.upto fnExactRulSeesSpec)

/-- 'laws.FnExactRulPut', WHERE WHAT IT READS IS OF BULK AT MOST 1048576: true; the input reads as it did. -/
def fnExactRulPutUptoRow : OpenClaim := { program := "ytolpalbeldolnaa", sum := "b8160d180beb1b456e9eac0ba2a98b84fcaa58b30ce617ac790e8252eab54e8a", func := "loop.example/chartulary/laws.FnExactRulPut", spec := "fnExactRulPut", inPlace := ["internal/bytealg.IndexByteString", "internal/bytealg.IndexString"], unfollowed := true, recurses := true, named := ["internal/bytealg.MaxLen"], apart := false, narrowed := true }
def FnExactRulPutUptoSaid : Prop := fnExactRulPutUptoRow.holds Try.pinned (OpenSpec.upto fnExactRulPutSpec)

/-- 'laws.FnExactRulOut', WHERE WHAT IT READS IS OF BULK AT MOST 1048576: true; the input reads as it did. -/
def fnExactRulOutUptoRow : OpenClaim := { program := "ytolpalbeldolnaa", sum := "b8160d180beb1b456e9eac0ba2a98b84fcaa58b30ce617ac790e8252eab54e8a", func := "loop.example/chartulary/laws.FnExactRulOut", spec := "fnExactRulOut", apart := false, narrowed := true }
def FnExactRulOutUptoSaid : Prop := fnExactRulOutUptoRow.holds Try.pinned (OpenSpec.upto fnExactRulOutSpec)

end Rows
end Go.Proofs.Ytolpalbeldolnaa
