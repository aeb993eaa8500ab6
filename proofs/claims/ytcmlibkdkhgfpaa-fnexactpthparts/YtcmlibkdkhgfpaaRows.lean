/-
  No cell of these rows narrows 'for every input' (looked for: loops, veiled, ifaces, maps, wideKeys, modest, calm, conditions, laid).
  DERIVED. THE GIVEN ROWS OF THIS SEAT. 6 by the template 'for every input the law returns true; each argument reads behind the call as it read before'; 0 by the template 'total and deterministic' (their statements: YtcmlibkdkhgfpaaTotals.lean).
  GIVEN WITH THE SEED: the statements are not yours to turn. If you find one false, say at which input.
  Laid BY PROGRAM, IN A SANDBOX (cutbox-rows.mjs): the forced cells as the released guide's own fill.sh prints them over the translation 0d75a0fdaf270c28… (all of the seat's roots in one cut). By AI agents, Wed Nov 11 2026. No macro, syntax, notation, axiom, sorry.
-/
import Derived.Test.YtcmlibkdkhgfpaaChecked
import GoSem.Claim
import GoSem.ClaimJoined
import GoSem.ClaimMapViews
import Derived.JoinedTies
import Derived.KernelRfl
namespace Go.Proofs.Ytcmlibkdkhgfpaa
/- THE CELL 'sum', in the pinned program and in every row, IS THE sha256 OF THE DUMP (.gsa) THAT YtcmlibkdkhgfpaaProg.lean LOADS. Nothing in Lean hashes anything: it is a label: what it is worth is what the hold of that sum in a sandbox is worth. -/
noncomputable def Try.pinned : Pinned := { name := "ytcmlibkdkhgfpaa", sum := "0d75a0fdaf270c28d6ce49cf4afa478ab10a11836639d2935164b8b0284e550c", checked := Try.checked }
namespace Rows
def none {H : Type} : Left H := { results := [], args := [] }

/-- 'laws.FnExactPthOk': WHATEVER THE INPUT: true; the input reads as it did. -/
def fnExactPthOkSpec : ChangeSpec := { name := "fnExactPthOk", fn := fun _ => fun
  | [d] => { results := [.lit (.bool true)], args := [d] }
  | _ => none }
def fnExactPthOkRow : OpenClaim := { program := "ytcmlibkdkhgfpaa", sum := "0d75a0fdaf270c28d6ce49cf4afa478ab10a11836639d2935164b8b0284e550c", func := "loop.example/chartulary/laws.FnExactPthOk", spec := "fnExactPthOk", inPlace := ["internal/bytealg.IndexByteString", "internal/bytealg.IndexString"], unfollowed := true, recurses := true, named := ["internal/bytealg.MaxLen"], apart := false }
def FnExactPthOkSaid : Prop := fnExactPthOkRow.holds Try.pinned (OpenSpec.ofChange fnExactPthOkSpec)

/-- ITS FALSE NEIGHBOUR: 'it returns false'. Refute it at one input. -/
def fnExactPthOkWrong : ChangeSpec := { name := "fnExactPthOk", fn := fun _ => fun
  | [d] => { results := [.lit (.bool false)], args := [d] }
  | _ => none }
def FnExactPthOkWrongFalsely : Prop := fnExactPthOkRow.holds Try.pinned (OpenSpec.ofChange fnExactPthOkWrong)

/-- 'laws.FnExactPthUnder': WHATEVER THE INPUT: true; the input reads as it did. -/
def fnExactPthUnderSpec : ChangeSpec := { name := "fnExactPthUnder", fn := fun _ => fun
  | [d1, d2] => { results := [.lit (.bool true)], args := [d1, d2] }
  | _ => none }
def fnExactPthUnderRow : OpenClaim := { program := "ytcmlibkdkhgfpaa", sum := "0d75a0fdaf270c28d6ce49cf4afa478ab10a11836639d2935164b8b0284e550c", func := "loop.example/chartulary/laws.FnExactPthUnder", spec := "fnExactPthUnder", inPlace := ["internal/bytealg.IndexByteString", "internal/bytealg.IndexString"], unfollowed := true, recurses := true, named := ["internal/bytealg.MaxLen"], apart := false }
def FnExactPthUnderSaid : Prop := fnExactPthUnderRow.holds Try.pinned (OpenSpec.ofChange fnExactPthUnderSpec)

/-- ITS FALSE NEIGHBOUR: 'it returns false'. Refute it at one input. -/
def fnExactPthUnderWrong : ChangeSpec := { name := "fnExactPthUnder", fn := fun _ => fun
  | [d1, d2] => { results := [.lit (.bool false)], args := [d1, d2] }
  | _ => none }
def FnExactPthUnderWrongFalsely : Prop := fnExactPthUnderRow.holds Try.pinned (OpenSpec.ofChange fnExactPthUnderWrong)

/-- 'laws.FnExactPthFirst': WHATEVER THE INPUT: true; the input reads as it did. -/
def fnExactPthFirstSpec : ChangeSpec := { name := "fnExactPthFirst", fn := fun _ => fun
  | [d] => { results := [.lit (.bool true)], args := [d] }
  | _ => none }
def fnExactPthFirstRow : OpenClaim := { program := "ytcmlibkdkhgfpaa", sum := "0d75a0fdaf270c28d6ce49cf4afa478ab10a11836639d2935164b8b0284e550c", func := "loop.example/chartulary/laws.FnExactPthFirst", spec := "fnExactPthFirst", inPlace := ["internal/bytealg.IndexByteString", "internal/bytealg.IndexString"], unfollowed := true, recurses := true, named := ["internal/bytealg.MaxLen"], apart := false }
def FnExactPthFirstSaid : Prop := fnExactPthFirstRow.holds Try.pinned (OpenSpec.ofChange fnExactPthFirstSpec)

/-- ITS FALSE NEIGHBOUR: 'it returns false'. Refute it at one input. -/
def fnExactPthFirstWrong : ChangeSpec := { name := "fnExactPthFirst", fn := fun _ => fun
  | [d] => { results := [.lit (.bool false)], args := [d] }
  | _ => none }
def FnExactPthFirstWrongFalsely : Prop := fnExactPthFirstRow.holds Try.pinned (OpenSpec.ofChange fnExactPthFirstWrong)

/-- 'laws.FnExactPthRest': WHATEVER THE INPUT: true; the input reads as it did. -/
def fnExactPthRestSpec : ChangeSpec := { name := "fnExactPthRest", fn := fun _ => fun
  | [d] => { results := [.lit (.bool true)], args := [d] }
  | _ => none }
def fnExactPthRestRow : OpenClaim := { program := "ytcmlibkdkhgfpaa", sum := "0d75a0fdaf270c28d6ce49cf4afa478ab10a11836639d2935164b8b0284e550c", func := "loop.example/chartulary/laws.FnExactPthRest", spec := "fnExactPthRest", inPlace := ["internal/bytealg.IndexByteString", "internal/bytealg.IndexString"], unfollowed := true, recurses := true, named := ["internal/bytealg.MaxLen"], apart := false }
def FnExactPthRestSaid : Prop := fnExactPthRestRow.holds Try.pinned (OpenSpec.ofChange fnExactPthRestSpec)

/-- ITS FALSE NEIGHBOUR: 'it returns false'. Refute it at one input. -/
def fnExactPthRestWrong : ChangeSpec := { name := "fnExactPthRest", fn := fun _ => fun
  | [d] => { results := [.lit (.bool false)], args := [d] }
  | _ => none }
def FnExactPthRestWrongFalsely : Prop := fnExactPthRestRow.holds Try.pinned (OpenSpec.ofChange fnExactPthRestWrong)

/-- 'laws.FnExactPthJoin': WHATEVER THE INPUT: true; the input reads as it did. -/
def fnExactPthJoinSpec : ChangeSpec := { name := "fnExactPthJoin", fn := fun _ => fun
  | [d1, d2] => { results := [.lit (.bool true)], args := [d1, d2] }
  | _ => none }
def fnExactPthJoinRow : OpenClaim := { program := "ytcmlibkdkhgfpaa", sum := "0d75a0fdaf270c28d6ce49cf4afa478ab10a11836639d2935164b8b0284e550c", func := "loop.example/chartulary/laws.FnExactPthJoin", spec := "fnExactPthJoin", inPlace := ["internal/bytealg.IndexByteString", "internal/bytealg.IndexString"], unfollowed := true, recurses := true, named := ["internal/bytealg.MaxLen"], apart := false }
def FnExactPthJoinSaid : Prop := fnExactPthJoinRow.holds Try.pinned (OpenSpec.ofChange fnExactPthJoinSpec)

/-- ITS FALSE NEIGHBOUR: 'it returns false'. Refute it at one input. -/
def fnExactPthJoinWrong : ChangeSpec := { name := "fnExactPthJoin", fn := fun _ => fun
  | [d1, d2] => { results := [.lit (.bool false)], args := [d1, d2] }
  | _ => none }
def FnExactPthJoinWrongFalsely : Prop := fnExactPthJoinRow.holds Try.pinned (OpenSpec.ofChange fnExactPthJoinWrong)

/-- 'laws.FnExactPthParts': WHATEVER THE INPUT: true; the input reads as it did. -/
def fnExactPthPartsSpec : ChangeSpec := { name := "fnExactPthParts", fn := fun _ => fun
  | [d] => { results := [.lit (.bool true)], args := [d] }
  | _ => none }
def fnExactPthPartsRow : OpenClaim := { program := "ytcmlibkdkhgfpaa", sum := "0d75a0fdaf270c28d6ce49cf4afa478ab10a11836639d2935164b8b0284e550c", func := "loop.example/chartulary/laws.FnExactPthParts", spec := "fnExactPthParts", inPlace := ["internal/bytealg.IndexByteString", "internal/bytealg.IndexString"], unfollowed := true, recurses := true, named := ["internal/bytealg.MaxLen"], apart := false }
def FnExactPthPartsSaid : Prop := fnExactPthPartsRow.holds Try.pinned (OpenSpec.ofChange fnExactPthPartsSpec)

/-- ITS FALSE NEIGHBOUR: 'it returns false'. Refute it at one input. -/
def fnExactPthPartsWrong : ChangeSpec := { name := "fnExactPthParts", fn := fun _ => fun
  | [d] => { results := [.lit (.bool false)], args := [d] }
  | _ => none }
def FnExactPthPartsWrongFalsely : Prop := fnExactPthPartsRow.holds Try.pinned (OpenSpec.ofChange fnExactPthPartsWrong)

/- THE SECOND FORM. 'bulk': how many values and letters a reading holds, each counted each time it is reached (what is shared counts as often as it is met; a slice's spare places count too). A statement '..UptoSaid' is the law's where the arguments, and the package variables that the reading takes, are together of bulk at most 1048576: NARROWER than '..Said'. Prove '..Said' where nothing that the law and all that it calls make is longer than what came in: it says more and counts as full. Else prove '..UptoSaid'. A law counts once. -/
mutual
def uptoBulk {H : Type} : DataW H → Nat
  | .lit (.string bytes) => bytes.length + 1
  | .lit _ => 1
  | .nil => 1
  | .ptr d => uptoBulk d + 1
  | .slice elems spare => uptoBulkAll elems + uptoBulkAll spare + 1
  | .agg parts => uptoBulkAll parts + 1
  | .iface _ d => uptoBulk d + 1
  | .map entries => uptoBulkEntries entries + 1
  | .held _ => 1
def uptoBulkAll {H : Type} : List (DataW H) → Nat
  | [] => 0
  | d :: r => uptoBulk d + uptoBulkAll r
def uptoBulkEntries {H : Type} : List (Lit × DataW H) → Nat
  | [] => 0
  | x :: r => uptoBulkEntry x + uptoBulkEntries r
def uptoBulkEntry {H : Type} : Lit × DataW H → Nat
  | (.string bytes, d) => bytes.length + uptoBulk d + 1
  | (_, d) => uptoBulk d + 1
 end
def uptoSmall : (H : Type) → List (DataW H) → Bool := fun _ ds => decide (uptoBulkAll ds ≤ 1048576)
def OpenSpec.upto (s : _root_.Go.ChangeSpec) : _root_.Go.OpenSpec := { _root_.Go.OpenSpec.ofChange s with cond := some uptoSmall }

/-- 'laws.FnExactPthOk', WHERE WHAT IT READS IS OF BULK AT MOST 1048576: true; the input reads as it did. -/
def fnExactPthOkUptoRow : OpenClaim := { program := "ytcmlibkdkhgfpaa", sum := "0d75a0fdaf270c28d6ce49cf4afa478ab10a11836639d2935164b8b0284e550c", func := "loop.example/chartulary/laws.FnExactPthOk", spec := "fnExactPthOk", inPlace := ["internal/bytealg.IndexByteString", "internal/bytealg.IndexString"], unfollowed := true, recurses := true, named := ["internal/bytealg.MaxLen"], apart := false, narrowed := true }
def FnExactPthOkUptoSaid : Prop := fnExactPthOkUptoRow.holds Try.pinned (OpenSpec.upto fnExactPthOkSpec)

/-- 'laws.FnExactPthUnder', WHERE WHAT IT READS IS OF BULK AT MOST 1048576: true; the input reads as it did. -/
def fnExactPthUnderUptoRow : OpenClaim := { program := "ytcmlibkdkhgfpaa", sum := "0d75a0fdaf270c28d6ce49cf4afa478ab10a11836639d2935164b8b0284e550c", func := "loop.example/chartulary/laws.FnExactPthUnder", spec := "fnExactPthUnder", inPlace := ["internal/bytealg.IndexByteString", "internal/bytealg.IndexString"], unfollowed := true, recurses := true, named := ["internal/bytealg.MaxLen"], apart := false, narrowed := true }
def FnExactPthUnderUptoSaid : Prop := fnExactPthUnderUptoRow.holds Try.pinned (OpenSpec.upto fnExactPthUnderSpec)

/-- 'laws.FnExactPthFirst', WHERE WHAT IT READS IS OF BULK AT MOST 1048576: true; the input reads as it did. -/
def fnExactPthFirstUptoRow : OpenClaim := { program := "ytcmlibkdkhgfpaa", sum := "0d75a0fdaf270c28d6ce49cf4afa478ab10a11836639d2935164b8b0284e550c", func := "loop.example/chartulary/laws.FnExactPthFirst", spec := "fnExactPthFirst", inPlace := ["internal/bytealg.IndexByteString", "internal/bytealg.IndexString"], unfollowed := true, recurses := true, named := ["internal/bytealg.MaxLen"], apart := false, narrowed := true }
def FnExactPthFirstUptoSaid : Prop := fnExactPthFirstUptoRow.holds Try.pinned (OpenSpec.upto fnExactPthFirstSpec)

/-- 'laws.FnExactPthRest', WHERE WHAT IT READS IS OF BULK AT MOST 1048576: true; the input reads as it did. -/
def fnExactPthRestUptoRow : OpenClaim := { program := "ytcmlibkdkhgfpaa", sum := "0d75a0fdaf270c28d6ce49cf4afa478ab10a11836639d2935164b8b0284e550c", func := "loop.example/chartulary/laws.FnExactPthRest", spec := "fnExactPthRest", inPlace := ["internal/bytealg.IndexByteString", "internal/bytealg.IndexString"], unfollowed := true, recurses := true, named := ["internal/bytealg.MaxLen"], apart := false, narrowed := true }
def FnExactPthRestUptoSaid : Prop := fnExactPthRestUptoRow.holds Try.pinned (OpenSpec.upto fnExactPthRestSpec)

/-- 'laws.FnExactPthJoin', WHERE WHAT IT READS IS OF BULK AT MOST 1048576: true; the input reads as it did. -/
def fnExactPthJoinUptoRow : OpenClaim := { program := "ytcmlibkdkhgfpaa", sum := "0d75a0fdaf270c28d6ce49cf4afa478ab10a11836639d2935164b8b0284e550c", func := "loop.example/chartulary/laws.FnExactPthJoin", spec := "fnExactPthJoin", inPlace := ["internal/bytealg.IndexByteString", "internal/bytealg.IndexString"], unfollowed := true, recurses := true, named := ["internal/bytealg.MaxLen"], apart := false, narrowed := true }
def FnExactPthJoinUptoSaid : Prop := fnExactPthJoinUptoRow.holds Try.pinned (OpenSpec.upto fnExactPthJoinSpec)

/-- 'laws.FnExactPthParts', WHERE WHAT IT READS IS OF BULK AT MOST 1048576: true; the input reads as it did. -/
def fnExactPthPartsUptoRow : OpenClaim := { program := "ytcmlibkdkhgfpaa", sum := "0d75a0fdaf270c28d6ce49cf4afa478ab10a11836639d2935164b8b0284e550c", func := "loop.example/chartulary/laws.FnExactPthParts", spec := "fnExactPthParts", inPlace := ["internal/bytealg.IndexByteString", "internal/bytealg.IndexString"], unfollowed := true, recurses := true, named := ["internal/bytealg.MaxLen"], apart := false, narrowed := true }
def FnExactPthPartsUptoSaid : Prop := fnExactPthPartsUptoRow.holds Try.pinned (OpenSpec.upto fnExactPthPartsSpec)

end Rows
end Go.Proofs.Ytcmlibkdkhgfpaa
