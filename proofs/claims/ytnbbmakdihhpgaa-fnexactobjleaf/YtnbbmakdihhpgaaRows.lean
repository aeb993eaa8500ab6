/-
  No cell of these rows narrows 'for every input' (looked for: loops, veiled, ifaces, maps, wideKeys, modest, calm, conditions, laid).
  DERIVED. THE GIVEN ROWS OF THIS SEAT. 5 by the template 'for every input the law returns true; each argument reads behind the call as it read before'; 0 by the template 'total and deterministic' (their statements: YtnbbmakdihhpgaaTotals.lean).
  GIVEN WITH THE SEED: the statements are not yours to turn. If you find one false, say at which input.
  Laid BY PROGRAM, IN A SANDBOX (cutbox-rows.mjs): the forced cells as the released guide's own fill.sh prints them over the translation 830c049bae7d069b… (all of the seat's roots in one cut). By AI agents, Wed Nov 11 2026. No macro, syntax, notation, axiom, sorry.
-/
import Derived.Test.YtnbbmakdihhpgaaChecked
import GoSem.Claim
import GoSem.ClaimJoined
import GoSem.ClaimMapViews
import Derived.JoinedTies
import Derived.KernelRfl
namespace Go.Proofs.Ytnbbmakdihhpgaa
/- THE CELL 'sum', in the pinned program and in every row, IS THE sha256 OF THE DUMP (.gsa) THAT YtnbbmakdihhpgaaProg.lean LOADS. Nothing in Lean hashes anything: it is a label: what it is worth is what the hold of that sum in a sandbox is worth. -/
noncomputable def Try.pinned : Pinned := { name := "ytnbbmakdihhpgaa", sum := "830c049bae7d069bd59a980518739de84bbc4893cf694d6ee18d997f6f5c3779", checked := Try.checked }
namespace Rows
def none {H : Type} : Left H := { results := [], args := [] }

/-- 'laws.FnExactNamOk': WHATEVER THE INPUT: true; the input reads as it did. -/
def fnExactNamOkSpec : ChangeSpec := { name := "fnExactNamOk", fn := fun _ => fun
  | [d] => { results := [.lit (.bool true)], args := [d] }
  | _ => none }
def fnExactNamOkRow : OpenClaim := { program := "ytnbbmakdihhpgaa", sum := "830c049bae7d069bd59a980518739de84bbc4893cf694d6ee18d997f6f5c3779", func := "loop.example/chartulary/laws.FnExactNamOk", spec := "fnExactNamOk", apart := false }
def FnExactNamOkSaid : Prop := fnExactNamOkRow.holds Try.pinned (OpenSpec.ofChange fnExactNamOkSpec)

/-- ITS FALSE NEIGHBOUR: 'it returns false'. Refute it at one input. -/
def fnExactNamOkWrong : ChangeSpec := { name := "fnExactNamOk", fn := fun _ => fun
  | [d] => { results := [.lit (.bool false)], args := [d] }
  | _ => none }
def FnExactNamOkWrongFalsely : Prop := fnExactNamOkRow.holds Try.pinned (OpenSpec.ofChange fnExactNamOkWrong)

/-- 'laws.FnExactIdHex': WHATEVER THE INPUT: true; the input reads as it did. -/
def fnExactIdHexSpec : ChangeSpec := { name := "fnExactIdHex", fn := fun _ => fun
  | [d] => { results := [.lit (.bool true)], args := [d] }
  | _ => none }
def fnExactIdHexRow : OpenClaim := { program := "ytnbbmakdihhpgaa", sum := "830c049bae7d069bd59a980518739de84bbc4893cf694d6ee18d997f6f5c3779", func := "loop.example/chartulary/laws.FnExactIdHex", spec := "fnExactIdHex", apart := false }
def FnExactIdHexSaid : Prop := fnExactIdHexRow.holds Try.pinned (OpenSpec.ofChange fnExactIdHexSpec)

/-- ITS FALSE NEIGHBOUR: 'it returns false'. Refute it at one input. -/
def fnExactIdHexWrong : ChangeSpec := { name := "fnExactIdHex", fn := fun _ => fun
  | [d] => { results := [.lit (.bool false)], args := [d] }
  | _ => none }
def FnExactIdHexWrongFalsely : Prop := fnExactIdHexRow.holds Try.pinned (OpenSpec.ofChange fnExactIdHexWrong)

/-- 'laws.FnExactIdRead': WHATEVER THE INPUT: true; the input reads as it did. -/
def fnExactIdReadSpec : ChangeSpec := { name := "fnExactIdRead", fn := fun _ => fun
  | [d] => { results := [.lit (.bool true)], args := [d] }
  | _ => none }
def fnExactIdReadRow : OpenClaim := { program := "ytnbbmakdihhpgaa", sum := "830c049bae7d069bd59a980518739de84bbc4893cf694d6ee18d997f6f5c3779", func := "loop.example/chartulary/laws.FnExactIdRead", spec := "fnExactIdRead", inPlace := ["internal/bytealg.IndexByteString"], apart := false }
def FnExactIdReadSaid : Prop := fnExactIdReadRow.holds Try.pinned (OpenSpec.ofChange fnExactIdReadSpec)

/-- ITS FALSE NEIGHBOUR: 'it returns false'. Refute it at one input. -/
def fnExactIdReadWrong : ChangeSpec := { name := "fnExactIdRead", fn := fun _ => fun
  | [d] => { results := [.lit (.bool false)], args := [d] }
  | _ => none }
def FnExactIdReadWrongFalsely : Prop := fnExactIdReadRow.holds Try.pinned (OpenSpec.ofChange fnExactIdReadWrong)

/-- 'laws.FnExactIdOf': WHATEVER THE INPUT: true; the input reads as it did. -/
def fnExactIdOfSpec : ChangeSpec := { name := "fnExactIdOf", fn := fun _ => fun
  | [d] => { results := [.lit (.bool true)], args := [d] }
  | _ => none }
def fnExactIdOfRow : OpenClaim := { program := "ytnbbmakdihhpgaa", sum := "830c049bae7d069bd59a980518739de84bbc4893cf694d6ee18d997f6f5c3779", func := "loop.example/chartulary/laws.FnExactIdOf", spec := "fnExactIdOf", apart := false }
def FnExactIdOfSaid : Prop := fnExactIdOfRow.holds Try.pinned (OpenSpec.ofChange fnExactIdOfSpec)

/-- ITS FALSE NEIGHBOUR: 'it returns false'. Refute it at one input. -/
def fnExactIdOfWrong : ChangeSpec := { name := "fnExactIdOf", fn := fun _ => fun
  | [d] => { results := [.lit (.bool false)], args := [d] }
  | _ => none }
def FnExactIdOfWrongFalsely : Prop := fnExactIdOfRow.holds Try.pinned (OpenSpec.ofChange fnExactIdOfWrong)

/-- 'laws.FnExactObjLeaf': WHATEVER THE INPUT: true; the input reads as it did. -/
def fnExactObjLeafSpec : ChangeSpec := { name := "fnExactObjLeaf", fn := fun _ => fun
  | [d] => { results := [.lit (.bool true)], args := [d] }
  | _ => none }
def fnExactObjLeafRow : OpenClaim := { program := "ytnbbmakdihhpgaa", sum := "830c049bae7d069bd59a980518739de84bbc4893cf694d6ee18d997f6f5c3779", func := "loop.example/chartulary/laws.FnExactObjLeaf", spec := "fnExactObjLeaf", unfollowed := true, recurses := true, apart := false }
def FnExactObjLeafSaid : Prop := fnExactObjLeafRow.holds Try.pinned (OpenSpec.ofChange fnExactObjLeafSpec)

/-- ITS FALSE NEIGHBOUR: 'it returns false'. Refute it at one input. -/
def fnExactObjLeafWrong : ChangeSpec := { name := "fnExactObjLeaf", fn := fun _ => fun
  | [d] => { results := [.lit (.bool false)], args := [d] }
  | _ => none }
def FnExactObjLeafWrongFalsely : Prop := fnExactObjLeafRow.holds Try.pinned (OpenSpec.ofChange fnExactObjLeafWrong)

/- THE SECOND FORM. 'bulk': how many values and letters a reading holds, each counted each time it is reached (what is shared counts as often as it is met; a slice's spare places count too). A statement '..UptoSaid' is the law's where the arguments, and the package variables that the reading takes, are together of bulk at most 1048576: NARROWER than '..Said'. Prove '..Said' where nothing that the law and all that it calls make is longer than what came in: it says more and counts as full. Else prove '..UptoSaid'. A law counts once. -/
mutual
def uptoBulk {H : Type} : DataW H → Nat
  | .lit (.string bytes) => bytes.length + 1
  | .lit _ => 1
  | .nil => 1
  | .ptr d => uptoBulk d + 1
  | .slice elems spare => uptoBulkAll elems + uptoBulkAll spare + 1
  | .agg parts => uptoBulkAll parts + 1
  | .iface _ d => uptoBulk d + 1
  | .map entries => uptoBulkEntries entries + 1
  | .held _ => 1
def uptoBulkAll {H : Type} : List (DataW H) → Nat
  | [] => 0
  | d :: r => uptoBulk d + uptoBulkAll r
def uptoBulkEntries {H : Type} : List (Lit × DataW H) → Nat
  | [] => 0
  | x :: r => uptoBulkEntry x + uptoBulkEntries r
def uptoBulkEntry {H : Type} : Lit × DataW H → Nat
  | (.string bytes, d) => bytes.length + uptoBulk d + 1
  | (_, d) => uptoBulk d + 1
 end
def uptoSmall : (H : Type) → List (DataW H) → Bool := fun _ ds => decide (uptoBulkAll ds ≤ 1048576)
def OpenSpec.upto (s : _root_.Go.ChangeSpec) : _root_.Go.OpenSpec := { _root_.Go.OpenSpec.ofChange s with cond := some uptoSmall }

/-- 'laws.FnExactNamOk', WHERE WHAT IT READS IS OF BULK AT MOST 1048576: true; the input reads as it did. -/
def fnExactNamOkUptoRow : OpenClaim := { program := "ytnbbmakdihhpgaa", sum := "830c049bae7d069bd59a980518739de84bbc4893cf694d6ee18d997f6f5c3779", func := "loop.example/chartulary/laws.FnExactNamOk", spec := "fnExactNamOk", apart := false, narrowed := true }
def FnExactNamOkUptoSaid : Prop := fnExactNamOkUptoRow.holds Try.pinned (OpenSpec.upto fnExactNamOkSpec)

/-- 'laws.FnExactIdHex', WHERE WHAT IT READS IS OF BULK AT MOST 1048576: true; the input reads as it did. -/
def fnExactIdHexUptoRow : OpenClaim := { program := "ytnbbmakdihhpgaa", sum := "830c049bae7d069bd59a980518739de84bbc4893cf694d6ee18d997f6f5c3779", func := "loop.example/chartulary/laws.FnExactIdHex", spec := "fnExactIdHex", apart := false, narrowed := true }
def FnExactIdHexUptoSaid : Prop := fnExactIdHexUptoRow.holds Try.pinned (OpenSpec.upto fnExactIdHexSpec)

/-- 'laws.FnExactIdRead', WHERE WHAT IT READS IS OF BULK AT MOST 1048576: true; the input reads as it did. -/
def fnExactIdReadUptoRow : OpenClaim := { program := "ytnbbmakdihhpgaa", sum := "830c049bae7d069bd59a980518739de84bbc4893cf694d6ee18d997f6f5c3779", func := "loop.example/chartulary/laws.FnExactIdRead", spec := "fnExactIdRead", inPlace := ["internal/bytealg.IndexByteString"], apart := false, narrowed := true }
def FnExactIdReadUptoSaid : Prop := fnExactIdReadUptoRow.holds Try.pinned (OpenSpec.upto fnExactIdReadSpec)

/-- 'laws.FnExactIdOf', WHERE WHAT IT READS IS OF BULK AT MOST 1048576: true; the input reads as it did. -/
def fnExactIdOfUptoRow : OpenClaim := { program := "ytnbbmakdihhpgaa", sum := "830c049bae7d069bd59a980518739de84bbc4893cf694d6ee18d997f6f5c3779", func := "loop.example/chartulary/laws.FnExactIdOf", spec := "fnExactIdOf", apart := false, narrowed := true }
def FnExactIdOfUptoSaid : Prop := fnExactIdOfUptoRow.holds Try.pinned (OpenSpec.upto fnExactIdOfSpec)

/-- 'laws.FnExactObjLeaf', WHERE WHAT IT READS IS OF BULK AT MOST 1048576: true; the input reads as it did. -/
def fnExactObjLeafUptoRow : OpenClaim := { program := "ytnbbmakdihhpgaa", sum := "830c049bae7d069bd59a980518739de84bbc4893cf694d6ee18d997f6f5c3779", func := "loop.example/chartulary/laws.FnExactObjLeaf", spec := "fnExactObjLeaf", unfollowed := true, recurses := true, apart := false, narrowed := true }
def FnExactObjLeafUptoSaid : Prop := fnExactObjLeafUptoRow.holds Try.pinned (OpenSpec.upto fnExactObjLeafSpec)

end Rows
end Go.Proofs.Ytnbbmakdihhpgaa
