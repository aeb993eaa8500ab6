/-
  No cell of these rows narrows 'for every input' (looked for: loops, veiled, ifaces, maps, wideKeys, modest, calm, conditions, laid).
  DERIVED. THE GIVEN ROWS OF THIS SEAT. 3 by the template 'for every input the law returns true; each argument reads behind the call as it read before'; 0 by the template 'total and deterministic' (their statements: YtjlpainieppfnaaTotals.lean).
  GIVEN WITH THE SEED: the statements are not yours to turn. If you find one false, say at which input.
  Laid BY PROGRAM, IN A SANDBOX (cutbox-rows.mjs): the forced cells as the released guide's own fill.sh prints them over the translation 8cab0c781eb1298d… (all of the seat's roots in one cut). By AI agents, Wed Nov 11 2026. No macro, syntax, notation, axiom, sorry.
-/
import Derived.Test.YtjlpainieppfnaaChecked
import GoSem.Claim
import GoSem.ClaimJoined
import GoSem.ClaimMapViews
import Derived.JoinedTies
import Derived.KernelRfl
namespace Go.Proofs.Ytjlpainieppfnaa
/- THE CELL 'sum', in the pinned program and in every row, IS THE sha256 OF THE DUMP (.gsa) THAT YtjlpainieppfnaaProg.lean LOADS. Nothing in Lean hashes anything: it is a label: what it is worth is what the hold of that sum in a sandbox is worth. -/
noncomputable def Try.pinned : Pinned := { name := "ytjlpainieppfnaa", sum := "8cab0c781eb1298d9c93e15d8fbb3f29753285ca112448f3f0a3cfa89ed06b9c", checked := Try.checked }
namespace Rows
def none {H : Type} : Left H := { results := [], args := [] }

/-- 'laws.FnReqWrites': WHATEVER THE INPUT: true; the input reads as it did. -/
def fnReqWritesSpec : ChangeSpec := { name := "fnReqWrites", fn := fun _ => fun
  | [d] => { results := [.lit (.bool true)], args := [d] }
  | _ => none }
def fnReqWritesRow : OpenClaim := { program := "ytjlpainieppfnaa", sum := "8cab0c781eb1298d9c93e15d8fbb3f29753285ca112448f3f0a3cfa89ed06b9c", func := "loop.example/chartulary/laws.FnReqWrites", spec := "fnReqWrites", inPlace := ["internal/bytealg.IndexByteString", "internal/bytealg.IndexString"], unfollowed := true, recurses := true, named := ["internal/bytealg.MaxLen"], apart := false }
def FnReqWritesSaid : Prop := fnReqWritesRow.holds Try.pinned (OpenSpec.ofChange fnReqWritesSpec)

/-- ITS FALSE NEIGHBOUR: 'it returns false'. Refute it at one input. -/
def fnReqWritesWrong : ChangeSpec := { name := "fnReqWrites", fn := fun _ => fun
  | [d] => { results := [.lit (.bool false)], args := [d] }
  | _ => none }
def FnReqWritesWrongFalsely : Prop := fnReqWritesRow.holds Try.pinned (OpenSpec.ofChange fnReqWritesWrong)

/-- 'laws.FnExactReqOk': WHATEVER THE INPUT: true; the input reads as it did. -/
def fnExactReqOkSpec : ChangeSpec := { name := "fnExactReqOk", fn := fun _ => fun
  | [d] => { results := [.lit (.bool true)], args := [d] }
  | _ => none }
def fnExactReqOkRow : OpenClaim := { program := "ytjlpainieppfnaa", sum := "8cab0c781eb1298d9c93e15d8fbb3f29753285ca112448f3f0a3cfa89ed06b9c", func := "loop.example/chartulary/laws.FnExactReqOk", spec := "fnExactReqOk", inPlace := ["internal/bytealg.IndexByteString", "internal/bytealg.IndexString"], unfollowed := true, recurses := true, named := ["internal/bytealg.MaxLen"], apart := false }
def FnExactReqOkSaid : Prop := fnExactReqOkRow.holds Try.pinned (OpenSpec.ofChange fnExactReqOkSpec)

/-- ITS FALSE NEIGHBOUR: 'it returns false'. Refute it at one input. -/
def fnExactReqOkWrong : ChangeSpec := { name := "fnExactReqOk", fn := fun _ => fun
  | [d] => { results := [.lit (.bool false)], args := [d] }
  | _ => none }
def FnExactReqOkWrongFalsely : Prop := fnExactReqOkRow.holds Try.pinned (OpenSpec.ofChange fnExactReqOkWrong)

/-- 'laws.FnExactReqWrites': WHATEVER THE INPUT: true; the input reads as it did. -/
def fnExactReqWritesSpec : ChangeSpec := { name := "fnExactReqWrites", fn := fun _ => fun
  | [d] => { results := [.lit (.bool true)], args := [d] }
  | _ => none }
def fnExactReqWritesRow : OpenClaim := { program := "ytjlpainieppfnaa", sum := "8cab0c781eb1298d9c93e15d8fbb3f29753285ca112448f3f0a3cfa89ed06b9c", func := "loop.example/chartulary/laws.FnExactReqWrites", spec := "fnExactReqWrites", apart := false }
def FnExactReqWritesSaid : Prop := fnExactReqWritesRow.holds Try.pinned (OpenSpec.ofChange fnExactReqWritesSpec)

/-- ITS FALSE NEIGHBOUR: 'it returns false'. Refute it at one input. -/
def fnExactReqWritesWrong : ChangeSpec := { name := "fnExactReqWrites", fn := fun _ => fun
  | [d] => { results := [.lit (.bool false)], args := [d] }
  | _ => none }
def FnExactReqWritesWrongFalsely : Prop := fnExactReqWritesRow.holds Try.pinned (OpenSpec.ofChange fnExactReqWritesWrong)

/- THE SECOND FORM. 'bulk': how many values and letters a reading holds, each counted each time it is reached (what is shared counts as often as it is met; a slice's spare places count too). A statement '..UptoSaid' is the law's where the arguments, and the package variables that the reading takes, are together of bulk at most 1048576: NARROWER than '..Said'. Prove '..Said' where nothing that the law and all that it calls make is longer than what came in: it says more and counts as full. Else prove '..UptoSaid'. A law counts once. -/
mutual
def uptoBulk {H : Type} : DataW H → Nat
  | .lit (.string bytes) => bytes.length + 1
  | .lit _ => 1
  | .nil => 1
  | .ptr d => uptoBulk d + 1
  | .slice elems spare => uptoBulkAll elems + uptoBulkAll spare + 1
  | .agg parts => uptoBulkAll parts + 1
  | .iface _ d => uptoBulk d + 1
  | .map entries => uptoBulkEntries entries + 1
  | .held _ => 1
def uptoBulkAll {H : Type} : List (DataW H) → Nat
  | [] => 0
  | d :: r => uptoBulk d + uptoBulkAll r
def uptoBulkEntries {H : Type} : List (Lit × DataW H) → Nat
  | [] => 0
  | x :: r => uptoBulkEntry x + uptoBulkEntries r
def uptoBulkEntry {H : Type} : Lit × DataW H → Nat
  | (.string bytes, d) => bytes.length + uptoBulk d + 1
  | (_, d) => uptoBulk d + 1
 end
def uptoSmall : (H : Type) → List (DataW H) → Bool := fun _ ds => decide (uptoBulkAll ds ≤ 1048576)
def OpenSpec.upto (s : _root_.Go.ChangeSpec) : _root_.Go.OpenSpec := { _root_.Go.OpenSpec.ofChange s with cond := some uptoSmall }

/-- 'laws.FnReqWrites', WHERE WHAT IT READS IS OF BULK AT MOST 1048576: true; the input reads as it did. -/
def fnReqWritesUptoRow : OpenClaim := { program := "ytjlpainieppfnaa", sum := "8cab0c781eb1298d9c93e15d8fbb3f29753285ca112448f3f0a3cfa89ed06b9c", func := "loop.example/chartulary/laws.FnReqWrites", spec := "fnReqWrites", inPlace := ["internal/bytealg.IndexByteString", "internal/bytealg.IndexString"], unfollowed := true, recurses := true, named := ["internal/bytealg.MaxLen"], apart := false, narrowed := true }
def FnReqWritesUptoSaid : Prop := fnReqWritesUptoRow.holds Try.pinned (OpenSpec.upto fnReqWritesSpec)

/-- 'laws.FnExactReqOk', WHERE WHAT IT READS IS OF BULK AT MOST 1048576: true; the input reads as it did. -/
def fnExactReqOkUptoRow : OpenClaim := { program := "ytjlpainieppfnaa", sum := "8cab0c781eb1298d9c93e15d8fbb3f29753285ca112448f3f0a3cfa89ed06b9c", func := "loop.example/chartulary/laws.FnExactReqOk", spec := "fnExactReqOk", inPlace := ["internal/bytealg.IndexByteString", "internal/bytealg.IndexString"], unfollowed := true, recurses := true, named := ["internal/bytealg.MaxLen"], apart := false, narrowed := true }
def FnExactReqOkUptoSaid : Prop := fnExactReqOkUptoRow.holds Try.pinned (OpenSpec.upto fnExactReqOkSpec)

/-- 'laws.FnExactReqWrites', WHERE WHAT IT READS IS OF BULK AT MOST 1048576: true; the input reads as it did. -/
def fnExactReqWritesUptoRow : OpenClaim := { program := "ytjlpainieppfnaa", sum := "8cab0c781eb1298d9c93e15d8fbb3f29753285ca112448f3f0a3cfa89ed06b9c", func := "loop.example/chartulary/laws.FnExactReqWrites", spec := "fnExactReqWrites", apart := false, narrowed := true }
def FnExactReqWritesUptoSaid : Prop := fnExactReqWritesUptoRow.holds Try.pinned (OpenSpec.upto fnExactReqWritesSpec)

end Rows
end Go.Proofs.Ytjlpainieppfnaa
