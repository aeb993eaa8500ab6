
/-
  A request: what it is; the walks of the exact laws' own helpers 'sz', 'to' and 'eq' on it. No condition but those named.
-/
import Derived.Test.YtcdkjlbpcihcjaaRowE
import Derived.Test.YtcdkjlbpcihcjaaRowR
import Derived.Test.YtcdkjlbpcihcjaaWalkRul2
namespace Go.Proofs.Ytcdkjlbpcihcjaa.W
open Go.RowKit

structure RQ where
  user : Int
  key : Int
  repo : Int
  kind : Int
  ref : ByteArray
  path : ByteArray
  old : Int
  back : Int
  edits : List TE
  rule : RR
  from_ : Int
  other : ByteArray

/-- a request's cells, its edits at a place -/
def RQ.at_ (x : RQ) (v : Value) : Array Value := #[.int .i64 x.user, .int .i64 x.key, .int .i64 x.repo, .int .i64 x.kind, .string x.ref, .string x.path, .int .i64 x.old, .int .i64 x.back, v, .int .i64 x.rule.user, .string x.rule.ref, .string x.rule.path, .bool x.rule.write, .int .i64 x.from_, .string x.other]
/-- a request lies in a block -/
def AtQ (w : World) (b : Nat) (x : RQ) (v : Value) : Prop := ∀ i u, (x.at_ v)[i]? = some u → w.cell? ⟨b, i, none⟩ = some u
theorem AtQ.lt {w : World} {b : Nat} {x : RQ} {v : Value} (h : AtQ w b x v) : b < w.heap.size := World.block_lt_of_cell? _ _ (h 0 _ rfl)
theorem AtQ.below {w w' : World} {b B : Nat} {x : RQ} {v : Value} (h : AtQ w b x v) (hb : Below B w w') (hB : b < B) : AtQ w' b x v := fun i u e => (hb.cell (p := ⟨b, _, none⟩) hB).trans (h i u e)
theorem AtQ.up {w w' : World} {b : Nat} {x : RQ} {v : Value} (h : AtQ w b x v) (hb : Below w.heap.size w w') : AtQ w' b x v := h.below hb h.lt
theorem atQ_new (w : World) (x : RQ) (v : Value) (t : TypeId) : AtQ (w.alloc (.cells (x.at_ v) t)) w.heap.size x v := fun i u h => by simpa using h
theorem AtQ.all {w : World} {b : Nat} {x : RQ} {v : Value} (h : AtQ w b x v) : w.cell? ⟨b, 0, none⟩ = some (.int .i64 x.user) ∧ w.cell? ⟨b, 1, none⟩ = some (.int .i64 x.key) ∧ w.cell? ⟨b, 2, none⟩ = some (.int .i64 x.repo) ∧ w.cell? ⟨b, 3, none⟩ = some (.int .i64 x.kind) ∧ w.cell? ⟨b, 4, none⟩ = some (.string x.ref) ∧ w.cell? ⟨b, 5, none⟩ = some (.string x.path) ∧ w.cell? ⟨b, 6, none⟩ = some (.int .i64 x.old) ∧ w.cell? ⟨b, 7, none⟩ = some (.int .i64 x.back) ∧ w.cell? ⟨b, 8, none⟩ = some v ∧ w.cell? ⟨b, 9, none⟩ = some (.int .i64 x.rule.user) ∧ w.cell? ⟨b, 10, none⟩ = some (.string x.rule.ref) ∧ w.cell? ⟨b, 11, none⟩ = some (.string x.rule.path) ∧ w.cell? ⟨b, 12, none⟩ = some (.bool x.rule.write) ∧ w.cell? ⟨b, 13, none⟩ = some (.int .i64 x.from_) ∧ w.cell? ⟨b, 14, none⟩ = some (.string x.other) :=
  ⟨h 0 _ rfl, h 1 _ rfl, h 2 _ rfl, h 3 _ rfl, h 4 _ rfl, h 5 _ rfl, h 6 _ rfl, h 7 _ rfl, h 8 _ rfl, h 9 _ rfl, h 10 _ rfl, h 11 _ rfl, h 12 _ rfl, h 13 _ rfl, h 14 _ rfl⟩

/-- how much its texts need -/
def szQ (x : RQ) : Nat := x.ref.size + x.path.size + (x.edits.length + szE x.edits) + (x.rule.ref.size + x.rule.path.size) + x.other.size

end Go.Proofs.Ytcdkjlbpcihcjaa.W
