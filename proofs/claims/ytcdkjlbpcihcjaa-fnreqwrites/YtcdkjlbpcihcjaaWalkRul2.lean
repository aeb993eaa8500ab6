
/-
  How much a rule's texts need: the exact laws' own 'szRulRule', either way. No condition but those named.
-/
import Derived.Test.YtcdkjlbpcihcjaaRowR
namespace Go.Proofs.Ytcdkjlbpcihcjaa.W
open Go.RowKit

/-- a rule lies in a block -/
def AtR (w : World) (b : Nat) (x : RR) : Prop := w.cell? ⟨b, 0, none⟩ = some (.int .i64 x.user) ∧ w.cell? ⟨b, 1, none⟩ = some (.string x.ref) ∧ w.cell? ⟨b, 2, none⟩ = some (.string x.path) ∧ w.cell? ⟨b, 3, none⟩ = some (.bool x.write)
theorem AtR.lt {w : World} {b : Nat} {x : RR} (h : AtR w b x) : b < w.heap.size := World.block_lt_of_cell? _ _ h.1
theorem AtR.up {w w' : World} {b : Nat} {x : RR} (h : AtR w b x) (hb : Below w.heap.size w w') : AtR w' b x :=
  ⟨(hb.cell (p := ⟨b, _, none⟩) h.lt).trans h.1, (hb.cell (p := ⟨b, _, none⟩) h.lt).trans h.2.1, (hb.cell (p := ⟨b, _, none⟩) h.lt).trans h.2.2.1, (hb.cell (p := ⟨b, _, none⟩) h.lt).trans h.2.2.2⟩
theorem atR_new (w : World) (x : RR) (t : TypeId) : AtR (w.alloc (.cells #[.int .i64 x.user, .string x.ref, .string x.path, .bool x.write] t)) w.heap.size x := by simp [AtR]
theorem AtR.below {w w' : World} {b B : Nat} {x : RR} (h : AtR w b x) (hb : Below B w w') (hB : b < B) : AtR w' b x :=
  ⟨(hb.cell (p := ⟨b, _, none⟩) hB).trans h.1, (hb.cell (p := ⟨b, _, none⟩) hB).trans h.2.1, (hb.cell (p := ⟨b, _, none⟩) hB).trans h.2.2.1, (hb.cell (p := ⟨b, _, none⟩) hB).trans h.2.2.2⟩
theorem AtR.kept {w w' : World} {b : Nat} {x : RR} {row : Option Nat} (h : AtR w b x) (hg : w.grownBy w' row) (hne : row ≠ some b) : AtR w' b x := by
  have hb : w'.heap[b]? = w.heap[b]? := hg.block b h.lt (fun e => hne e.symm)
  have e : ∀ i, w'.cell? ⟨b, i, none⟩ = w.cell? ⟨b, i, none⟩ := fun i => by
    unfold World.cell?; simp only [hb]
  exact ⟨(e _).trans h.1, (e _).trans h.2.1, (e _).trans h.2.2.1, (e _).trans h.2.2.2⟩
theorem ownNe {w : World} {B b : Nat} {e : TypeId} {z n : Nat} {v : Value} {xs : List Value} (o : w.ownsRow B e z v n xs) (hb : b < B) : v.ownBlock ≠ some b := fun h => by
  have := (o.lt b h).1; omega
end Go.Proofs.Ytcdkjlbpcihcjaa.W
