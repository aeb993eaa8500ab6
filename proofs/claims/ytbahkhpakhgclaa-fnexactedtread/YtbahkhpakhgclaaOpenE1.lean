
/-
  An argument that is a TreEdit, laid open; how much its texts need; an edit that lies in a block. No condition.
-/
import Derived.Test.YtbahkhpakhgclaaRowE
import Derived.OpenShut
import Derived.ShutString
namespace Go.Proofs.Ytbahkhpakhgclaa.W
open Go.ChangeShapes Go.WideShapes Go.RowKit

set_option maxRecDepth 100000 in
theorem open_e {H : Type} {enc : TypeId × Value → H} {W : World} {v : Value} {d : DataW H} {ps : List MemPlace} (hd : DataW.Trod enc Try.prog W 0 (fun _ => true) true 31 v d ps)
    (hv : ∃ cs, v = .agg cs ∧ cs.size = Try.prog.cellsOf 31) :
    ∃ x : TE, v = .agg #[.string x.pa, .string x.by_, .bool x.gone] ∧ x.pa.size ≤ maxLen ∧ x.by_.size ≤ maxLen := by
  obtain ⟨cs, rfl, hs⟩ := hv
  have k3 : Try.prog.cellsOf 31 = 3 := by kernel_rfl
  rw [k3] at hs
  obtain ⟨fuel, hf⟩ := hd
  obtain ⟨xs, k, hk, hxy, _, hxl, hf⟩ := DataW.trod_struct Try.underlying31 hf
  obtain ⟨cl⟩ := cs
  match xs, hxl, cl, hs with
  | [y0, y1, y2], _, [v0, v1, v2], _ =>
    have g0 := hf 0 _ rfl
    have g1 := hf 1 _ rfl
    have g2 := hf 2 _ rfl
    have kb : Try.prog.cellsOf 4 = 1 := by kernel_rfl
    have ks : Try.prog.cellsOf 9 = 1 := by kernel_rfl
    simp [kb, ks, Value.cells] at g0 g1 g2
    obtain ⟨z0, q0, _, s0⟩ := DataW.trod_string Try.underlying9 g0
    obtain ⟨z1, q1, _, s1⟩ := DataW.trod_string Try.underlying9 g1
    obtain ⟨z2, q2, _⟩ := DataW.trod_bool Try.underlying4 g2
    simp at q0 q1 q2
    exact ⟨⟨z0, z1, z2⟩, by rw [q0, q1, q2], s0, s1⟩
theorem szE1_any (x : TE) (left : Nat) (w : World) (hl : left ≤ 1048576) (hm : x.pa.size ≤ maxLen ∧ x.by_.size ≤ maxLen) :
    Calls Try.prog 12 #[.agg #[.string x.pa, .string x.by_, .bool x.gone], .int .i64 left] w fun e w' => (∃ r : Int, e = .returned (.int .i64 r) ∧ (r < 0 ∨ (¬ r < 0 ∧ x.pa.size + x.by_.size ≤ left))) ∧ Below w.heap.size w w' := by
  by_cases h : x.pa.size + x.by_.size ≤ left
  · refine (szTreEdit_fits _ _ _ left w hl h).mono ?_
    rintro e w' ⟨rfl, hb⟩
    exact ⟨⟨_, rfl, Or.inr ⟨by omega, h⟩⟩, hb⟩
  · refine (szTreEdit_over _ _ _ left w hl hm.1 hm.2 (by omega)).mono ?_
    rintro e w' ⟨rfl, hb⟩
    exact ⟨⟨_, rfl, Or.inl (by decide)⟩, hb⟩
/-- an edit lies in a block -/
def AtE (w : World) (b : Nat) (x : TE) : Prop := w.cell? ⟨b, 0, none⟩ = some (.string x.pa) ∧ w.cell? ⟨b, 1, none⟩ = some (.string x.by_) ∧ w.cell? ⟨b, 2, none⟩ = some (.bool x.gone)
theorem AtE.lt {w : World} {b : Nat} {x : TE} (h : AtE w b x) : b < w.heap.size := World.block_lt_of_cell? _ _ h.1
theorem AtE.up {w w' : World} {b : Nat} {x : TE} (h : AtE w b x) (hb : Below w.heap.size w w') : AtE w' b x :=
  ⟨(hb.cell (p := ⟨b, _, none⟩) h.lt).trans h.1, (hb.cell (p := ⟨b, _, none⟩) h.lt).trans h.2.1, (hb.cell (p := ⟨b, _, none⟩) h.lt).trans h.2.2⟩
theorem atE_new (w : World) (x : TE) (t : TypeId) : AtE (w.alloc (.cells #[.string x.pa, .string x.by_, .bool x.gone] t)) w.heap.size x := by simp [AtE]
end Go.Proofs.Ytbahkhpakhgclaa.W
