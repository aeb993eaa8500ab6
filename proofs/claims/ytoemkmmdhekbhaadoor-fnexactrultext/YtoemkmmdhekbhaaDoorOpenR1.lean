
/-
  An argument that is a RulRule, laid open. No condition.
-/
import Derived.Test.YtoemkmmdhekbhaaDoorRowR
import Derived.OpenShut
import Derived.ShutString
namespace Go.Proofs.YtoemkmmdhekbhaaDoor.W
open Go.ChangeShapes Go.WideShapes Go.RowKit

set_option maxRecDepth 100000 in
theorem open_r {H : Type} {enc : TypeId × Value → H} {W : World} {v : Value} {d : DataW H} {ps : List MemPlace} (hd : DataW.Trod enc Tryd.prog W 0 (fun _ => true) true 23 v d ps)
    (hv : ∃ cs, v = .agg cs ∧ cs.size = Tryd.prog.cellsOf 23) :
    ∃ x : RR, v = .agg #[.int .i64 x.user, .string x.ref, .string x.path, .bool x.write] ∧ x.ref.size ≤ maxLen ∧ x.path.size ≤ maxLen := by
  obtain ⟨cs, rfl, hs⟩ := hv
  have k4 : Tryd.prog.cellsOf 23 = 4 := by kernel_rfl
  rw [k4] at hs
  obtain ⟨fuel, hf⟩ := hd
  obtain ⟨xs, k, hk, hxy, _, hxl, hf⟩ := DataW.trod_struct Tryd.underlying23 hf
  obtain ⟨cl⟩ := cs
  match xs, hxl, cl, hs with
  | [y0, y1, y2, y3], _, [v0, v1, v2, v3], _ =>
    have g0 := hf 0 _ rfl
    have g1 := hf 1 _ rfl
    have g2 := hf 2 _ rfl
    have g3 := hf 3 _ rfl
    have kb : Tryd.prog.cellsOf 4 = 1 := by kernel_rfl
    have ki : Tryd.prog.cellsOf 3 = 1 := by kernel_rfl
    have ks : Tryd.prog.cellsOf 9 = 1 := by kernel_rfl
    simp [kb, ki, ks, Value.cells] at g0 g1 g2 g3
    obtain ⟨z0, q0, _, _⟩ := DataW.trod_int Tryd.underlying3 g0
    obtain ⟨z1, q1, _, s1⟩ := DataW.trod_string Tryd.underlying9 g1
    obtain ⟨z2, q2, _, s2⟩ := DataW.trod_string Tryd.underlying9 g2
    obtain ⟨z3, q3, _⟩ := DataW.trod_bool Tryd.underlying4 g3
    simp at q0 q1 q2 q3
    exact ⟨⟨z0, z1, z2, z3⟩, by rw [q0, q1, q2, q3], s1, s2⟩
end Go.Proofs.YtoemkmmdhekbhaaDoor.W
