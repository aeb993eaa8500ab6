
/-
  An argument that is a ReqReq, laid open. No condition.
-/
import Derived.Test.YtjlpainieppfnaaRowQ
import Derived.Test.YtjlpainieppfnaaOpenE
import Derived.Test.YtjlpainieppfnaaOpenR1
import Derived.OpenShut
import Derived.ShutString
namespace Go.Proofs.Ytjlpainieppfnaa.W
open Go.ChangeShapes Go.WideShapes Go.RowKit Go.Deep

theorem list15 {l : List Value} (h : l.length = 15) : ∃ v0 v1 v2 v3 v4 v5 v6 v7 v8 v9 v10 v11 v12 v13 v14, l = [v0, v1, v2, v3, v4, v5, v6, v7, v8, v9, v10, v11, v12, v13, v14] := by
  match l, h with
  | [v0, v1, v2, v3, v4, v5, v6, v7, v8, v9, v10, v11, v12, v13, v14], _ => exact ⟨v0, v1, v2, v3, v4, v5, v6, v7, v8, v9, v10, v11, v12, v13, v14, rfl⟩
theorem list12 {X : Type} {l : List X} (h : l.length = 12) : ∃ v0 v1 v2 v3 v4 v5 v6 v7 v8 v9 v10 v11, l = [v0, v1, v2, v3, v4, v5, v6, v7, v8, v9, v10, v11] := by
  match l, h with
  | [v0, v1, v2, v3, v4, v5, v6, v7, v8, v9, v10, v11], _ => exact ⟨v0, v1, v2, v3, v4, v5, v6, v7, v8, v9, v10, v11, rfl⟩
theorem list4 {X : Type} {l : List X} (h : l.length = 4) : ∃ v0 v1 v2 v3, l = [v0, v1, v2, v3] := by
  match l, h with
  | [v0, v1, v2, v3], _ => exact ⟨v0, v1, v2, v3, rfl⟩

set_option maxRecDepth 100000 in
set_option maxHeartbeats 1000000 in
theorem open_q {H : Type} {enc : TypeId × Value → H} {W : World} {v : Value} {d : DataW H} {ps : List MemPlace} (hd : DataW.Trod enc Try.prog W 0 (fun _ => true) true 34 v d ps)
    (hv : ∃ cs, v = .agg cs ∧ cs.size = Try.prog.cellsOf 34) :
    ∃ (x : RQ) (A : Option Addr) (c : Nat), v = .agg (x.at_ (.slice A x.edits.length c)) ∧ RdE W.heap.size W A x.edits ∧ fitQ x := by
  obtain ⟨cs, rfl, hs⟩ := hv
  have k15 : Try.prog.cellsOf 34 = 15 := by kernel_rfl
  rw [k15] at hs
  obtain ⟨fuel, hf⟩ := hd
  obtain ⟨xs, k, hk, hxy, _, hxl, hf⟩ := DataW.trod_struct Try.underlying34 hf
  obtain ⟨cl⟩ := cs
  obtain ⟨v0, v1, v2, v3, v4, v5, v6, v7, v8, v9, v10, v11, v12, v13, v14, rfl⟩ := list15 (show cl.length = 15 from hs)
  obtain ⟨y0, y1, y2, y3, y4, y5, y6, y7, y8, y9, y10, y11, rfl⟩ := list12 (show xs.length = 12 from hxl)
  have g0 := hf 0 _ rfl
  have g1 := hf 1 _ rfl
  have g2 := hf 2 _ rfl
  have g3 := hf 3 _ rfl
  have g4 := hf 4 _ rfl
  have g5 := hf 5 _ rfl
  have g6 := hf 6 _ rfl
  have g7 := hf 7 _ rfl
  have g8 := hf 8 _ rfl
  have g9 := hf 9 _ rfl
  have g10 := hf 10 _ rfl
  have g11 := hf 11 _ rfl
  clear hf hxy
  have kb : Try.prog.cellsOf 4 = 1 := by kernel_rfl
  have ki : Try.prog.cellsOf 3 = 1 := by kernel_rfl
  have ks : Try.prog.cellsOf 9 = 1 := by kernel_rfl
  have kr : Try.prog.cellsOf 32 = 4 := by kernel_rfl
  have ke : Try.prog.cellsOf 31 = 1 := by kernel_rfl
  simp [ki, ks, kr, ke, Value.cells] at g0 g1 g2 g3 g4 g5 g6 g7 g8 g9 g10 g11
  obtain ⟨z0, q0, _, _⟩ := DataW.trod_int Try.underlying3 g0
  obtain ⟨z1, q1, _, _⟩ := DataW.trod_int Try.underlying3 g1
  obtain ⟨z2, q2, _, _⟩ := DataW.trod_int Try.underlying3 g2
  obtain ⟨z3, q3, _, _⟩ := DataW.trod_int Try.underlying3 g3
  obtain ⟨z4, q4, _, s4⟩ := DataW.trod_string Try.underlying9 g4
  obtain ⟨z5, q5, _, s5⟩ := DataW.trod_string Try.underlying9 g5
  obtain ⟨z6, q6, _, _⟩ := DataW.trod_int Try.underlying3 g6
  obtain ⟨z7, q7, _, _⟩ := DataW.trod_int Try.underlying3 g7
  obtain ⟨z10, q10, _, _⟩ := DataW.trod_int Try.underlying3 g10
  obtain ⟨z11, q11, _, s11⟩ := DataW.trod_string Try.underlying9 g11
  have hv8 : ∃ a len cap, v8 = .slice a len cap := by
    rcases open_slice Try.underlying31 g8 with ⟨hcs, _⟩ | ⟨a, len, cap, m, n, D, Pl, hcs, _⟩
    · simp at hcs; exact ⟨_, _, _, hcs⟩
    · simp at hcs; exact ⟨_, _, _, hcs⟩
  have hd8 : DataW.Trod enc Try.prog W 0 (fun _ => true) true 31 v8 y8.1 y8.2 := by
    obtain ⟨a, len, cap, rfl⟩ := hv8
    exact ⟨_, by simpa [Value.cells] using g8⟩
  obtain ⟨A, c, L, hL, rd, n8, t8⟩ := open_E hd8 hv8
  obtain ⟨ws, k', hk', hwy, _, hwl, hg⟩ := DataW.trod_struct Try.underlying32 g9
  obtain ⟨u0, u1, u2, u3, rfl⟩ := list4 (show ws.length = 4 from hwl)
  have f0 := hg 0 _ rfl
  have f1 := hg 1 _ rfl
  have f2 := hg 2 _ rfl
  have f3 := hg 3 _ rfl
  clear hg hwy
  simp [ki, ks, kb] at f0 f1 f2 f3
  obtain ⟨a0, b0, _, _⟩ := DataW.trod_int Try.underlying3 f0
  obtain ⟨a1, b1, _, c1⟩ := DataW.trod_string Try.underlying9 f1
  obtain ⟨a2, b2, _, c2⟩ := DataW.trod_string Try.underlying9 f2
  obtain ⟨a3, b3, _⟩ := DataW.trod_bool Try.underlying4 f3
  simp at q0 q1 q2 q3 q4 q5 q6 q7 q10 q11 b0 b1 b2 b3
  exact ⟨⟨z0, z1, z2, z3, z4, z5, z6, z7, L, ⟨a0, a1, a2, a3⟩, z10, z11⟩, A, c, by rw [q0, q1, q2, q3, q4, q5, q6, q7, q10, q11, b0, b1, b2, b3, hL]; rfl, rd, s4, s5, n8, t8, ⟨c1, c2⟩, s11⟩
end Go.Proofs.Ytjlpainieppfnaa.W
