
/-
  An argument that is an AnsAnswer, laid open. No condition.
-/
import Derived.Test.YtfpchfmjgjlelaaDoorRowA
namespace Go.Proofs.YtfpchfmjgjlelaaDoor.W
open Go.ChangeShapes Go.WideShapes Go.RowKit Go.Deep

theorem listA {X : Type} {l : List X} (h : l.length = 4) : ∃ v0 v1 v2 v3, l = [v0, v1, v2, v3] := by
  match l, h with
  | [v0, v1, v2, v3], _ => exact ⟨v0, v1, v2, v3, rfl⟩
set_option maxRecDepth 100000 in
set_option maxHeartbeats 1000000 in
theorem open_a {H : Type} {enc : TypeId × Value → H} {W : World} {v : Value} {d : DataW H} {ps : List MemPlace} (hd : DataW.Trod enc Tryd.prog W 0 (fun _ => true) true 25 v d ps)
    (hv : ∃ cs, v = .agg cs ∧ cs.size = Tryd.prog.cellsOf 25) :
    ∃ (x : AN) (A : Option Addr) (c : Nat) (B : Option Addr) (e : Nat), v = .agg (x.at_ (.slice A x.files.length c) (.slice B x.names.length e)) ∧ RdF W.heap.size W A x.files ∧ RdS W.heap.size W B x.names ∧ fitA x := by
  obtain ⟨cs, rfl, hs⟩ := hv
  have k4 : Tryd.prog.cellsOf 25 = 4 := by kernel_rfl
  rw [k4] at hs
  obtain ⟨fuel, hf⟩ := hd
  obtain ⟨xs, k, hk, hxy, _, hxl, hf⟩ := DataW.trod_struct Tryd.underlying25 hf
  obtain ⟨cl⟩ := cs
  obtain ⟨v0, v1, v2, v3, rfl⟩ := listA (show cl.length = 4 from hs)
  obtain ⟨y0, y1, y2, y3, rfl⟩ := listA (show xs.length = 4 from hxl)
  have g0 := hf 0 _ rfl
  have g1 := hf 1 _ rfl
  have g2 := hf 2 _ rfl
  have g3 := hf 3 _ rfl
  clear hf hxy
  have ki : Tryd.prog.cellsOf 3 = 1 := by kernel_rfl
  have kf : Tryd.prog.cellsOf 22 = 1 := by kernel_rfl
  have ks : Tryd.prog.cellsOf 23 = 1 := by kernel_rfl
  simp [ki, kf, ks, Value.cells] at g0 g1 g2 g3
  obtain ⟨z0, q0, _, _⟩ := DataW.trod_int Tryd.underlying3 g0
  obtain ⟨z3, q3, _, _⟩ := DataW.trod_int Tryd.underlying3 g3
  have hv1 : ∃ a len cap, v1 = .slice a len cap := by
    rcases open_slice Tryd.underlying22 g1 with ⟨hcs, _⟩ | ⟨a, len, cap, m, n, D, Pl, hcs, _⟩
    · simp at hcs; exact ⟨_, _, _, hcs⟩
    · simp at hcs; exact ⟨_, _, _, hcs⟩
  have hd1 : DataW.Trod enc Tryd.prog W 0 (fun _ => true) true 22 v1 y1.1 y1.2 := by
    obtain ⟨a, len, cap, rfl⟩ := hv1
    exact ⟨_, by simpa [Value.cells] using g1⟩
  obtain ⟨A, c, L, hL, rd, n1, t1⟩ := open_F hd1 hv1
  have hv2 : ∃ a len cap, v2 = .slice a len cap := by
    rcases open_slice Tryd.underlying23 g2 with ⟨hcs, _⟩ | ⟨a, len, cap, m, n, D, Pl, hcs, _⟩
    · simp at hcs; exact ⟨_, _, _, hcs⟩
    · simp at hcs; exact ⟨_, _, _, hcs⟩
  have hd2 : DataW.Trod enc Tryd.prog W 0 (fun _ => true) true 23 v2 y2.1 y2.2 := by
    obtain ⟨a, len, cap, rfl⟩ := hv2
    exact ⟨_, by simpa [Value.cells] using g2⟩
  obtain ⟨B, e, N, hN, rs, n2, t2⟩ := open_S hd2 hv2
  simp at q0 q3
  exact ⟨⟨z0, L, N, z3⟩, A, c, B, e, by rw [q0, q3, hL, hN]; rfl, rd, rs, n1, t1, n2, t2⟩
end Go.Proofs.YtfpchfmjgjlelaaDoor.W
