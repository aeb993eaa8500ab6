
/-
  An argument that is a slice of HseLine, laid open: it reads as a list of them. No condition. (Written by genstruct.py.)
-/
import Derived.Test.YtcaimlbibhaigaaRowH
import Derived.OpenShut
import Derived.ShutString
import Derived.Deep.SlicePairs
namespace Go.Proofs.Ytcaimlbibhaigaa.W
open Go.ChangeShapes Go.WideShapes Go.RowKit Go.Deep

theorem cellsOfH : Try.prog.cellsOf 33 = 4 := by kernel_rfl
theorem open_H {H : Type} {enc : TypeId × Value → H} {W : World} {v : Value} {d : DataW H} {ps : List MemPlace} (hd : DataW.Trod enc Try.prog W 0 (fun _ => true) true 22 v d ps)
    (hv : ∃ a len cap, v = .slice a len cap) :
    ∃ A c L, v = .slice A (List.length L) c ∧ RdH W.heap.size W A L ∧ L.length ≤ maxLen ∧ ∀ j (_h : j < L.length), True := by
  obtain ⟨a0, len0, cap0, rfl⟩ := hv
  obtain ⟨fuel, hf⟩ := hd
  rcases open_slice Try.underlying22 hf with ⟨hcs, _⟩ | ⟨a, len, cap, m, n, D, Pl, hcs, _, hl, hm, hmm, _, hx⟩
  · simp [Value.cells] at hcs
    obtain ⟨rfl, rfl, rfl⟩ := hcs
    exact ⟨none, 0, [], rfl, fun j h => by simp at h, by simp, fun j h => by simp at h⟩
  · simp [Value.cells] at hcs
    obtain ⟨rfl, rfl, rfl⟩ := hcs
    simp at hmm
    subst hmm
    have each : ∀ i, i < m → ∃ q : Int × Int × Int × Int, W.cell? (a.add (i * 4)) = some (.int .i64 q.1) ∧ W.cell? (a.add (i * 4 + 1)) = some (.int .i64 q.2.1) ∧ W.cell? (a.add (i * 4 + 2)) = some (.int .i64 q.2.2.1) ∧ W.cell? (a.add (i * 4 + 3)) = some (.int .i64 q.2.2.2) := fun i hi => by
      obtain ⟨cs', h1, h2⟩ := hx i hi
      rw [cellsOfH] at h1
      obtain ⟨_, hlen, hcell⟩ := World.cells?_some h1
      obtain ⟨xs, k, hk, hxy, _, hxl, hf⟩ := DataW.trod_struct Try.underlying33 h2
      match xs, hxl, cs', hlen with
      | [y0, y1, y2, y3], _, [v0, v1, v2, v3], _ =>
        have g0 := hf 0 _ rfl
        have e0 := hcell 0 (by omega)
        have g1 := hf 1 _ rfl
        have e1 := hcell 1 (by omega)
        have g2 := hf 2 _ rfl
        have e2 := hcell 2 (by omega)
        have g3 := hf 3 _ rfl
        have e3 := hcell 3 (by omega)
        rw [add_add] at e0 e1 e2 e3
        have ki : Try.prog.cellsOf 3 = 1 := by kernel_rfl
        simp [ki] at g0 g1 g2 g3
        obtain ⟨z0, q0, _, _⟩ := DataW.trod_int Try.underlying3 g0
        obtain ⟨z1, q1, _, _⟩ := DataW.trod_int Try.underlying3 g1
        obtain ⟨z2, q2, _, _⟩ := DataW.trod_int Try.underlying3 g2
        obtain ⟨z3, q3, _, _⟩ := DataW.trod_int Try.underlying3 g3
        simp at q0 q1 q2 q3
        exact ⟨(z0, z1, z2, z3), by simpa [q0] using e0, by simpa [q1] using e1, by simpa [q2] using e2, by simpa [q3] using e3⟩
    obtain ⟨f, hfx⟩ := choose_lt each
    have hlen : ((List.range len0).map fun i => (⟨(f i).1, (f i).2.1, (f i).2.2.1, (f i).2.2.2⟩ : LN)).length = len0 := by simp
    refine ⟨some a, m, (List.range len0).map fun i => ⟨(f i).1, (f i).2.1, (f i).2.2.1, (f i).2.2.2⟩, by rw [hlen], fun j hj => ?_, by rw [hlen]; omega, fun j hj => ?_⟩
    · rw [hlen] at hj
      obtain ⟨b, o, sp⟩ := a
      have hsp : sp = none := by
        have h0 := (hfx 0 (by omega)).1
        simpa [Addr.add] using World.cell?_spot h0
      subst hsp
      obtain ⟨c0, c1, c2, c3⟩ := hfx j (by omega)
      have a0 : Addr.add ⟨b, o, none⟩ (j * 4) = ⟨b, o + j * 4, none⟩ := by unfold Addr.add; split <;> simp_all
      have a1 : Addr.add ⟨b, o, none⟩ (j * 4 + 1) = ⟨b, o + j * 4 + 1, none⟩ := by unfold Addr.add; simp; omega
      have a2 : Addr.add ⟨b, o, none⟩ (j * 4 + 2) = ⟨b, o + j * 4 + 2, none⟩ := by unfold Addr.add; simp; omega
      have a3 : Addr.add ⟨b, o, none⟩ (j * 4 + 3) = ⟨b, o + j * 4 + 3, none⟩ := by unfold Addr.add; simp; omega
      rw [a0] at c0; rw [a1] at c1; rw [a2] at c2; rw [a3] at c3
      exact ⟨b, o, rfl, World.block_lt_of_cell? _ _ c0, by simpa using c0, by simpa using c1, by simpa using c2, by simpa using c3⟩
    · rw [hlen] at hj
      trivial
end Go.Proofs.Ytcaimlbibhaigaa.W
