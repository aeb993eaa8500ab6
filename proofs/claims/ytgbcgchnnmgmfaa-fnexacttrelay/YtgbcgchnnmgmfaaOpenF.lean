
/-
  An argument that is a slice of TreFile, laid open: it reads as a list of them. No condition. (Written by genstruct.py.)
-/
import Derived.Test.YtgbcgchnnmgmfaaRowF
import Derived.OpenShut
import Derived.ShutString
import Derived.Deep.SlicePairs
namespace Go.Proofs.Ytgbcgchnnmgmfaa.W
open Go.ChangeShapes Go.WideShapes Go.RowKit Go.Deep

theorem cellsOfF : Try.prog.cellsOf 36 = 2 := by kernel_rfl
set_option maxRecDepth 100000 in
theorem open_F {H : Type} {enc : TypeId × Value → H} {W : World} {v : Value} {d : DataW H} {ps : List MemPlace} (hd : DataW.Trod enc Try.prog W 0 (fun _ => true) true 22 v d ps)
    (hv : ∃ a len cap, v = .slice a len cap) :
    ∃ A c L, v = .slice A (List.length L) c ∧ RdF W.heap.size W A L ∧ L.length ≤ maxLen ∧ ∀ j (h : j < L.length), (L[j]).pa.size ≤ maxLen ∧ (L[j]).by_.size ≤ maxLen := by
  obtain ⟨a0, len0, cap0, rfl⟩ := hv
  obtain ⟨fuel, hf⟩ := hd
  rcases open_slice Try.underlying22 hf with ⟨hcs, _⟩ | ⟨a, len, cap, m, n, D, Pl, hcs, _, hl, hm, hmm, _, hx⟩
  · simp [Value.cells] at hcs
    obtain ⟨rfl, rfl, rfl⟩ := hcs
    exact ⟨none, 0, [], rfl, fun j h => by simp at h, by simp, fun j h => by simp at h⟩
  · simp [Value.cells] at hcs
    obtain ⟨rfl, rfl, rfl⟩ := hcs
    simp at hmm
    subst hmm
    have each : ∀ i, i < m → ∃ q : ByteArray × ByteArray, W.cell? (a.add (i * 2)) = some (.string q.1) ∧ W.cell? (a.add (i * 2 + 1)) = some (.string q.2) ∧ q.1.size ≤ maxLen ∧ q.2.size ≤ maxLen := fun i hi => by
      obtain ⟨cs', h1, h2⟩ := hx i hi
      rw [cellsOfF] at h1
      obtain ⟨_, hlen, hcell⟩ := World.cells?_some h1
      obtain ⟨xs, k, hk, hxy, _, hxl, hf⟩ := DataW.trod_struct Try.underlying36 h2
      match xs, hxl, cs', hlen with
      | [y0, y1], _, [v0, v1], _ =>
        have g0 := hf 0 _ rfl
        have e0 := hcell 0 (by omega)
        have g1 := hf 1 _ rfl
        have e1 := hcell 1 (by omega)
        rw [add_add] at e0 e1
        have ks : Try.prog.cellsOf 9 = 1 := by kernel_rfl
        simp [ks] at g0 g1
        obtain ⟨z0, q0, _, s0⟩ := DataW.trod_string Try.underlying9 g0
        obtain ⟨z1, q1, _, s1⟩ := DataW.trod_string Try.underlying9 g1
        simp at q0 q1
        exact ⟨(z0, z1), by simpa [q0] using e0, by simpa [q1] using e1, s0, s1⟩
    obtain ⟨f, hfx⟩ := choose_lt each
    have hlen : ((List.range len0).map fun i => (⟨(f i).1, (f i).2⟩ : TF)).length = len0 := by simp
    refine ⟨some a, m, (List.range len0).map fun i => ⟨(f i).1, (f i).2⟩, by rw [hlen], fun j hj => ?_, by rw [hlen]; omega, fun j hj => ?_⟩
    · rw [hlen] at hj
      obtain ⟨b, o, sp⟩ := a
      have hsp : sp = none := by
        have h0 := (hfx 0 (by omega)).1
        simpa [Addr.add] using World.cell?_spot h0
      subst hsp
      obtain ⟨c0, c1, _⟩ := hfx j (by omega)
      have a0 : Addr.add ⟨b, o, none⟩ (j * 2) = ⟨b, o + j * 2, none⟩ := by unfold Addr.add; split <;> simp_all
      have a1 : Addr.add ⟨b, o, none⟩ (j * 2 + 1) = ⟨b, o + j * 2 + 1, none⟩ := by unfold Addr.add; simp; omega
      rw [a0] at c0; rw [a1] at c1
      exact ⟨b, o, rfl, World.block_lt_of_cell? _ _ c0, by simpa using c0, by simpa using c1⟩
    · rw [hlen] at hj
      simpa using (hfx j (by omega)).2.2
end Go.Proofs.Ytgbcgchnnmgmfaa.W
