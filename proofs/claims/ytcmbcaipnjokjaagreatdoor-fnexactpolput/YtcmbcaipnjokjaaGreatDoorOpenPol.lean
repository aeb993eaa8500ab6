
/-
  An argument that is a slice of items, laid open: it reads as a list of items. No condition.
-/
import Derived.Test.YtcmbcaipnjokjaaGreatDoorWalkPol
import Derived.OpenShut
import Derived.ShutString
import Derived.Deep.SlicePairs
namespace Go.Proofs.YtcmbcaipnjokjaaGreatDoor.W
open Go.ChangeShapes Go.WideShapes Go.RowKit Go.Deep

theorem cellsPI : Tryz.prog.cellsOf 46 = 2 := by kernel_rfl
theorem open_P {H : Type} {enc : TypeId × Value → H} {W : World} {v : Value} {d : DataW H} {ps : List MemPlace} (hd : DataW.Trod enc Tryz.prog W 0 (fun _ => true) true 22 v d ps)
    (hv : ∃ a len cap, v = .slice a len cap) :
    ∃ A c L, v = .slice A (List.length L) c ∧ RdP W.heap.size W A L ∧ L.length ≤ maxLen ∧ ∀ j (h : j < L.length), (L[j]).tx.size ≤ maxLen := by
  obtain ⟨a0, len0, cap0, rfl⟩ := hv
  obtain ⟨fuel, hf⟩ := hd
  rcases open_slice_pairs Tryz.underlying22 Tryz.underlying46 cellsPI rfl rfl (by kernel_rfl) (by kernel_rfl) hf with ⟨hcs, _⟩ | ⟨a, len, cap, m, n, V0, V1, D0, D1, P0, P1, hcs, _, hl, hm, hmm, _, hx⟩
  · simp [Value.cells] at hcs
    obtain ⟨rfl, rfl, rfl⟩ := hcs
    exact ⟨none, 0, [], rfl, fun j h => by simp at h, by simp, fun j h => by simp at h⟩
  · simp [Value.cells] at hcs
    obtain ⟨rfl, rfl, rfl⟩ := hcs
    simp at hmm
    subst hmm
    have each : ∀ i, i < m → ∃ q : Int × ByteArray, W.cell? (a.add (i * 2)) = some (.int .i64 q.1) ∧ W.cell? (a.add (i * 2 + 1)) = some (.string q.2) ∧ q.2.size ≤ maxLen := fun i hi => by
      obtain ⟨c0, c1, t0, t1⟩ := hx i hi
      obtain ⟨z, e0, _, _⟩ := DataW.trod_int Tryz.underlying3 t0
      obtain ⟨s, e1, _, hs⟩ := DataW.trod_string Tryz.underlying9 t1
      simp at e0 e1
      exact ⟨(z, s), by rw [c0, e0], by rw [c1, e1], hs⟩
    obtain ⟨f, hfx⟩ := choose_lt each
    have hlen : ((List.range len0).map fun i => (⟨(f i).1, (f i).2⟩ : PI)).length = len0 := by simp
    refine ⟨some a, m, (List.range len0).map fun i => ⟨(f i).1, (f i).2⟩, by rw [hlen], fun j hj => ?_, by rw [hlen]; omega, fun j hj => ?_⟩
    · rw [hlen] at hj
      obtain ⟨b, o, sp⟩ := a
      have hsp : sp = none := by
        have h0 := (hfx 0 (by omega)).1
        simpa [Addr.add] using World.cell?_spot h0
      subst hsp
      obtain ⟨c0, c1, _⟩ := hfx j (by omega)
      have e0 : Addr.add ⟨b, o, none⟩ (j * 2) = ⟨b, o + j * 2, none⟩ := by unfold Addr.add; split <;> simp_all
      have e1 : Addr.add ⟨b, o, none⟩ (j * 2 + 1) = ⟨b, o + j * 2 + 1, none⟩ := by unfold Addr.add; simp; omega
      rw [e0] at c0; rw [e1] at c1
      exact ⟨b, o, rfl, World.block_lt_of_cell? _ _ c0, by simpa using c0, by simpa using c1⟩
    · rw [hlen] at hj
      simpa using (hfx j (by omega)).2.2
end Go.Proofs.YtcmbcaipnjokjaaGreatDoor.W
