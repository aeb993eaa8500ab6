/-
  An argument that is a slice of items, laid open: it reads as a list of items. No condition.
  An argument that is a slice of numbers, laid open: it reads as a list of them. No condition.
  An argument of numbers, laid open: what it reads as, each number one that its kind has. No condition.
-/
import Derived.Test.YthfffpdkmoclbaaGreatDoorMg29
import Derived.OpenShut
import Derived.ShutString
import Derived.Deep.SlicePairs
import Derived.Test.YthfffpdkmoclbaaGreatDoorMg33
import Derived.ChangeSlices
namespace Go.Proofs.YthfffpdkmoclbaaGreatDoor.W
open Go.ChangeShapes Go.WideShapes Go.RowKit Go.Deep

theorem cellsPI : Tryz.prog.cellsOf 105 = 2 := by kernel_rfl
theorem open_P {H : Type} {enc : TypeId × Value → H} {W : World} {v : Value} {d : DataW H} {ps : List MemPlace} (hd : DataW.Trod enc Tryz.prog W 0 (fun _ => true) true 62 v d ps)
    (hv : ∃ a len cap, v = .slice a len cap) :
    ∃ A c L, v = .slice A (List.length L) c ∧ RdP W.heap.size W A L ∧ L.length ≤ maxLen ∧ ∀ j (h : j < L.length), (L[j]).tx.size ≤ maxLen := by
  obtain ⟨a0, len0, cap0, rfl⟩ := hv
  obtain ⟨fuel, hf⟩ := hd
  rcases open_slice_pairs Tryz.underlying62 Tryz.underlying105 cellsPI rfl rfl (by kernel_rfl) (by kernel_rfl) hf with ⟨hcs, _⟩ | ⟨a, len, cap, m, n, V0, V1, D0, D1, P0, P1, hcs, _, hl, hm, hmm, _, hx⟩
  · simp [Value.cells] at hcs
    obtain ⟨rfl, rfl, rfl⟩ := hcs
    exact ⟨none, 0, [], rfl, fun j h => by simp at h, by simp, fun j h => by simp at h⟩
  · simp [Value.cells] at hcs
    obtain ⟨rfl, rfl, rfl⟩ := hcs
    simp at hmm
    subst hmm
    have each : ∀ i, i < m → ∃ q : Int × ByteArray, W.cell? (a.add (i * 2)) = some (.int .i64 q.1) ∧ W.cell? (a.add (i * 2 + 1)) = some (.string q.2) ∧ q.2.size ≤ maxLen := fun i hi => by
      obtain ⟨c0, c1, t0, t1⟩ := hx i hi
      obtain ⟨z, e0, _, _⟩ := DataW.trod_int Tryz.underlying3 t0
      obtain ⟨s, e1, _, hs⟩ := DataW.trod_string Tryz.underlying9 t1
      simp at e0 e1
      exact ⟨(z, s), by rw [c0, e0], by rw [c1, e1], hs⟩
    obtain ⟨f, hfx⟩ := choose_lt each
    have hlen : ((List.range len0).map fun i => (⟨(f i).1, (f i).2⟩ : PI)).length = len0 := by simp
    refine ⟨some a, m, (List.range len0).map fun i => ⟨(f i).1, (f i).2⟩, by rw [hlen], fun j hj => ?_, by rw [hlen]; omega, fun j hj => ?_⟩
    · rw [hlen] at hj
      obtain ⟨b, o, sp⟩ := a
      have hsp : sp = none := by
        have h0 := (hfx 0 (by omega)).1
        simpa [Addr.add] using World.cell?_spot h0
      subst hsp
      obtain ⟨c0, c1, _⟩ := hfx j (by omega)
      have e0 : Addr.add ⟨b, o, none⟩ (j * 2) = ⟨b, o + j * 2, none⟩ := by unfold Addr.add; split <;> simp_all
      have e1 : Addr.add ⟨b, o, none⟩ (j * 2 + 1) = ⟨b, o + j * 2 + 1, none⟩ := by unfold Addr.add; simp; omega
      rw [e0] at c0; rw [e1] at c1
      exact ⟨b, o, rfl, World.block_lt_of_cell? _ _ c0, by simpa using c0, by simpa using c1⟩
    · rw [hlen] at hj
      simpa using (hfx j (by omega)).2.2
end Go.Proofs.YthfffpdkmoclbaaGreatDoor.W
namespace Go.Proofs.YthfffpdkmoclbaaGreatDoor.W
open Go.ChangeShapes Go.WideShapes Go.RowKit

theorem cellsOfI : Tryz.prog.cellsOf 3 = 1 := by kernel_rfl
theorem open_I {H : Type} {enc : TypeId × Value → H} {W : World} {v : Value} {d : DataW H} {ps : List MemPlace} (hd : DataW.Trod enc Tryz.prog W 0 (fun _ => true) true 41 v d ps)
    (hv : ∃ a len cap, v = .slice a len cap) :
    ∃ A c L, v = .slice A (List.length L) c ∧ RdI W.heap.size W A L ∧ L.length ≤ maxLen ∧ ∀ j (_h : j < L.length), True := by
  obtain ⟨a0, len0, cap0, rfl⟩ := hv
  obtain ⟨fuel, hf⟩ := hd
  rcases open_ints Tryz.underlying41 Tryz.underlying3 cellsOfI hf with ⟨hcs, _⟩ | ⟨a, len, cap, zs, hcs, _, hl, hm, hz, _, hcell, _⟩
  · simp [Value.cells] at hcs
    obtain ⟨rfl, rfl, rfl⟩ := hcs
    exact ⟨none, 0, [], rfl, fun j h => by simp at h, by simp, fun j h => trivial⟩
  · simp [Value.cells] at hcs
    obtain ⟨rfl, rfl, rfl⟩ := hcs
    simp at hz
    have hlen : (zs.take len0).length = len0 := by simp; omega
    refine ⟨some a, cap0, zs.take len0, by rw [hlen], fun j hj => ?_, by rw [hlen]; omega, fun j h => trivial⟩
    rw [hlen] at hj
    obtain ⟨b, o, sp⟩ := a
    have hsp : sp = none := by
      have h0 := hcell 0 (by omega)
      simpa [Addr.add] using World.cell?_spot h0
    subst hsp
    have c0 := hcell j (by omega)
    have a0 : Addr.add ⟨b, o, none⟩ j = ⟨b, o + j, none⟩ := by unfold Addr.add; split <;> simp_all
    rw [a0] at c0
    refine ⟨b, o, rfl, World.block_lt_of_cell? _ _ c0, ?_⟩
    rw [c0]
    simp [List.getD, show j < zs.length by omega]
end Go.Proofs.YthfffpdkmoclbaaGreatDoor.W
namespace Go.Proofs.YthfffpdkmoclbaaGreatDoor.W
open Go.ChangeShapes Go.WideShapes Go.RowKit

theorem open_J {H : Type} {enc : TypeId × Value → H} {W : World} {v : Value} {d : DataW H} {ps : List MemPlace} (hd : DataW.Trod enc Tryz.prog W 0 (fun _ => true) true 41 v d ps)
    (hv : ∃ a len cap, v = .slice a len cap) :
    ∃ A c L, v = .slice A (List.length L) c ∧ RdI W.heap.size W A L ∧ L.length ≤ maxLen ∧ ∀ j (_h : j < L.length), (Lit.int .i64 (L[j])).wf = true := by
  obtain ⟨a0, len0, cap0, rfl⟩ := hv
  obtain ⟨fuel, hf⟩ := hd
  rcases open_ints Tryz.underlying41 Tryz.underlying3 cellsOfI hf with ⟨hcs, _⟩ | ⟨a, len, cap, zs, hcs, _, hl, hm, hz, _, hcell, hwf⟩
  · simp [Value.cells] at hcs
    obtain ⟨rfl, rfl, rfl⟩ := hcs
    exact ⟨none, 0, [], rfl, fun j h => by simp at h, by simp, fun j h => by simp at h⟩
  · simp [Value.cells] at hcs
    obtain ⟨rfl, rfl, rfl⟩ := hcs
    simp at hz
    have hlen : (zs.take len0).length = len0 := by simp; omega
    refine ⟨some a, cap0, zs.take len0, by rw [hlen], fun j hj => ?_, by rw [hlen]; omega, fun j h => hwf _ (List.mem_of_mem_take (List.getElem_mem h))⟩
    rw [hlen] at hj
    obtain ⟨b, o, sp⟩ := a
    have hsp : sp = none := by
      have h0 := hcell 0 (by omega)
      simpa [Addr.add] using World.cell?_spot h0
    subst hsp
    have c0 := hcell j (by omega)
    have a0 : Addr.add ⟨b, o, none⟩ j = ⟨b, o + j, none⟩ := by unfold Addr.add; split <;> simp_all
    rw [a0] at c0
    refine ⟨b, o, rfl, World.block_lt_of_cell? _ _ c0, ?_⟩
    rw [c0]
    simp [List.getD, show j < zs.length by omega]
end Go.Proofs.YthfffpdkmoclbaaGreatDoor.W
