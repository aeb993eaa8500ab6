
/-
  An argument that is a slice of numbers, laid open: it reads as a list of them. No condition.
-/
import Derived.Test.YtknbmgdfcejlkaaWalkInts
import Derived.OpenShut
import Derived.ShutString
import Derived.ChangeSlices
namespace Go.Proofs.Ytknbmgdfcejlkaa.W
open Go.ChangeShapes Go.WideShapes Go.RowKit

theorem cellsOfI : Try.prog.cellsOf 3 = 1 := by kernel_rfl
theorem open_I {H : Type} {enc : TypeId × Value → H} {W : World} {v : Value} {d : DataW H} {ps : List MemPlace} (hd : DataW.Trod enc Try.prog W 0 (fun _ => true) true 22 v d ps)
    (hv : ∃ a len cap, v = .slice a len cap) :
    ∃ A c L, v = .slice A (List.length L) c ∧ RdI W.heap.size W A L ∧ L.length ≤ maxLen ∧ ∀ j (_h : j < L.length), True := by
  obtain ⟨a0, len0, cap0, rfl⟩ := hv
  obtain ⟨fuel, hf⟩ := hd
  rcases open_ints Try.underlying22 Try.underlying3 cellsOfI hf with ⟨hcs, _⟩ | ⟨a, len, cap, zs, hcs, _, hl, hm, hz, _, hcell, _⟩
  · simp [Value.cells] at hcs
    obtain ⟨rfl, rfl, rfl⟩ := hcs
    exact ⟨none, 0, [], rfl, fun j h => by simp at h, by simp, fun j h => trivial⟩
  · simp [Value.cells] at hcs
    obtain ⟨rfl, rfl, rfl⟩ := hcs
    simp at hz
    have hlen : (zs.take len0).length = len0 := by simp; omega
    refine ⟨some a, cap0, zs.take len0, by rw [hlen], fun j hj => ?_, by rw [hlen]; omega, fun j h => trivial⟩
    rw [hlen] at hj
    obtain ⟨b, o, sp⟩ := a
    have hsp : sp = none := by
      have h0 := hcell 0 (by omega)
      simpa [Addr.add] using World.cell?_spot h0
    subst hsp
    have c0 := hcell j (by omega)
    have a0 : Addr.add ⟨b, o, none⟩ j = ⟨b, o + j, none⟩ := by unfold Addr.add; split <;> simp_all
    rw [a0] at c0
    refine ⟨b, o, rfl, World.block_lt_of_cell? _ _ c0, ?_⟩
    rw [c0]
    simp [List.getD, show j < zs.length by omega]
end Go.Proofs.Ytknbmgdfcejlkaa.W
