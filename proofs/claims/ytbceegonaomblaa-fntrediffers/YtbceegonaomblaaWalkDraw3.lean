
/-
  The walks of 'l20Open' and of the draws of chapters 1 and 2: some texts of at most 200 bytes; of what lay nothing has turned.
-/
import Derived.Test.YtbceegonaomblaaWalkDraw2
import Derived.Deep.RegionWith
import Derived.OpenShut
namespace Go.Proofs.Ytbceegonaomblaa.W
open Go.RowKit Go.Proofs.Ytbceegonaomblaa.M

/-- bytes that are there to be read -/
def Src (w : World) (a : Option Addr) (len cap : Nat) (zs : Nat → Int) : Prop :=
  len = 0 ∨ ∃ b off, a = some ⟨b, off, none⟩ ∧ len ≤ cap ∧ cap ≤ 9223372036854775807 ∧ b < w.heap.size ∧ ∀ i, i < len → w.cell? ⟨b, off + i, none⟩ = some (.int .u8 (zs i)) ∧ 0 ≤ zs i ∧ zs i ≤ 255

theorem Src.below {w w' : World} {a : Option Addr} {len cap : Nat} {zs : Nat → Int} (h : Src w a len cap zs) (hb : Below w.heap.size w w') : Src w' a len cap zs := by
  rcases h with h | ⟨b, off, e, h1, h2, h3, h4⟩
  · exact .inl h
  · refine .inr ⟨b, off, e, h1, h2, Nat.lt_of_lt_of_le h3 hb.size, fun i hi => ?_⟩
    obtain ⟨hz, hz0, hz1⟩ := h4 i hi
    exact ⟨(hb.cell (p := ⟨b, off + i, none⟩) h3).trans hz, hz0, hz1⟩

theorem cell_lt {w : World} {b o : Nat} {v : Value} (h : w.cell? ⟨b, o, none⟩ = some v) : b < w.heap.size := by
  rcases Nat.lt_or_ge b w.heap.size with h' | h'
  · exact h'
  · have : w.heap[b]? = none := Array.getElem?_eq_none h'
    simp [World.cell?, this] at h
theorem addN (b off i : Nat) : (⟨b, off, none⟩ : Addr).add i = ⟨b, off + i, none⟩ := by unfold Addr.add; split <;> simp_all
theorem src_of (w : World) (a : Option Addr) (len cap : Nat) (zs : List Int)
    (h : (a = none ∧ len = 0 ∧ cap = 0 ∧ zs = []) ∨ ∃ x, a = some x ∧ len ≤ cap ∧ cap ≤ maxLen ∧ zs.length = cap ∧ (∀ i, i < zs.length → w.cell? (x.add i) = some (.int .u8 (zs.getD i 0))) ∧ ∀ n ∈ zs, (Lit.int .u8 n).wf = true) :
    Src w a len cap (fun i => zs.getD i 0) := by
  rcases h with ⟨_, h0, _, _⟩ | ⟨x, rfl, hl, hm, hz, hcell, hwz⟩
  · exact .inl h0
  · by_cases h0 : len = 0
    · exact .inl h0
    · obtain ⟨b, off, spot⟩ := x
      have hc := hcell 0 (by omega)
      have hspot : spot = none := by simpa [Addr.add] using World.cell?_spot hc
      subst hspot
      have hc0 : w.cell? ⟨b, off, none⟩ = some (.int .u8 (zs.getD 0 0)) := by simpa [Addr.add] using hc
      refine .inr ⟨b, off, rfl, hl, hm, cell_lt hc0, fun i hi => ⟨?_, ?_⟩⟩
      · have := hcell i (by omega); rwa [addN] at this
      · have hmem : zs.getD i 0 ∈ zs := by
          rw [List.getD_eq_getElem?_getD, List.getElem?_eq_getElem (by omega)]; exact List.getElem_mem _
        have hw := hwz _ hmem
        exact bounds_u8 hw

set_option maxHeartbeats 400000 in
theorem open_any (w : World) (a : Option Addr) (len cap : Nat) (zs : Nat → Int) (h : Src w a len cap zs) :
    Calls Try.prog 22 #[.slice a len cap] w fun e w' => ∃ a' len' cap', e = .returned (.pointer (some ⟨w.heap.size, 0, none⟩)) ∧ Rd w' w.heap.size 0 a' len' cap' zs ∧ w.heap.size < w'.heap.size ∧ w.grownBy w' none := by
  rcases h with rfl | ⟨b, off, rfl, h1, h2, h3, h4⟩
  · go_enter Try.func22, Try.ntmps22
    go_wp2
    go_ret
    exact ⟨a, 0, cap, rfl, ⟨by simp, by simp, by simp, by omega, .inl rfl⟩, by simp, galloc _ _⟩
  · have H4 : Hid (∀ i, i < len → w.cell? ⟨b, off + i, none⟩ = some (.int .u8 (zs i)) ∧ 0 ≤ zs i ∧ zs i ≤ 255) := h4
    clear h4
    by_cases h5 : 2000 < len
    · go_enter Try.func22, Try.ntmps22
      go_wp2
      go_ret
      refine ⟨some ⟨b, off, none⟩, 2000, cap, rfl, ⟨by simp, by simp, by simp, by omega, .inr ⟨b, off, rfl, h3, fun i hi => ?_⟩⟩, by simp, galloc _ _⟩
      obtain ⟨hz, hz0, hz1⟩ := H4.out i (by omega)
      exact ⟨(World.cell?_alloc_lt _ _ _ h3).trans hz, hz0, hz1⟩
    · go_enter Try.func22, Try.ntmps22
      go_wp2
      go_ret
      refine ⟨some ⟨b, off, none⟩, len, cap, rfl, ⟨by simp, by simp, by simp, by omega, .inr ⟨b, off, rfl, h3, fun i hi => ?_⟩⟩, by simp, galloc _ _⟩
      obtain ⟨hz, hz0, hz1⟩ := H4.out i (by omega)
      exact ⟨(World.cell?_alloc_lt _ _ _ h3).trans hz, hz0, hz1⟩

end Go.Proofs.Ytbceegonaomblaa.W
