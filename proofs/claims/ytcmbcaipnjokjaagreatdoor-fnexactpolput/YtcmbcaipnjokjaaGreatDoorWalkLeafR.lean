
/-
  The walk of the program's readLeaf. Texts of at most 4194304 bytes.
-/
import Derived.Test.YtcmbcaipnjokjaaGreatDoorBase
import Derived.Below
namespace Go.Proofs.YtcmbcaipnjokjaaGreatDoor.W
open Go.RowKit

theorem leafOk_r (s : ByteArray) (w : World) (hs : s.size ≤ 4194304) :
    Calls Tryz.prog 111 #[.agg #[.string s]] w fun e w' => e = .returned (.bool (decide (s.size ≤ 6))) ∧ Below w.heap.size w w' := by
  go_enter Tryz.func111, Tryz.ntmps111
  go_wp2
  go_ret
  exact ⟨ret_bool (by rw [Bool.eq_iff_iff]; simp; omega), (Below.refl _ _).alloc (Nat.le_refl _) _⟩

set_option maxRecDepth 100000 in
set_option maxHeartbeats 1000000 in
theorem readLeaf_yes (s : ByteArray) (w : World) (h : s.size ≤ 6) :
    Calls Tryz.prog 95 #[.string s] w fun e w' => e = .returned (.tuple #[.agg #[.string s], .nilIface]) ∧ Below w.heap.size w w' := by
  have hd : decide (s.size ≤ 6) = true := decide_eq_true h
  have hq := fun w' => leafOk_r s w' (by omega)
  rw [hd] at hq
  go_enter Tryz.func95, Tryz.ntmps95
  go_wp2_with (go_at_call 111; refine (hq _).mono ?_; rintro e w1 ⟨rfl, hb1⟩; have c0 : w1.cell? ⟨w.heap.size, 0, none⟩ = some (.string ⟨#[]⟩) := (hb1.cell (p := ⟨w.heap.size, _, none⟩) (by simp; omega)).trans (by simp); have c1 : w1.cell? ⟨w.heap.size + 1, 0, none⟩ = some (.string s) := (hb1.cell (p := ⟨w.heap.size + 1, _, none⟩) (by simp)).trans (by simp); have f0 : w1.frozen? ⟨w.heap.size, 0, none⟩ = false := (hb1.frozen (p := ⟨w.heap.size, _, none⟩) (by simp; omega)).trans (by simp))
  refine bodyPost_ret (v := .tuple #[.agg #[.string s], .nilIface]) (by simp [results, Tryz.results95, go_sem, c0]) rfl ?_
  exact ⟨rfl, ((((Below.refl _ _).alloc (Nat.le_refl _) _).alloc (by simp) _).trans (hb1.mono (by simp; omega))).setCell (p := ⟨w.heap.size, 0, none⟩) (Nat.le_refl _) _⟩

set_option maxRecDepth 100000 in
set_option maxHeartbeats 1000000 in
theorem readLeaf_no (s : ByteArray) (w : World) (hs : s.size ≤ 4194304) (h : ¬ s.size ≤ 6) :
    Calls Tryz.prog 95 #[.string s] w fun e w' => (∃ m : ByteArray, e = .returned (.tuple #[.agg #[.string ⟨#[]⟩], .iface 117 (.agg #[.string m])])) ∧ Below w.heap.size w w' := by
  have hd : decide (s.size ≤ 6) = false := decide_eq_false h
  have hq := fun w' => leafOk_r s w' hs
  rw [hd] at hq
  go_enter Tryz.func95, Tryz.ntmps95
  go_wp2_with (go_at_call 111; refine (hq _).mono ?_; rintro e w1 ⟨rfl, hb1⟩; have c0 : w1.cell? ⟨w.heap.size, 0, none⟩ = some (.string ⟨#[]⟩) := (hb1.cell (p := ⟨w.heap.size, _, none⟩) (by simp; omega)).trans (by simp); have f0 : w1.frozen? ⟨w.heap.size, 0, none⟩ = false := (hb1.frozen (p := ⟨w.heap.size, _, none⟩) (by simp; omega)).trans (by simp))
  refine bodyPost_ret (v := .tuple #[.agg #[.string ⟨#[]⟩], .iface 117 (.agg #[.string _])]) (by simp [results, Tryz.results95, go_sem, c0]; rfl) rfl ?_
  exact ⟨⟨_, rfl⟩, ((((Below.refl _ _).alloc (Nat.le_refl _) _).alloc (by simp) _).trans (hb1.mono (by simp; omega))).setCell (p := ⟨w.heap.size, 0, none⟩) (Nat.le_refl _) _⟩
end Go.Proofs.YtcmbcaipnjokjaaGreatDoor.W
