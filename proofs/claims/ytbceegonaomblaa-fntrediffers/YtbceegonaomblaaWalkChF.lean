
/-
  The walk of the laws' chFiles over two rows of the same files: it says true. At most 1048576 files.
-/
import Derived.Test.YtbceegonaomblaaWalkTreO
namespace Go.Proofs.Ytbceegonaomblaa.W
open Go.RowKit Go.Proofs.Ytbceegonaomblaa.M

set_option maxHeartbeats 1000000 in
theorem chFiles_same (A B : Option Addr) (c d : Nat) (L : List TF) (w : World) (hA : RdF w.heap.size w A L) (hB : RdF w.heap.size w B L) (hn : L.length ≤ 1048576) :
    Calls Try.prog 8 #[.slice A L.length c, .slice B L.length d] w fun e w' => e = .returned (.bool true) ∧ Below w.heap.size w w' := by
  have HA : Hid (RdF w.heap.size w A L) := hA
  have HB : Hid (RdF w.heap.size w B L) := hB
  clear hA hB
  go_enter Try.func8, Try.ntmps8
  go_wp2
  go_loopw [5] (fun iv wr => ∃ j : Nat, j ≤ L.length ∧ iv = .int .i64 j ∧ Below w.heap.size w wr) (fun i _ => L.length - (intOf i).toNat)
  case atStart => exact ⟨0, Nat.zero_le _, rfl, Below.refl _ _⟩
  case round =>
    obtain ⟨j, hj, rfl, hb⟩ := hrel
    have hsz := hb.size
    by_cases hlt : j < L.length
    · obtain ⟨b, o, rfl, hbl, c1, c2⟩ := (HA.out.below hb (Nat.le_refl _)) j hlt
      obtain ⟨b', o', rfl, hbl', d1, d2⟩ := (HB.out.below hb (Nat.le_refl _)) j hlt
      generalize (L[j]).pa = q at *
      generalize (L[j]).by_ = t at *
      have x1 : ∀ x : Ext wr, x.world.cell? ⟨b, o + j * 2, none⟩ = some (.string q) := fun x => x.cell c1
      have x2 : ∀ x : Ext wr, x.world.cell? ⟨b, o + j * 2 + 1, none⟩ = some (.string t) := fun x => x.cell c2
      have x3 : ∀ x : Ext wr, x.world.cell? ⟨b', o' + j * 2, none⟩ = some (.string q) := fun x => x.cell d1
      have x4 : ∀ x : Ext wr, x.world.cell? ⟨b', o' + j * 2 + 1, none⟩ = some (.string t) := fun x => x.cell d2
      have hne : Nonempty (Ext wr) := ⟨⟨wr, Below.refl _ _⟩⟩
      go_wp2
      refine region_ext (by kernel_rfl) (by kernel_rfl) ?_
      repeat (go_big_quiet_step (fail))
      refine wpQuiet_nil ?_
      rintro _ ⟨x, rfl⟩
      have hbx := x.below
      go_wp2
      go_roundw
      case rel => exact ⟨j + 1, by omega, by go_num, hb.trans (hbx.mono (by omega))⟩
      case measure => simp [intOf]; omega
    · go_wp2
      go_ret
      exact ⟨rfl, hb⟩
end Go.Proofs.Ytbceegonaomblaa.W
