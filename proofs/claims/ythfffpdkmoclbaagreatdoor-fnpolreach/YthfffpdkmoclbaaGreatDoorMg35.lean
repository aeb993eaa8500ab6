/-
  The walks of the laws' chPool and chInts over two rows of the same: they say true. At most 1048576 items.
  The walks of PolSize, of the program and of the specification. Items whose texts have at most 1048576 bytes together.
-/
import Derived.Test.YthfffpdkmoclbaaGreatDoorMg30
import Derived.Test.YthfffpdkmoclbaaGreatDoorMg17
import Derived.Test.YthfffpdkmoclbaaGreatDoorMg14
import Derived.Test.YthfffpdkmoclbaaGreatDoorMg07
import Derived.Test.YthfffpdkmoclbaaGreatDoorMg11
import Derived.Test.YthfffpdkmoclbaaGreatDoorMg33
namespace Go.Proofs.YthfffpdkmoclbaaGreatDoor.W
open Go.RowKit

set_option maxHeartbeats 1000000 in
theorem chPool_same (A B : Option Addr) (c d : Nat) (L : List PI) (w : World) (hA : RdP w.heap.size w A L) (hB : RdP w.heap.size w B L) (hn : L.length ≤ 1048576) :
    Calls Tryz.prog 12 #[.slice A L.length c, .slice B L.length d] w fun e w' => e = .returned (.bool true) ∧ Below w.heap.size w w' := by
  have HA : Hid (RdP w.heap.size w A L) := hA
  have HB : Hid (RdP w.heap.size w B L) := hB
  clear hA hB
  go_enter Tryz.func12, Tryz.ntmps12
  go_wp2
  go_loopw [5] (fun iv wr => ∃ j : Nat, j ≤ L.length ∧ iv = .int .i64 j ∧ Below w.heap.size w wr) (fun i _ => L.length - (intOf i).toNat)
  case atStart => exact ⟨0, Nat.zero_le _, rfl, Below.refl _ _⟩
  case round =>
    obtain ⟨j, hj, rfl, hb⟩ := hrel
    have hsz := hb.size
    by_cases hlt : j < L.length
    · obtain ⟨b, o, rfl, hbl, c1, c2⟩ := (HA.out.below hb (Nat.le_refl _)) j hlt
      obtain ⟨b', o', rfl, hbl', d1, d2⟩ := (HB.out.below hb (Nat.le_refl _)) j hlt
      generalize (L[j]).id = q at *
      generalize (L[j]).tx = t at *
      have x1 : ∀ x : Ext wr, x.world.cell? ⟨b, o + j * 2, none⟩ = some (.int .i64 q) := fun x => x.cell c1
      have x2 : ∀ x : Ext wr, x.world.cell? ⟨b, o + j * 2 + 1, none⟩ = some (.string t) := fun x => x.cell c2
      have x3 : ∀ x : Ext wr, x.world.cell? ⟨b', o' + j * 2, none⟩ = some (.int .i64 q) := fun x => x.cell d1
      have x4 : ∀ x : Ext wr, x.world.cell? ⟨b', o' + j * 2 + 1, none⟩ = some (.string t) := fun x => x.cell d2
      have hne : Nonempty (Ext wr) := ⟨⟨wr, Below.refl _ _⟩⟩
      go_wp2
      refine region_ext (by kernel_rfl) (by kernel_rfl) ?_
      repeat (go_big_quiet_step (fail))
      refine wpQuiet_nil ?_
      rintro _ ⟨x, rfl⟩
      have hbx := x.below
      go_wp2
      go_roundw
      case rel => exact ⟨j + 1, by omega, by go_num, hb.trans (hbx.mono (by omega))⟩
      case measure => simp [intOf]; omega
    · go_wp2
      go_ret
      exact ⟨rfl, hb⟩
set_option maxHeartbeats 1000000 in
theorem chInts_two (A A' : Option Addr) (c c' : Nat) (L : List Int) (w : World) (h1 : RdI w.heap.size w A L) (h2 : RdI w.heap.size w A' L) (hn : L.length ≤ 1048576) :
    Calls Tryz.prog 22 #[.slice A L.length c, .slice A' L.length c'] w fun e w' => e = .returned (.bool true) ∧ Below w.heap.size w w' := by
  have H1 : Hid (RdI w.heap.size w A L) := h1
  have H2 : Hid (RdI w.heap.size w A' L) := h2
  clear h1 h2
  go_enter Tryz.func22, Tryz.ntmps22
  go_wp2
  go_loopw [5] (fun iv wr => ∃ j : Nat, j ≤ L.length ∧ iv = .int .i64 j ∧ Below w.heap.size w wr) (fun i _ => L.length - (intOf i).toNat)
  case atStart => exact ⟨0, Nat.zero_le _, rfl, Below.refl _ _⟩
  case round =>
    obtain ⟨j, hj, rfl, hb⟩ := hrel
    have hsz := hb.size
    by_cases hlt : j < L.length
    · obtain ⟨b, o, rfl, hbl, c1⟩ := (H1.out.below hb (Nat.le_refl _)) j hlt
      obtain ⟨b', o', rfl, hbl', c1'⟩ := (H2.out.below hb (Nat.le_refl _)) j hlt
      generalize (L[j]) = i at *
      go_wp2
      go_quiet (fail)
      go_wp2
      go_roundw
      case rel => exact ⟨j + 1, by omega, by go_num, ⟨hb.os, hb.tape, hb.output, hb.size, hb.block⟩⟩
      case measure => simp [intOf]; omega
    · go_wp2
      go_ret
      exact ⟨rfl, hb⟩
end Go.Proofs.YthfffpdkmoclbaaGreatDoor.W
namespace Go.Proofs.YthfffpdkmoclbaaGreatDoor.W
open Go.RowKit

set_option maxHeartbeats 1000000 in
theorem polSize_spec (A : Option Addr) (c : Nat) (L : List PI) (w : World) (hL : RdP w.heap.size w A L) (hz : L.length + szP L ≤ 1048576) :
    Calls Tryz.prog 26 #[.slice A L.length c] w fun e w' => e = .returned (.int .i64 (szP L)) ∧ Below w.heap.size w w' := by
  have HL : Hid (RdP w.heap.size w A L) := hL
  clear hL
  go_enter Tryz.func26, Tryz.ntmps26
  go_wp2
  go_loopw [3, 4] (fun nv iv wr => ∃ j s : Nat, j ≤ L.length ∧ iv = .int .i64 j ∧ nv = .int .i64 s ∧ s ≤ 1048576 ∧ Hid (s = szP (L.take j)) ∧ Below w.heap.size w wr) (fun _ i _ => L.length - (intOf i).toNat)
  case atStart => exact ⟨0, 0, Nat.zero_le _, rfl, rfl, by omega, rfl, Below.refl _ _⟩
  case round =>
    obtain ⟨j, s, hj, rfl, rfl, hs, HS, hb⟩ := hrel
    by_cases hlt : j < L.length
    · obtain ⟨b, o, rfl, hbl, c1, c2⟩ := (HL.out.below hb (Nat.le_refl _)) j hlt
      have est := szP_snoc L j hlt
      have ele := szP_le L (j + 1)
      generalize (L[j]).id = i at c1
      generalize L[j].tx = t at *
      have HE : Hid (szP (L.take (j + 1)) = s + t.size) := by rw [HS.out]; exact est
      have hfit : s + t.size ≤ 1048576 := by rw [← HE.out]; omega
      have hn : L.length ≤ 1048576 := by omega
      clear est ele hz
      go_wp2
      go_roundw
      case rel => exact ⟨j + 1, s + t.size, by omega, by go_num, by go_num, by omega, HE.out.symm, hb⟩
      case measure => simp [intOf]; omega
    · go_wp2
      go_ret
      obtain rfl : j = L.length := by omega
      have e := HS.out
      rw [List.take_length] at e
      exact ⟨ret_int (by rw [e]), hb⟩

set_option maxHeartbeats 1000000 in
theorem polSize_impl (A : Option Addr) (c : Nat) (L : List PI) (w : World) (hL : RdP w.heap.size w A L) (hz : L.length + szP L ≤ 1048576) :
    Calls Tryz.prog 25 #[.slice A L.length c] w fun e w' => e = .returned (.int .i64 (szP L)) ∧ Below w.heap.size w w' := by
  have HL : Hid (RdP w.heap.size w A L) := hL
  clear hL
  go_enter Tryz.func25, Tryz.ntmps25
  go_wp2
  go_loopw [3, 8] (fun nv iv wr => ∃ j s : Nat, j ≤ L.length ∧ iv = .int .i64 j ∧ nv = .int .i64 s ∧ s ≤ 1048576 ∧ Hid (s = szP (L.take j)) ∧ Below w.heap.size w wr) (fun _ i _ => L.length - (intOf i).toNat)
  case atStart => exact ⟨0, 0, Nat.zero_le _, rfl, rfl, by omega, rfl, Below.refl _ _⟩
  case round =>
    obtain ⟨j, s, hj, rfl, rfl, hs, HS, hb⟩ := hrel
    by_cases hlt : j < L.length
    · obtain ⟨b, o, rfl, hbl, c1, c2⟩ := (HL.out.below hb (Nat.le_refl _)) j hlt
      have est := szP_snoc L j hlt
      have ele := szP_le L (j + 1)
      generalize (L[j]).id = i at c1
      generalize L[j].tx = t at *
      have HE : Hid (szP (L.take (j + 1)) = s + t.size) := by rw [HS.out]; exact est
      have hfit : s + t.size ≤ 1048576 := by rw [← HE.out]; omega
      have hsz := hb.size
      have hn : L.length ≤ 1048576 := by omega
      clear est ele hz
      go_wp2
      go_roundw
      case rel => exact ⟨j + 1, s + t.size, by omega, by go_num, by go_num, by omega, HE.out.symm, hb.alloc (by omega) _⟩
      case measure => simp [intOf]; omega
    · go_wp2
      go_ret
      obtain rfl : j = L.length := by omega
      have e := HS.out
      rw [List.take_length] at e
      exact ⟨ret_int (by rw [e]), hb⟩
end Go.Proofs.YthfffpdkmoclbaaGreatDoor.W
