/-
  The walks of TreSize, of the program and of the specification. Edits whose texts have at most 1048576 bytes together.
-/
import Derived.Test.YtckpjpipmmbhhabRowE
namespace Go.Proofs.Ytckpjpipmmbhhab.W
open Go.RowKit

set_option maxHeartbeats 1000000 in
theorem treSize_spec (A : Option Addr) (c : Nat) (L : List TE) (w : World) (hL : RdE w.heap.size w A L) (hz : L.length + szE L ≤ 1048576) :
    Calls Try.prog 6 #[.slice A L.length c] w fun e w' => e = .returned (.int .i64 (szE L)) ∧ Below w.heap.size w w' := by
  have HL : Hid (RdE w.heap.size w A L) := hL
  clear hL
  go_enter Try.func6, Try.ntmps6
  go_wp2
  go_loopw [3, 4] (fun nv iv wr => ∃ j s : Nat, j ≤ L.length ∧ iv = .int .i64 j ∧ nv = .int .i64 s ∧ s ≤ 1048576 ∧ Hid (s = szE (L.take j)) ∧ Below w.heap.size w wr) (fun _ i _ => L.length - (intOf i).toNat)
  case atStart => exact ⟨0, 0, Nat.zero_le _, rfl, rfl, by omega, rfl, Below.refl _ _⟩
  case round =>
    obtain ⟨j, s, hj, rfl, rfl, hs, HS, hb⟩ := hrel
    by_cases hlt : j < L.length
    · obtain ⟨b, o, rfl, hbl, c1, c2, c3⟩ := (HL.out.below hb (Nat.le_refl _)) j hlt
      have est := szE_snoc L j hlt
      have ele := szE_le L (j + 1)
      generalize (L[j]).pa = t at *
      generalize (L[j]).by_ = u at *
      generalize (L[j]).gone = v at *
      have HE : Hid (szE (L.take (j + 1)) = s + (t.size + u.size)) := by rw [HS.out]; exact est
      have hfit : s + (t.size + u.size) ≤ 1048576 := by rw [← HE.out]; omega
      have hn : L.length ≤ 1048576 := by omega
      clear est ele hz
      go_wp2
      go_quiet (fail)
      go_wp2
      go_roundw
      case rel => exact ⟨j + 1, s + (t.size + u.size), by omega, by go_num, by go_num, by omega, HE.out.symm, ⟨hb.os, hb.tape, hb.output, hb.size, hb.block⟩⟩
      case measure => simp [intOf]; omega
    · go_wp2
      go_ret
      obtain rfl : j = L.length := by omega
      have e := HS.out
      rw [List.take_length] at e
      exact ⟨ret_int (by rw [e]), hb⟩

set_option maxHeartbeats 1000000 in
theorem treSize_impl (A : Option Addr) (c : Nat) (L : List TE) (w : World) (hL : RdE w.heap.size w A L) (hz : L.length + szE L ≤ 1048576) :
    Calls Try.prog 5 #[.slice A L.length c] w fun e w' => e = .returned (.int .i64 (szE L)) ∧ Below w.heap.size w w' := by
  have HL : Hid (RdE w.heap.size w A L) := hL
  clear hL
  go_enter Try.func5, Try.ntmps5
  go_wp2
  go_loopw [3, 8] (fun nv iv wr => ∃ j s : Nat, j ≤ L.length ∧ iv = .int .i64 j ∧ nv = .int .i64 s ∧ s ≤ 1048576 ∧ Hid (s = szE (L.take j)) ∧ Below w.heap.size w wr) (fun _ i _ => L.length - (intOf i).toNat)
  case atStart => exact ⟨0, 0, Nat.zero_le _, rfl, rfl, by omega, rfl, Below.refl _ _⟩
  case round =>
    obtain ⟨j, s, hj, rfl, rfl, hs, HS, hb⟩ := hrel
    by_cases hlt : j < L.length
    · obtain ⟨b, o, rfl, hbl, c1, c2, c3⟩ := (HL.out.below hb (Nat.le_refl _)) j hlt
      have est := szE_snoc L j hlt
      have ele := szE_le L (j + 1)
      generalize (L[j]).pa = t at *
      generalize (L[j]).by_ = u at *
      generalize (L[j]).gone = v at *
      have HE : Hid (szE (L.take (j + 1)) = s + (t.size + u.size)) := by rw [HS.out]; exact est
      have hfit : s + (t.size + u.size) ≤ 1048576 := by rw [← HE.out]; omega
      have hn : L.length ≤ 1048576 := by omega
      have hsz := hb.size
      clear est ele hz
      go_wp2
      go_roundw
      case rel => exact ⟨j + 1, s + (t.size + u.size), by omega, by go_num, by go_num, by omega, HE.out.symm, hb.alloc (by omega) _⟩
      case measure => simp [intOf]; omega
    · go_wp2
      go_ret
      obtain rfl : j = L.length := by omega
      have e := HS.out
      rw [List.take_length] at e
      exact ⟨ret_int (by rw [e]), hb⟩
end Go.Proofs.Ytckpjpipmmbhhab.W
