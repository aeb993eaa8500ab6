
/-
  The walks of the draws of ids and of digits: some number, some text of at most 64 bytes; of what lay nothing but the reader has turned.
-/
import Derived.Test.YtkgfoimfhlpngaaDoorWalkDraw3
import Derived.Test.YtkgfoimfhlpngaaDoorWalkHex
namespace Go.Proofs.YtkgfoimfhlpngaaDoor.W
open Go.RowKit Go.Proofs.YtkgfoimfhlpngaaDoor.M

theorem conv1i (w : World) (v : Int) : (convert 28 9 (.slice (some ⟨w.heap.size, 0, none⟩) 1 1)).run Tryd.prog (w.alloc (.cells #[.int .u8 v] 5)) = .ok (.string (strOfNums [v])) (w.alloc (.cells #[.int .u8 v] 5)) :=
  run_convert_bytes_arg (P := Tryd.prog) (w.alloc (.cells #[.int .u8 v] 5)) 28 5 Tryd.underlying28 Tryd.underlying5 w.heap.size 0 1 1 [v] rfl (fun i hi => by
    obtain rfl : i = 0 := by omega
    simp) 9 Tryd.underlying9
theorem gdrewN (w : World) (n : Nat) {row : Option Nat} : w.grownBy (w.drewN n) row := ⟨rfl, rfl, rfl, Nat.le_refl _, fun _ _ _ => rfl⟩
theorem gbelow {w w' : World} (h : Below w.heap.size w w') : w.grownBy w' none := ⟨h.os, h.tape, h.output, h.size, fun k hk _ => h.block k hk⟩
theorem idHexB_le (n : Int) : (idHexB n).size ≤ 8 := by
  by_cases h : 1 ≤ n ∧ n ≤ 4294967295
  · obtain ⟨m, rfl⟩ := Int.eq_ofNat_of_zero_le (show 0 ≤ n by omega)
    rw [idHexB_size m (by omega) (by omega)]; omega
  · rw [idHexB_out n h]; decide
theorem str1_size (v : Int) : (strOfNums [v]).size = 1 := by rw [str_one]; rfl

theorem litInts7 {w w2 : World} {rb : Nat} {t : TypeId} (x : Int) (hg : (w.alloc (.cells #[.int .i64 1, .int .i64 4294967295, .int .i64 0, .int .i64 4294967296, .int .i64 (-1), .int .i64 255, .int .i64 x] t)).grownBy w2 (some rb)) (hlt : rb < w.heap.size) (v : Nat) (hv : v < 7) (h1 : 0 ≤ x) (h2 : x ≤ 5000000000) :
    ∃ n : Int, w2.cell? ⟨w.heap.size, v, none⟩ = some (.int .i64 n) ∧ -1 ≤ n ∧ n ≤ 5000000000 := by
  rw [litCell hg hlt v]
  rcases (show v = 0 ∨ v = 1 ∨ v = 2 ∨ v = 3 ∨ v = 4 ∨ v = 5 ∨ v = 6 from by omega) with rfl | rfl | rfl | rfl | rfl | rfl | rfl
  · exact ⟨_, rfl, by omega, by omega⟩
  · exact ⟨_, rfl, by omega, by omega⟩
  · exact ⟨_, rfl, by omega, by omega⟩
  · exact ⟨_, rfl, by omega, by omega⟩
  · exact ⟨_, rfl, by omega, by omega⟩
  · exact ⟨_, rfl, by omega, by omega⟩
  · exact ⟨x, rfl, by omega, by omega⟩
theorem litInts8 {w w2 : World} {rb : Nat} {t : TypeId} (x : Int) (hg : (w.alloc (.cells #[.int .i64 32, .int .i64 48, .int .i64 97, .int .i64 47, .int .i64 61, .int .i64 0, .int .i64 33, .int .i64 x] t)).grownBy w2 (some rb)) (hlt : rb < w.heap.size) (v : Nat) (hv : v < 8) (h1 : 0 ≤ x) (h2 : x ≤ 255) :
    ∃ n : Int, w2.cell? ⟨w.heap.size, v, none⟩ = some (.int .i64 n) ∧ 0 ≤ n ∧ n ≤ 255 := by
  rw [litCell hg hlt v]
  rcases (show v = 0 ∨ v = 1 ∨ v = 2 ∨ v = 3 ∨ v = 4 ∨ v = 5 ∨ v = 6 ∨ v = 7 from by omega) with rfl | rfl | rfl | rfl | rfl | rfl | rfl | rfl
  · exact ⟨_, rfl, by omega, by omega⟩
  · exact ⟨_, rfl, by omega, by omega⟩
  · exact ⟨_, rfl, by omega, by omega⟩
  · exact ⟨_, rfl, by omega, by omega⟩
  · exact ⟨_, rfl, by omega, by omega⟩
  · exact ⟨_, rfl, by omega, by omega⟩
  · exact ⟨_, rfl, by omega, by omega⟩
  · exact ⟨x, rfl, by omega, by omega⟩

set_option maxHeartbeats 2000000 in
theorem bent_any (w : World) (rb p : Nat) (a : Option Addr) (len cap : Nat) (zs : Nat → Int) (s : ByteArray) (h : Rd w rb p a len cap zs) (hp : p ≤ 900000) (hlt : rb < w.heap.size) (hs : s.size ≤ 200) :
    Calls Tryd.prog 25 #[.pointer (some ⟨rb, 0, none⟩), .string s] w fun e w' => ∃ t : ByteArray, e = .returned (.string t) ∧ t.size ≤ s.size + 1 ∧ w.grownBy w' (some rb) := by
  have kc := conv1i
  have ks := str1_size
  go_enter Tryd.func25, Tryd.ntmps25
  go_wp2_with (first
    | (go_at_call 24; refine (pick_any _ rb p a len cap (s.size + 1) zs h (by omega) (by omega) (by omega)).mono ?_; rintro e w1 ⟨k, hk, rfl, hR1, hg1⟩; clear h; have hl1 : rb < w1.heap.size := Nat.lt_of_lt_of_le hlt hg1.size)
    | (go_at_call 24; refine (pick_any _ rb _ a len cap 256 zs hR1 (by omega) (by omega) (by omega)).mono ?_; rintro e w2 ⟨v1, hv1, rfl, hR2, hg2⟩; clear hR1; have hl2 : rb < w2.heap.size := Nat.lt_of_lt_of_le hl1 hg2.size)
    | (go_at_call 24; refine (pick_any _ rb _ a len cap 8 zs (hR2.alloc hl2 _) (by omega) (by omega) (by omega)).mono ?_; rintro e w3 ⟨v, hv, rfl, hR3, hg3⟩; clear hR2; obtain ⟨n, hcell, hn1, hn2⟩ := litInts8 _ hg3 hl2 v hv (by omega) (by omega); have hl3 : rb < w3.heap.size := Nat.lt_of_lt_of_le (by simp; omega) hg3.size)
    | (go_at_call 24; refine (pick_any _ rb _ a len cap 3 zs (hR3.alloc hl3 _) (by omega) (by omega) (by omega)).mono ?_; rintro e w4 ⟨v4, hv4, rfl, hR4, hg4⟩; clear hR3; have hl4 : rb < w4.heap.size := Nat.lt_of_lt_of_le (by simp; omega) hg4.size)
    | (go_at_call 24; refine (pick_any _ rb _ a len cap 2 zs hR4 (by omega) (by omega) (by omega)).mono ?_; rintro e w5 ⟨v5, hv5, rfl, hR5, hg5⟩; clear hR4))
  · go_quiet (fail)
    go_wp2
    go_ret
    exact ⟨_, rfl, by simp [ByteArray.size_append, ByteArray.size_extract, ks]; omega, gtrans (gtrans (gtrans (gtrans (gtrans (gtrans hg1 hg2) (galloc _ _)) hg3) (galloc _ _)) hg4) (gdrewN _ _)⟩
  · go_ret
    exact ⟨_, rfl, by simp [ByteArray.size_append, ks], gtrans (gtrans (gtrans (gtrans (gtrans hg1 hg2) (galloc _ _)) hg3) (galloc _ _)) hg4⟩
  all_goals
    have hk' : k < s.size := by
      have := ‹((k : Int) == (s.size : Int)) = false›
      simp at this; omega
    go_quiet (fail)
    go_wp2
    go_ret
    exact ⟨_, rfl, by simp [ByteArray.size_append, ByteArray.size_extract, ks]; omega, gtrans (gtrans (gtrans (gtrans (gtrans (gtrans (gtrans hg1 hg2) (galloc _ _)) hg3) (galloc _ _)) hg4) hg5) (gdrewN _ _)⟩

end Go.Proofs.YtkgfoimfhlpngaaDoor.W
