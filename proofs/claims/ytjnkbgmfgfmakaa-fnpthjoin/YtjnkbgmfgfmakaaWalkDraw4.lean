/-
  The walk of the draw of two paths: some two texts of at most 200 bytes; of what lay nothing has turned.
-/
import Derived.Test.YtjnkbgmfgfmakaaWalkDraw3
import Derived.Test.YtjnkbgmfgfmakaaWalkPth4
namespace Go.Proofs.Ytjnkbgmfgfmakaa.W
open Go.RowKit Go.Proofs.Ytjnkbgmfgfmakaa.M

theorem joinB_size (a b : ByteArray) : (joinB a b).size ≤ a.size + 1 + b.size := by
  have h : (joinL a.data.toList b.data.toList).length ≤ a.size + 1 + b.size := by
    have e1 : a.data.toList.length = a.size := by simp
    have e2 : b.data.toList.length = b.size := by simp
    unfold joinL
    split
    · split
      · omega
      · split
        · omega
        · split
          · simp; omega
          · simp
    · simp
  unfold joinB; rw [size_mk]; exact h

set_option maxHeartbeats 1000000 in
theorem drawPthUnder_any (w : World) (a : Option Addr) (len cap : Nat) (zs : Nat → Int) (h : Src w a len cap zs) :
    Calls Try.prog 19 #[.slice a len cap] w fun e w' => ∃ s t : ByteArray, e = .returned (.tuple #[.string s, .string t]) ∧ s.size ≤ 200 ∧ t.size ≤ 200 ∧ Below w.heap.size w w' := by
  go_enter Try.func19, Try.ntmps19
  go_wp2_with (first
    | (go_at_call 34; refine (open_any _ a len cap zs h).mono ?_; rintro e w1 ⟨a', len', cap', rfl, hR1, hl1, hg1⟩; have B1 : Below w.heap.size w w1 := (Below.refl _ _).grown hg1 (Nat.le_refl _) (fun _ e => by cases e); clear hg1)
    | (go_at_call 33; refine (anyPath_any _ w.heap.size 0 8 a' len' cap' zs hR1 (by omega) hl1 (by omega) (by omega)).mono ?_; rintro e w2 ⟨s, p2, rfl, hs, hp2, hR2, hg2⟩; clear hR1; have B2 : Below w.heap.size w w2 := B1.grown hg2 (by omega) (fun _ e => by cases e; exact Nat.le_refl _); have hl2 : w.heap.size < w2.heap.size := Nat.lt_of_lt_of_le hl1 hg2.size; clear hg2)
    | (go_at_call 43; refine (pick_any _ w.heap.size p2 a' len' cap' 3 zs hR2 (by omega) (by omega) (by omega)).mono ?_; rintro e w3 ⟨v, hv, rfl, hR3, hg3⟩; clear hR2; have B3 : Below w.heap.size w w3 := B2.grown hg3 (by omega) (fun _ e => by cases e; exact Nat.le_refl _); have hl3 : w.heap.size < w3.heap.size := Nat.lt_of_lt_of_le hl2 hg3.size; clear hg3)
    | (go_at_call 33; refine (anyPath_any _ w.heap.size _ 8 a' len' cap' zs hR3 (by omega) hl3 (by omega) (by omega)).mono ?_; rintro e w4 ⟨t, p4, rfl, ht, hp4, hR4, hg4⟩; clear hR3; have B4 : Below w.heap.size w w4 := B3.grown hg4 (by omega) (fun _ e => by cases e; exact Nat.le_refl _))
    | (go_at_call 44; refine (name_any _ w.heap.size _ a' len' cap' zs hR3 (by omega) hl3).mono ?_; rintro e w4 ⟨t, p4, rfl, ht, hp4, hR4, hg4⟩; clear hR3; have B4 : Below w.heap.size w w4 := B3.grown hg4 (by omega) (fun _ e => by cases e; exact Nat.le_refl _))
    | (go_at_call 23; refine (join_spec s t _ (by omega) (by omega)).mono ?_; rintro e w5 ⟨rfl, hb5⟩))
  · go_ret2
    have := joinB_size s t
    exact ⟨s, _, rfl, by omega, by omega, B4.trans (hb5.mono B4.size)⟩
  · go_ret2
    exact ⟨s, t, rfl, by omega, by omega, B4⟩
end Go.Proofs.Ytjnkbgmfgfmakaa.W
