
/-
  The walk of the exact laws' own 'toIntS': the same numbers, in new memory. At most 1048576 numbers.
-/
import Derived.Test.YtknbmgdfcejlkaaSlotMI
namespace Go.Proofs.Ytknbmgdfcejlkaa.W
open Go.RowKit

def laidI (L : List Int) (j : Nat) : List Value := cellsI (L.take j) ++ cellsI (zrs (L.length - j))
theorem laidI_zero (L : List Int) : laidI L 0 = cellsI (zrs L.length) := by simp [laidI, cellsI]
theorem laidI_all (L : List Int) : laidI L L.length = cellsI L := by simp [laidI, zrs, cellsI]
theorem laidI_step (L : List Int) (j : Nat) (h : j < L.length) : (laidI L j).set j (.int .i64 L[j]) = laidI L (j + 1) := by
  unfold laidI
  have hl : (cellsI (L.take j)).length = j := by simp [cellsI]; omega
  obtain ⟨m, hm⟩ : ∃ m, L.length - j = m + 1 := ⟨L.length - j - 1, by omega⟩
  have hm' : L.length - (j + 1) = m := by omega
  rw [hm, hm', List.take_succ_eq_append_getElem h, cellsI_snoc, List.set_append_right _ _ (by omega), hl, Nat.sub_self]
  unfold zrs cellsI
  rw [List.replicate_succ]
  simp
set_option maxHeartbeats 1000000 in
theorem toIS_any (A : Option Addr) (c : Nat) (L : List Int) (w : World) (hL : RdI w.heap.size w A L) (hn : L.length ≤ 1048576) :
    Calls Try.prog 6 #[.slice A L.length c] w fun e w' => (∃ v, e = .returned v ∧ w'.ownsRow w.heap.size 3 1 v L.length (cellsI L)) ∧ Below w.heap.size w w' := by
  have HL : Hid (RdI w.heap.size w A L) := hL
  clear hL
  obtain ⟨i0, hi, hz0, hz1, hz2⟩ := info_parts infoInt
  go_enter Try.func6, Try.ntmps6
  go_wp2_with (at_make; refine wpList_make_full _ rfl _ _ 22 rfl w.heap.size 3 i0 (.int .i64 0) 1 Try.underlying22 hi hz0 hz1 _ _ _ _ L.length rfl rfl rfl rfl (by rw [hz2]; omega) (by unfold maxLen; omega) (Nat.le_refl _) ?_)
  intro w1 hown hgr
  have hb0 : Below w.heap.size w w1 := (Below.refl _ _).grown hgr (Nat.le_refl _) (fun k h => by cases h)
  have em := made_zrs L.length
  have hown' : w1.ownsRow w.heap.size 3 1 (.slice (some ⟨w.heap.size, 0, none⟩) L.length L.length) L.length (madeCells #[.int .i64 0] L.length).toList := hown
  rw [Nat.mul_one] at em
  rw [em, ← laidI_zero] at hown'
  clear hown em
  go_wp2
  go_loopw [4] (fun iv wr => ∃ j : Nat, j ≤ L.length ∧ iv = .int .i64 j ∧ wr.ownsRow w.heap.size 3 1 (.slice (some ⟨w.heap.size, 0, none⟩) L.length L.length) L.length (laidI L j) ∧ Below w.heap.size w wr) (fun i _ => L.length - (intOf i).toNat)
  case atStart => exact ⟨0, Nat.zero_le _, rfl, hown', hb0⟩
  case round =>
    obtain ⟨j, hj, rfl, hrow, hb⟩ := hrel
    have hsz := hb.size
    by_cases hlt : j < L.length
    · obtain ⟨b, o, rfl, hbl, c1⟩ := (HL.out.below hb (Nat.le_refl _)) j hlt
      have est := laidI_step L j hlt
      generalize L[j] = x at *
      have HE : Hid ((laidI L j).set j (.int .i64 x) = laidI L (j + 1)) := est
      clear est
      obtain ⟨u0, hu0⟩ := ownsCell hrow j (by omega)
      have hf0 := hrow.frozenAt j
      go_wp2
      go_roundw
      case rel =>
        have hst := (hrow.stored j (.int .i64 x)).1
        rw [HE.out] at hst
        exact ⟨j + 1, by omega, by go_num, hst, hb.setCell (p := ⟨w.heap.size, j, none⟩) (Nat.le_refl _) _⟩
      case measure => simp [intOf]; omega
    · go_wp2
      go_ret
      obtain rfl : j = L.length := by omega
      rw [laidI_all] at hrow
      exact ⟨⟨_, rfl, hrow⟩, hb⟩
theorem markIk_own {b : Nat} (v : Value) (k : Nat) (L : List Int) (w : World) (h : w.ownsRow b 3 1 v L.length (cellsI L)) (hn : k + L.length ≤ 10000000) :
    Calls Try.prog 10 #[v, .int .i64 k] w fun e w' => e = .returned (.int .i64 ((k + L.length : Nat) : Int)) ∧ w'.ownsRow b 3 1 v L.length (cellsI (mkI k L.length)) ∧ w.grownBy w' v.ownBlock := by
  rcases h.2 with ⟨rfl, hn0⟩ | ⟨g, cap, cur, rfl, _⟩
  · refine (markIS_nil k w).mono ?_
    rintro e w' ⟨rfl, rfl⟩
    rw [hn0]
    exact ⟨rfl, World.ownsRow_nil _ _ _ _, World.grownBy.refl _ _⟩
  · refine (markIS_any b g cap k L w h hn).mono ?_
    rintro e w' ⟨rfl, h2, h3⟩
    exact ⟨rfl, h2, h3⟩
theorem heldIk_own {b : Nat} {e : TypeId} (v : Value) (k n : Nat) (w : World) (h : w.ownsRow b e 1 v n (cellsI (mkI k n))) (hn : k + n ≤ 10000000) :
    Calls Try.prog 23 #[v, .int .i64 k] w fun e w' => e = .returned (.int .i64 ((k + n : Nat) : Int)) ∧ Below w.heap.size w w' := by
  have h' : w.ownsRow b e 1 v (mkI k n).length (cellsI (mkI k n)) := by rw [mkI_length]; exact h
  obtain ⟨A, c, rfl, r1⟩ := rdI_of_own h'
  rw [mkI_length]
  exact heldIS_any A c k n w r1 hn
end Go.Proofs.Ytknbmgdfcejlkaa.W
