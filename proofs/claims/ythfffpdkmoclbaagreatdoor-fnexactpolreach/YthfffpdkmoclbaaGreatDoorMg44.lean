/-
  The helpers' walks once more, over rows that a call has made, whatever their address.
  The walk of the exact laws' own 'toIntS': numbers in new memory. Rows of at most 1048576 numbers. (As in WalkToI, alone.)
-/
import Derived.Test.YthfffpdkmoclbaaGreatDoorMg32
import Derived.Test.YthfffpdkmoclbaaGreatDoorMg26
import Derived.Test.YthfffpdkmoclbaaGreatDoorMg33
import Derived.Test.YthfffpdkmoclbaaGreatDoorMg25
import Derived.Test.YthfffpdkmoclbaaGreatDoorMg14
import Derived.Test.YthfffpdkmoclbaaGreatDoorMg07
import Derived.Lib.SliceRun
namespace Go.Proofs.YthfffpdkmoclbaaGreatDoor.W
open Go.RowKit

theorem eqP_own {b b' : Nat} {e e' : TypeId} (v v' : Value) (L : List PI) (w : World) (h1 : w.ownsRow b e 2 v L.length (cellsP L)) (h2 : w.ownsRow b' e' 2 v' L.length (cellsP L)) (hn : L.length ≤ 1048576) :
    Calls Tryz.prog 43 #[v, v'] w fun e w' => e = .returned (.bool true) ∧ Below w.heap.size w w' := by
  obtain ⟨A, c, rfl, r1⟩ := rdP_of_own h1
  obtain ⟨A', c', rfl, r2⟩ := rdP_of_own h2
  exact eqPS_same A A' c c' L w r1 r2 (by unfold maxLen; omega)
set_option maxHeartbeats 400000 in
theorem markPS_nil (k : Nat) (w : World) :
    Calls Tryz.prog 44 #[.slice none 0 0, .int .i64 k] w fun e w' => e = .returned (.int .i64 k) ∧ w = w' := by
  go_enter Tryz.func44, Tryz.ntmps44
  go_wp2
  refine wp_loop_rounds 1 ?_
  rw [rounds_succ]
  go_wp2
  go_ret
  exact ⟨rfl, rfl⟩
theorem markP_own {b : Nat} (v : Value) (L : List PI) (w : World) (h : w.ownsRow b 35 2 v L.length (cellsP L)) (hn : L.length ≤ 1048576) :
    Calls Tryz.prog 44 #[v, .int .i64 1] w fun e w' => e = .returned (.int .i64 ((1 + L.length * 2 : Nat) : Int)) ∧ w'.ownsRow b 35 2 v L.length (cellsP (mkP 1 L.length)) ∧ w.grownBy w' v.ownBlock := by
  rcases h.2 with ⟨rfl, hn0⟩ | ⟨g, cap, cur, rfl, _⟩
  · refine (markPS_nil 1 w).mono ?_
    rintro e w' ⟨rfl, rfl⟩
    rw [hn0]
    exact ⟨rfl, World.ownsRow_nil _ _ _ _, World.grownBy.refl _ _⟩
  · refine (markPS_any b g cap 1 L w h (Nat.le_refl _) (by omega)).mono ?_
    rintro e w' ⟨rfl, h2, h3⟩
    exact ⟨rfl, h2, h3⟩
end Go.Proofs.YthfffpdkmoclbaaGreatDoor.W
namespace Go.Proofs.YthfffpdkmoclbaaGreatDoor.W
open Go.RowKit
set_option linter.unusedVariables false

theorem infoInt : (Tryz.prog.info? 3).map (fun i => (i.zero, i.size, i.bytes)) = some (some (.int .i64 0), 1, 8) := by kernel_rfl
def zrs (n : Nat) : List Int := List.replicate n 0
theorem cellsI_snoc (L : List Int) (x : Int) : cellsI (L ++ [x]) = cellsI L ++ [.int .i64 x] := by simp [cellsI]
theorem made_zrs (n : Nat) : (madeCells #[.int .i64 0] (n * 1)).toList = cellsI (zrs n) := by
  rw [made_flat _ _ 1 rfl (by decide)]
  unfold cellsI zrs
  induction n with
  | zero => rfl
  | succ n ih => rw [List.replicate_succ, List.replicate_succ, List.flatten_cons, ih]; rfl
def laidI (L : List Int) (j : Nat) : List Value := cellsI (L.take j) ++ cellsI (zrs (L.length - j))
theorem laidI_zero (L : List Int) : laidI L 0 = cellsI (zrs L.length) := by simp [laidI, cellsI]
theorem laidI_all (L : List Int) : laidI L L.length = cellsI L := by simp [laidI, zrs, cellsI]
theorem laidI_step (L : List Int) (j : Nat) (h : j < L.length) : (laidI L j).set j (.int .i64 L[j]) = laidI L (j + 1) := by
  unfold laidI
  have hl : (cellsI (L.take j)).length = j := by simp [cellsI]; omega
  obtain ⟨m, hm⟩ : ∃ m, L.length - j = m + 1 := ⟨L.length - j - 1, by omega⟩
  have hm' : L.length - (j + 1) = m := by omega
  rw [hm, hm', List.take_succ_eq_append_getElem h, cellsI_snoc, List.set_append_right _ _ (by omega), hl, Nat.sub_self]
  unfold zrs cellsI
  rw [List.replicate_succ]
  simp
set_option maxHeartbeats 1000000 in
theorem toIS_any (A : Option Addr) (c : Nat) (L : List Int) (w : World) (hL : RdI w.heap.size w A L) (hn : L.length ≤ 1048576) :
    Calls Tryz.prog 41 #[.slice A L.length c] w fun e w' => (∃ v, e = .returned v ∧ w'.ownsRow w.heap.size 3 1 v L.length (cellsI L)) ∧ Below w.heap.size w w' := by
  have HL : Hid (RdI w.heap.size w A L) := hL
  clear hL
  obtain ⟨i0, hi, hz0, hz1, hz2⟩ := info_parts infoInt
  go_enter Tryz.func41, Tryz.ntmps41
  go_wp2_with (at_make; refine wpList_make_full _ rfl _ _ 41 rfl w.heap.size 3 i0 (.int .i64 0) 1 Tryz.underlying41 hi hz0 hz1 _ _ _ _ L.length rfl rfl rfl rfl (by rw [hz2]; omega) (by unfold maxLen; omega) (Nat.le_refl _) ?_)
  intro w1 hown hgr
  have hb0 : Below w.heap.size w w1 := (Below.refl _ _).grown hgr (Nat.le_refl _) (fun k h => by cases h)
  have em := made_zrs L.length
  have hown' : w1.ownsRow w.heap.size 3 1 (.slice (some ⟨w.heap.size, 0, none⟩) L.length L.length) L.length (madeCells #[.int .i64 0] L.length).toList := hown
  rw [Nat.mul_one] at em
  rw [em, ← laidI_zero] at hown'
  clear hown em
  go_wp2
  go_loopw [4] (fun iv wr => ∃ j : Nat, j ≤ L.length ∧ iv = .int .i64 j ∧ wr.ownsRow w.heap.size 3 1 (.slice (some ⟨w.heap.size, 0, none⟩) L.length L.length) L.length (laidI L j) ∧ Below w.heap.size w wr) (fun i _ => L.length - (intOf i).toNat)
  case atStart => exact ⟨0, Nat.zero_le _, rfl, hown', hb0⟩
  case round =>
    obtain ⟨j, hj, rfl, hrow, hb⟩ := hrel
    have hsz := hb.size
    by_cases hlt : j < L.length
    · obtain ⟨b, o, rfl, hbl, c1⟩ := (HL.out.below hb (Nat.le_refl _)) j hlt
      have est := laidI_step L j hlt
      generalize L[j] = x at *
      have HE : Hid ((laidI L j).set j (.int .i64 x) = laidI L (j + 1)) := est
      clear est
      obtain ⟨u0, hu0⟩ := ownsCell hrow j (by omega)
      have hf0 := hrow.frozenAt j
      go_wp2
      go_roundw
      case rel =>
        have hst := (hrow.stored j (.int .i64 x)).1
        rw [HE.out] at hst
        exact ⟨j + 1, by omega, by go_num, hst, hb.setCell (p := ⟨w.heap.size, j, none⟩) (Nat.le_refl _) _⟩
      case measure => simp [intOf]; omega
    · go_wp2
      go_ret
      obtain rfl : j = L.length := by omega
      rw [laidI_all] at hrow
      exact ⟨⟨_, rfl, hrow⟩, hb⟩
theorem markIk_own {b : Nat} (v : Value) (k : Nat) (L : List Int) (w : World) (h : w.ownsRow b 3 1 v L.length (cellsI L)) (hn : k + L.length ≤ 10000000) :
    Calls Tryz.prog 45 #[v, .int .i64 k] w fun e w' => e = .returned (.int .i64 ((k + L.length : Nat) : Int)) ∧ w'.ownsRow b 3 1 v L.length (cellsI (mkI k L.length)) ∧ w.grownBy w' v.ownBlock := by
  rcases h.2 with ⟨rfl, hn0⟩ | ⟨g, cap, cur, rfl, _⟩
  · refine (markIS_nil k w).mono ?_
    rintro e w' ⟨rfl, rfl⟩
    rw [hn0]
    exact ⟨rfl, World.ownsRow_nil _ _ _ _, World.grownBy.refl _ _⟩
  · refine (markIS_any b g cap k L w h hn).mono ?_
    rintro e w' ⟨rfl, h2, h3⟩
    exact ⟨rfl, h2, h3⟩
end Go.Proofs.YthfffpdkmoclbaaGreatDoor.W
