
/-
  The walks of the exact laws' own 'markHseLineS' and 'heldHseLineS', over rows that a call has made. Rows of at most 1048576 lines.
-/
import Derived.Test.YtcaimlbibhaigaaRowH
import Derived.Test.YtcaimlbibhaigaaMathOwn
import Derived.Test.YtcaimlbibhaigaaMathExt
namespace Go.Proofs.Ytcaimlbibhaigaa.W
open Go.RowKit

theorem cellsH_set (L : List LN) (j : Nat) (x : LN) : ((((cellsH L).set (j * 4) (.int .i64 x.user)).set (j * 4 + 1) (.int .i64 x.repo)).set (j * 4 + 2) (.int .i64 x.kind)).set (j * 4 + 3) (.int .i64 x.code) = cellsH (L.set j x) := by
  induction L generalizing j with
  | nil => simp [cellsH]
  | cons y l ih =>
    cases j with
    | zero => rw [List.set_cons_zero, cellsH_cons, cellsH_cons]; rfl
    | succ j =>
      rw [List.set_cons_succ, cellsH_cons, cellsH_cons, ← ih j, show (j + 1) * 4 = j * 4 + 1 + 1 + 1 + 1 by omega]
      simp
/-- a line of marks, from k on -/
def mk1H (k : Nat) : LN := ⟨(k : Int), ((k + 1 : Nat) : Int), ((k + 2 : Nat) : Int), ((k + 3 : Nat) : Int)⟩
def mkH (k n : Nat) : List LN := (List.range n).map fun j => mk1H (k + j * 4)
theorem mkH_length (k n : Nat) : (mkH k n).length = n := by simp [mkH]
def markedH (L : List LN) (k j : Nat) : List LN := mkH k j ++ L.drop j
theorem markedH_zero (L : List LN) (k : Nat) : markedH L k 0 = L := by simp [markedH, mkH]
theorem markedH_all (L : List LN) (k : Nat) : markedH L k L.length = mkH k L.length := by simp [markedH]
theorem markedH_step (L : List LN) (k j : Nat) (h : j < L.length) : (markedH L k j).set j (mk1H (k + j * 4)) = markedH L k (j + 1) := by
  unfold markedH
  rw [List.set_append_right _ _ (by rw [mkH_length]; omega), mkH_length, Nat.sub_self, List.drop_eq_getElem_cons h, List.set_cons_zero]
  have e : mkH k (j + 1) = mkH k j ++ [mk1H (k + j * 4)] := by
    unfold mkH; rw [List.range_succ, List.map_append]; rfl
  rw [e]; simp
theorem mkH_get (k n j : Nat) (h : j < (mkH k n).length) : (mkH k n)[j] = mk1H (k + j * 4) := by simp [mkH]
theorem grownTH {w w' w'' : World} {r : Option Nat} (h : w.grownBy w' r) (k : w'.grownBy w'' r) : w.grownBy w'' r :=
  ⟨k.os.trans h.os, k.tape.trans h.tape, k.output.trans h.output, Nat.le_trans h.size k.size, fun i hi hn => (k.block i (Nat.lt_of_lt_of_le hi h.size) hn).trans (h.block i hi hn)⟩
theorem grownSH (w : World) (g j : Nat) (u : Value) : w.grownBy (w.setCell ⟨g, j, none⟩ u) (some g) :=
  ⟨rfl, rfl, rfl, by simp [World.setCell], fun k _ hn => Below.heap_setCell _ _ _ _ (fun e => hn (by rw [e]))⟩

set_option maxHeartbeats 2000000 in
theorem markHS_any (base g cap k : Nat) (L : List LN) (w : World) (hown : w.ownsRow base 31 4 (.slice (some ⟨g, 0, none⟩) L.length cap) L.length (cellsH L)) (_h1 : 1 ≤ k) (h2 : k + L.length * 4 ≤ 10000000) :
    Calls Try.prog 9 #[.slice (some ⟨g, 0, none⟩) L.length cap, .int .i64 k] w fun e w' => e = .returned (.int .i64 ((k + L.length * 4 : Nat) : Int)) ∧ w'.ownsRow base 31 4 (.slice (some ⟨g, 0, none⟩) L.length cap) L.length (cellsH (mkH k L.length)) ∧ w.grownBy w' (some g) := by
  go_enter Try.func9, Try.ntmps9
  go_wp2
  go_loopw [1, 5] (fun kk i wr => ∃ j : Nat, j ≤ L.length ∧ i = .int .i64 j ∧ kk = .int .i64 ((k + j * 4 : Nat) : Int) ∧ wr.ownsRow base 31 4 (.slice (some ⟨g, 0, none⟩) L.length cap) L.length (cellsH (markedH L k j)) ∧ w.grownBy wr (some g)) (fun _ i _ => L.length - (intOf i).toNat)
  case atStart => exact ⟨0, Nat.zero_le _, rfl, rfl, by rw [markedH_zero]; exact hown, World.grownBy.refl _ _⟩
  case round =>
    obtain ⟨j, hj, rfl, rfl, hrow, hb⟩ := hrel
    by_cases hlt : j < L.length
    · have r1 := (hrow.stored (j * 4) (.int .i64 ((k + j * 4 : Nat) : Int))).1
      have r2 := (r1.stored (j * 4 + 1) (.int .i64 ((k + j * 4 + 1 : Nat) : Int))).1
      have r3 := (r2.stored (j * 4 + 2) (.int .i64 ((k + j * 4 + 2 : Nat) : Int))).1
      have r4 := (r3.stored (j * 4 + 3) (.int .i64 ((k + j * 4 + 3 : Nat) : Int))).1
      have hf0 := hrow.frozenAt (j * 4)
      obtain ⟨u0, hu0⟩ := ownsCell hrow (j * 4) (by omega)
      have hf1 := hrow.frozenAt (j * 4 + 1)
      obtain ⟨u1, hu1⟩ := ownsCell hrow (j * 4 + 1) (by omega)
      have hf2 := hrow.frozenAt (j * 4 + 2)
      obtain ⟨u2, hu2⟩ := ownsCell hrow (j * 4 + 2) (by omega)
      have hf3 := hrow.frozenAt (j * 4 + 3)
      obtain ⟨u3, hu3⟩ := ownsCell hrow (j * 4 + 3) (by omega)
      have est := cellsH_set (markedH L k j) j (mk1H (k + j * 4))
      rw [markedH_step L k j hlt] at est
      have est' : ((((cellsH (markedH L k j)).set (j * 4) (.int .i64 ((k + j * 4 : Nat) : Int))).set (j * 4 + 1) (.int .i64 ((k + j * 4 + 1 : Nat) : Int))).set (j * 4 + 2) (.int .i64 ((k + j * 4 + 2 : Nat) : Int))).set (j * 4 + 3) (.int .i64 ((k + j * 4 + 3 : Nat) : Int)) = cellsH (markedH L k (j + 1)) := est
      rw [est'] at r4
      have hb' := grownTH (grownTH (grownTH (grownTH hb (grownSH wr g (j * 4) (.int .i64 ((k + j * 4 : Nat) : Int)))) (grownSH _ g (j * 4 + 1) (.int .i64 ((k + j * 4 + 1 : Nat) : Int)))) (grownSH _ g (j * 4 + 2) (.int .i64 ((k + j * 4 + 2 : Nat) : Int)))) (grownSH _ g (j * 4 + 3) (.int .i64 ((k + j * 4 + 3 : Nat) : Int)))
      have HR : Hid ((((wr.setCell ⟨g, j * 4, none⟩ (.int .i64 ((k + j * 4 : Nat) : Int))).setCell ⟨g, j * 4 + 1, none⟩ (.int .i64 ((k + j * 4 + 1 : Nat) : Int))).setCell ⟨g, j * 4 + 2, none⟩ (.int .i64 ((k + j * 4 + 2 : Nat) : Int))).setCell ⟨g, j * 4 + 3, none⟩ (.int .i64 ((k + j * 4 + 3 : Nat) : Int)) |>.ownsRow base 31 4 (.slice (some ⟨g, 0, none⟩) L.length cap) L.length (cellsH (markedH L k (j + 1)))) := r4
      have HB : Hid (w.grownBy ((((wr.setCell ⟨g, j * 4, none⟩ (.int .i64 ((k + j * 4 : Nat) : Int))).setCell ⟨g, j * 4 + 1, none⟩ (.int .i64 ((k + j * 4 + 1 : Nat) : Int))).setCell ⟨g, j * 4 + 2, none⟩ (.int .i64 ((k + j * 4 + 2 : Nat) : Int))).setCell ⟨g, j * 4 + 3, none⟩ (.int .i64 ((k + j * 4 + 3 : Nat) : Int))) (some g)) := hb'
      clear hrow hb r1 r2 r3 r4 est est' hb'
      go_wp2
      go_roundw
      case rel => exact ⟨j + 1, by omega, by go_num, by go_num, HR.out, HB.out⟩
      case measure => simp [intOf]; omega
    · go_wp2
      go_ret
      obtain rfl : j = L.length := by omega
      rw [markedH_all] at hrow
      exact ⟨rfl, hrow, hb⟩

set_option maxHeartbeats 400000 in
theorem markHS_nil (k : Nat) (w : World) :
    Calls Try.prog 9 #[.slice none 0 0, .int .i64 k] w fun e w' => e = .returned (.int .i64 k) ∧ w = w' := by
  go_enter Try.func9, Try.ntmps9
  go_wp2
  refine wp_loop_rounds 1 ?_
  rw [rounds_succ]
  go_wp2
  go_ret
  exact ⟨rfl, rfl⟩
theorem markH_own {b : Nat} (v : Value) (L : List LN) (w : World) (h : w.ownsRow b 31 4 v L.length (cellsH L)) (hn : L.length ≤ 1048576) :
    Calls Try.prog 9 #[v, .int .i64 1] w fun e w' => e = .returned (.int .i64 ((1 + L.length * 4 : Nat) : Int)) ∧ w'.ownsRow b 31 4 v L.length (cellsH (mkH 1 L.length)) ∧ w.grownBy w' v.ownBlock := by
  rcases h.2 with ⟨rfl, hn0⟩ | ⟨g, cap, cur, rfl, _⟩
  · refine (markHS_nil 1 w).mono ?_
    rintro e w' ⟨rfl, rfl⟩
    rw [hn0]
    exact ⟨rfl, World.ownsRow_nil _ _ _ _, World.grownBy.refl _ _⟩
  · refine (markHS_any b g cap 1 L w h (Nat.le_refl _) (by omega)).mono ?_
    rintro e w' ⟨rfl, h2, h3⟩
    exact ⟨rfl, h2, h3⟩

set_option maxHeartbeats 2000000 in
theorem heldHS_any (A : Option Addr) (c k n : Nat) (w : World) (hR : RdH w.heap.size w A (mkH k n)) (_h1 : 1 ≤ k) (h2 : k + n * 4 ≤ 10000000) :
    Calls Try.prog 10 #[.slice A n c, .int .i64 k] w fun e w' => e = .returned (.int .i64 ((k + n * 4 : Nat) : Int)) ∧ Below w.heap.size w w' := by
  have HR : Hid (RdH w.heap.size w A (mkH k n)) := hR
  clear hR
  go_enter Try.func10, Try.ntmps10
  go_wp2
  go_loopw [1, 5] (fun kk i wr => ∃ j : Nat, j ≤ n ∧ i = .int .i64 j ∧ kk = .int .i64 ((k + j * 4 : Nat) : Int) ∧ Below w.heap.size w wr) (fun _ i _ => n - (intOf i).toNat)
  case atStart => exact ⟨0, Nat.zero_le _, rfl, rfl, Below.refl _ _⟩
  case round =>
    obtain ⟨j, hj, rfl, rfl, hb⟩ := hrel
    have hsz := hb.size
    by_cases hlt : j < n
    · obtain ⟨b, o, rfl, hbl, c1, c2, c3, c4⟩ := (HR.out.below hb (Nat.le_refl _)) j (by rw [mkH_length]; exact hlt)
      rw [mkH_get] at c1 c2 c3 c4
      have e1 : (mk1H (k + j * 4)).user = ((k + j * 4 : Nat) : Int) := rfl
      have e2 : (mk1H (k + j * 4)).repo = ((k + j * 4 + 1 : Nat) : Int) := rfl
      have e3 : (mk1H (k + j * 4)).kind = ((k + j * 4 + 2 : Nat) : Int) := rfl
      have e4 : (mk1H (k + j * 4)).code = ((k + j * 4 + 3 : Nat) : Int) := rfl
      rw [e1] at c1
      rw [e2] at c2
      rw [e3] at c3
      rw [e4] at c4
      clear e1 e2 e3 e4
      go_wp2
      go_roundw
      case rel => exact ⟨j + 1, by omega, by go_num, by go_num, hb⟩
      case measure => simp [intOf]; omega
    · go_wp2
      go_ret
      obtain rfl : j = n := by omega
      exact ⟨rfl, hb⟩
theorem heldH_own {b : Nat} {e : TypeId} (v : Value) (n : Nat) (w : World) (h : w.ownsRow b e 4 v n (cellsH (mkH 1 n))) (hn : n ≤ 1048576) :
    Calls Try.prog 10 #[v, .int .i64 1] w fun e w' => e = .returned (.int .i64 ((1 + n * 4 : Nat) : Int)) ∧ Below w.heap.size w w' := by
  have h' : w.ownsRow b e 4 v (mkH 1 n).length (cellsH (mkH 1 n)) := by rw [mkH_length]; exact h
  obtain ⟨A, c, rfl, r1⟩ := rdH_of_own h'
  rw [mkH_length]
  exact heldHS_any A c 1 n w r1 (Nat.le_refl _) (by omega)
end Go.Proofs.Ytcaimlbibhaigaa.W
