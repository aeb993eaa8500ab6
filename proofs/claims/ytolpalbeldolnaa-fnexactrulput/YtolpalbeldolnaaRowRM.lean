
/-
  The walks of the exact laws' own 'markRulRuleS' and 'heldRulRuleS', over rows that a call has made. Rows of at most 1048576 rules.
-/
import Derived.Test.YtolpalbeldolnaaRowR
import Derived.Test.YtolpalbeldolnaaWalkMarkT
import Derived.Test.YtolpalbeldolnaaMathOwn
import Derived.Test.YtolpalbeldolnaaMathTxt
import Derived.Test.YtolpalbeldolnaaMathExt
namespace Go.Proofs.Ytolpalbeldolnaa.W
open Go.RowKit

theorem cellsR_set (L : List RR) (j : Nat) (x : RR) : ((((cellsR L).set (j * 4) (.int .i64 x.user)).set (j * 4 + 1) (.string x.ref)).set (j * 4 + 2) (.string x.path)).set (j * 4 + 3) (.bool x.write) = cellsR (L.set j x) := by
  induction L generalizing j with
  | nil => simp [cellsR]
  | cons y l ih =>
    cases j with
    | zero => rw [List.set_cons_zero, cellsR_cons, cellsR_cons]; rfl
    | succ j =>
      rw [List.set_cons_succ, cellsR_cons, cellsR_cons, ← ih j, show (j + 1) * 4 = j * 4 + 1 + 1 + 1 + 1 by omega]
      simp
/-- a rule of marks, from k on -/
def mk1 (k : Nat) : RR := ⟨(k : Int), ⟨(markL (k + 1)).toArray⟩, ⟨(markL (k + 2)).toArray⟩, ((k + 3 : Nat) : Int) % 3 == 0⟩
def mkR (k n : Nat) : List RR := (List.range n).map fun j => mk1 (k + j * 4)
theorem mkR_length (k n : Nat) : (mkR k n).length = n := by simp [mkR]
def markedR (L : List RR) (k j : Nat) : List RR := mkR k j ++ L.drop j
theorem markedR_zero (L : List RR) (k : Nat) : markedR L k 0 = L := by simp [markedR, mkR]
theorem markedR_all (L : List RR) (k : Nat) : markedR L k L.length = mkR k L.length := by simp [markedR]
theorem markedR_step (L : List RR) (k j : Nat) (h : j < L.length) : (markedR L k j).set j (mk1 (k + j * 4)) = markedR L k (j + 1) := by
  unfold markedR
  rw [List.set_append_right _ _ (by rw [mkR_length]; omega), mkR_length, Nat.sub_self, List.drop_eq_getElem_cons h, List.set_cons_zero]
  have e : mkR k (j + 1) = mkR k j ++ [mk1 (k + j * 4)] := by
    unfold mkR; rw [List.range_succ, List.map_append]; rfl
  rw [e]; simp
theorem mkR_get (k n j : Nat) (h : j < (mkR k n).length) : (mkR k n)[j] = mk1 (k + j * 4) := by simp [mkR]
theorem grownT {w w' w'' : World} {r : Option Nat} (h : w.grownBy w' r) (k : w'.grownBy w'' r) : w.grownBy w'' r :=
  ⟨k.os.trans h.os, k.tape.trans h.tape, k.output.trans h.output, Nat.le_trans h.size k.size, fun i hi hn => (k.block i (Nat.lt_of_lt_of_le hi h.size) hn).trans (h.block i hi hn)⟩
theorem grownS (w : World) (g j : Nat) (u : Value) : w.grownBy (w.setCell ⟨g, j, none⟩ u) (some g) :=
  ⟨rfl, rfl, rfl, by simp [World.setCell], fun k _ hn => Below.heap_setCell _ _ _ _ (fun e => hn (by rw [e]))⟩
theorem grownB {w w' : World} {r : Option Nat} (h : Below w.heap.size w w') : w.grownBy w' r := ⟨h.os, h.tape, h.output, h.size, fun k hk _ => h.block k hk⟩

set_option maxHeartbeats 2000000 in
theorem markRS_any (base g cap k : Nat) (L : List RR) (w : World) (hown : w.ownsRow base 26 4 (.slice (some ⟨g, 0, none⟩) L.length cap) L.length (cellsR L)) (h1 : 1 ≤ k) (h2 : k + L.length * 4 ≤ 10000000) :
    Calls Try.prog 24 #[.slice (some ⟨g, 0, none⟩) L.length cap, .int .i64 k] w fun e w' => e = .returned (.int .i64 ((k + L.length * 4 : Nat) : Int)) ∧ w'.ownsRow base 26 4 (.slice (some ⟨g, 0, none⟩) L.length cap) L.length (cellsR (mkR k L.length)) ∧ w.grownBy w' (some g) := by
  go_enter Try.func24, Try.ntmps24
  go_wp2
  go_loopw [1, 5] (fun kk i wr => ∃ j : Nat, j ≤ L.length ∧ i = .int .i64 j ∧ kk = .int .i64 ((k + j * 4 : Nat) : Int) ∧ wr.ownsRow base 26 4 (.slice (some ⟨g, 0, none⟩) L.length cap) L.length (cellsR (markedR L k j)) ∧ w.grownBy wr (some g)) (fun _ i _ => L.length - (intOf i).toNat)
  case atStart => exact ⟨0, Nat.zero_le _, rfl, rfl, by rw [markedR_zero]; exact hown, World.grownBy.refl _ _⟩
  case round =>
    obtain ⟨j, hj, rfl, rfl, hrow, hb⟩ := hrel
    by_cases hlt : j < L.length
    · have hf0 := hrow.frozenAt (j * 4)
      obtain ⟨u0, hu0⟩ := ownsCell hrow (j * 4) (by omega)
      have HR0 : Hid ((wr.setCell ⟨g, j * 4, none⟩ (.int .i64 ((k + j * 4 : Nat) : Int))).ownsRow base 26 4 (.slice (some ⟨g, 0, none⟩) L.length cap) L.length ((cellsR (markedR L k j)).set (j * 4) (.int .i64 ((k + j * 4 : Nat) : Int)))) := (hrow.stored (j * 4) (.int .i64 ((k + j * 4 : Nat) : Int))).1
      have HB : Hid (w.grownBy wr (some g)) := hb
      have tk : True := trivial
      clear hrow hb
      go_wp2_with (first
        | (go_at_call 42; have _t := tk; refine (markText_any (k + j * 4 + 1) _ (by omega) (by omega)).mono ?_; rintro e w1 ⟨rfl, hb1⟩; clear _t tk; have hrow1 := ownsUnder HR0.out hb1 (Nat.le_refl _); have hf1 := hrow1.frozenAt (j * 4 + 1); obtain ⟨u1, hu1⟩ := ownsCell hrow1 (j * 4 + 1) (by omega); have HR1 : Hid ((w1.setCell ⟨g, j * 4 + 1, none⟩ (.string ⟨(markL (k + j * 4 + 1)).toArray⟩)).ownsRow base 26 4 (.slice (some ⟨g, 0, none⟩) L.length cap) L.length (((cellsR (markedR L k j)).set (j * 4) (.int .i64 ((k + j * 4 : Nat) : Int))).set (j * 4 + 1) (.string ⟨(markL (k + j * 4 + 1)).toArray⟩))) := (hrow1.stored (j * 4 + 1) _).1; clear hrow1)
        | (go_at_call 42; refine (markText_any (k + j * 4 + 2) _ (by omega) (by omega)).mono ?_; rintro e w2 ⟨rfl, hb2⟩; have hrow2 := ownsUnder HR1.out hb2 (Nat.le_refl _); have hf2 := hrow2.frozenAt (j * 4 + 2); obtain ⟨u2, hu2⟩ := ownsCell hrow2 (j * 4 + 2) (by omega); have hf3 := (hrow2.stored (j * 4 + 2) (.string ⟨(markL (k + j * 4 + 2)).toArray⟩)).1.frozenAt (j * 4 + 3); obtain ⟨u3, hu3⟩ := ownsCell (hrow2.stored (j * 4 + 2) (.string ⟨(markL (k + j * 4 + 2)).toArray⟩)).1 (j * 4 + 3) (by omega)))
      go_roundw
      case rel =>
        have hst := ((hrow2.stored (j * 4 + 2) (.string ⟨(markL (k + j * 4 + 2)).toArray⟩)).1.stored (j * 4 + 3) (.bool (((k + j * 4 + 3 : Nat) : Int) % 3 == 0))).1
        have est := cellsR_set (markedR L k j) j (mk1 (k + j * 4))
        rw [markedR_step L k j hlt] at est
        have est' : ((((cellsR (markedR L k j)).set (j * 4) (.int .i64 ((k + j * 4 : Nat) : Int))).set (j * 4 + 1) (.string ⟨(markL (k + j * 4 + 1)).toArray⟩)).set (j * 4 + 2) (.string ⟨(markL (k + j * 4 + 2)).toArray⟩)).set (j * 4 + 3) (.bool (((k + j * 4 + 3 : Nat) : Int) % 3 == 0)) = cellsR (markedR L k (j + 1)) := est
        rw [est'] at hst
        exact ⟨j + 1, by omega, by go_num, by go_num, hst, grownT (grownT (grownT (grownT (grownT (grownT HB.out (grownS wr g (j * 4) _)) (grownB hb1)) (grownS w1 g (j * 4 + 1) _)) (grownB hb2)) (grownS w2 g (j * 4 + 2) _)) (grownS _ g (j * 4 + 3) _)⟩
      case measure => simp [intOf]; omega
    · go_wp2
      go_ret
      obtain rfl : j = L.length := by omega
      rw [markedR_all] at hrow
      exact ⟨rfl, hrow, hb⟩

set_option maxHeartbeats 400000 in
theorem markRS_nil (k : Nat) (w : World) :
    Calls Try.prog 24 #[.slice none 0 0, .int .i64 k] w fun e w' => e = .returned (.int .i64 k) ∧ w = w' := by
  go_enter Try.func24, Try.ntmps24
  go_wp2
  refine wp_loop_rounds 1 ?_
  rw [rounds_succ]
  go_wp2
  go_ret
  exact ⟨rfl, rfl⟩
theorem markR_own {b : Nat} (v : Value) (L : List RR) (w : World) (h : w.ownsRow b 26 4 v L.length (cellsR L)) (hn : L.length ≤ 1048576) :
    Calls Try.prog 24 #[v, .int .i64 1] w fun e w' => e = .returned (.int .i64 ((1 + L.length * 4 : Nat) : Int)) ∧ w'.ownsRow b 26 4 v L.length (cellsR (mkR 1 L.length)) ∧ w.grownBy w' v.ownBlock := by
  rcases h.2 with ⟨rfl, hn0⟩ | ⟨g, cap, cur, rfl, _⟩
  · refine (markRS_nil 1 w).mono ?_
    rintro e w' ⟨rfl, rfl⟩
    rw [hn0]
    exact ⟨rfl, World.ownsRow_nil _ _ _ _, World.grownBy.refl _ _⟩
  · refine (markRS_any b g cap 1 L w h (Nat.le_refl _) (by omega)).mono ?_
    rintro e w' ⟨rfl, h2, h3⟩
    exact ⟨rfl, h2, h3⟩

theorem markText_ext (k : Nat) (w : World) (h1 : 1 ≤ k) (h2 : k ≤ 100000000) : ∀ x : Ext w, Calls Try.prog 42 #[.int .i64 k] x.world fun e w'' => e = .returned (.string ⟨(markL k).toArray⟩) ∧ ∃ y : Ext w, w'' = y.world :=
  fun _ => calls_ext (markText_any k _ h1 h2)

set_option maxHeartbeats 4000000 in
theorem heldRS_any (A : Option Addr) (c k n : Nat) (w : World) (hR : RdR w.heap.size w A (mkR k n)) (h1 : 1 ≤ k) (h2 : k + n * 4 ≤ 10000000) :
    Calls Try.prog 25 #[.slice A n c, .int .i64 k] w fun e w' => e = .returned (.int .i64 ((k + n * 4 : Nat) : Int)) ∧ Below w.heap.size w w' := by
  have HR : Hid (RdR w.heap.size w A (mkR k n)) := hR
  clear hR
  go_enter Try.func25, Try.ntmps25
  go_wp2
  go_loopw [1, 5] (fun kk i wr => ∃ j : Nat, j ≤ n ∧ i = .int .i64 j ∧ kk = .int .i64 ((k + j * 4 : Nat) : Int) ∧ Below w.heap.size w wr) (fun _ i _ => n - (intOf i).toNat)
  case atStart => exact ⟨0, Nat.zero_le _, rfl, rfl, Below.refl _ _⟩
  case round =>
    obtain ⟨j, hj, rfl, rfl, hb⟩ := hrel
    have hsz := hb.size
    by_cases hlt : j < n
    · obtain ⟨b, o, rfl, hbl, c1, c2, c3, c4⟩ := (HR.out.below hb (Nat.le_refl _)) j (by rw [mkR_length]; exact hlt)
      rw [mkR_get] at c1 c2 c3 c4
      have e1 : (mk1 (k + j * 4)).user = ((k + j * 4 : Nat) : Int) := rfl
      have e2 : (mk1 (k + j * 4)).ref = ⟨(markL (k + j * 4 + 1)).toArray⟩ := rfl
      have e3 : (mk1 (k + j * 4)).path = ⟨(markL (k + j * 4 + 2)).toArray⟩ := rfl
      have e4 : (mk1 (k + j * 4)).write = (((k + j * 4 + 3 : Nat) : Int) % 3 == 0) := rfl
      rw [e1] at c1
      rw [e2] at c2
      rw [e3] at c3
      rw [e4] at c4
      clear e1 e2 e3 e4
      have hne : Nonempty (Ext wr) := ⟨⟨wr, Below.refl _ _⟩⟩
      have x2 : ∀ x : Ext wr, x.world.cell? ⟨b, o + j * 4 + 1, none⟩ = some (.string ⟨(markL (k + j * 4 + 1)).toArray⟩) := fun x => x.cell c2
      go_wp2
      refine region_ext (by kernel_rfl) (by kernel_rfl) ?_
      repeat (go_big_quiet_step ((go_at_call 42; exact markText_ext (k + j * 4 + 1) _ (by omega) (by omega) _)))
      refine wpQuiet_nil ?_
      rintro _ ⟨y2, rfl⟩
      have hz2 := y2.below
      have hne : Nonempty (Ext y2.world) := ⟨⟨y2.world, Below.refl _ _⟩⟩
      have x3 : ∀ x : Ext y2.world, x.world.cell? ⟨b, o + j * 4 + 2, none⟩ = some (.string ⟨(markL (k + j * 4 + 2)).toArray⟩) := fun x => x.cell (y2.cell c3)
      go_wp2
      refine region_ext (by kernel_rfl) (by kernel_rfl) ?_
      repeat (go_big_quiet_step ((go_at_call 42; exact markText_ext (k + j * 4 + 2) _ (by omega) (by omega) _)))
      refine wpQuiet_nil ?_
      rintro _ ⟨y3, rfl⟩
      have hz3 := y3.below
      have c4' := y3.cell (y2.cell c4)
      clear x2 x3 c4
      by_cases h3 : (k + j * 4) % 3 = 0
      · have f0 : (((k + j * 4 + 3 : Nat) : Int) % 3 == 0) = true := by rw [beq_iff_eq]; omega
        have f1 : (((k : Int) + (j : Int) * 4 + 1 + 1 + 1) % 3 == 0) = true := by rw [beq_iff_eq]; omega
        rw [f0] at c4'
        clear f0 h3
        go_wp2
        go_roundw
        case rel => exact ⟨j + 1, by omega, by go_num, by go_num, (hb.trans (hz2.mono (by omega))).trans (hz3.mono (by have := hz2.size; omega))⟩
        case measure => simp [intOf]; omega
      · have f0 : (((k + j * 4 + 3 : Nat) : Int) % 3 == 0) = false := by rw [beq_eq_false_iff_ne]; omega
        have f1 : (((k : Int) + (j : Int) * 4 + 1 + 1 + 1) % 3 == 0) = false := by rw [beq_eq_false_iff_ne]; omega
        rw [f0] at c4'
        clear f0 h3
        go_wp2
        go_roundw
        case rel => exact ⟨j + 1, by omega, by go_num, by go_num, (hb.trans (hz2.mono (by omega))).trans (hz3.mono (by have := hz2.size; omega))⟩
        case measure => simp [intOf]; omega
    · go_wp2
      go_ret
      obtain rfl : j = n := by omega
      exact ⟨rfl, hb⟩
theorem heldR_own {b : Nat} {e : TypeId} (v : Value) (n : Nat) (w : World) (h : w.ownsRow b e 4 v n (cellsR (mkR 1 n))) (hn : n ≤ 1048576) :
    Calls Try.prog 25 #[v, .int .i64 1] w fun e w' => e = .returned (.int .i64 ((1 + n * 4 : Nat) : Int)) ∧ Below w.heap.size w w' := by
  have h' : w.ownsRow b e 4 v (mkR 1 n).length (cellsR (mkR 1 n)) := by rw [mkR_length]; exact h
  obtain ⟨A, c, rfl, r1⟩ := rdR_of_own h'
  rw [mkR_length]
  exact heldRS_any A c 1 n w r1 (Nat.le_refl _) (by omega)
end Go.Proofs.Ytolpalbeldolnaa.W
