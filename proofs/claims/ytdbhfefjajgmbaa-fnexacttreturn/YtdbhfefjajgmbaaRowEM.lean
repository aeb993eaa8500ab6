
/-
  The walk of the exact laws' own 'markTreEditS', over rows that a call has made. Rows of at most 1048576 edits.
-/
import Derived.Test.YtdbhfefjajgmbaaRowE
import Derived.Test.YtdbhfefjajgmbaaRowFM
namespace Go.Proofs.Ytdbhfefjajgmbaa.W
open Go.RowKit

theorem cellsE_set (L : List TE) (j : Nat) (x : TE) : (((cellsE L).set (j * 3) (.string x.pa)).set (j * 3 + 1) (.string x.by_)).set (j * 3 + 2) (.bool x.gone) = cellsE (L.set j x) := by
  induction L generalizing j with
  | nil => simp [cellsE]
  | cons y l ih =>
    cases j with
    | zero => rw [List.set_cons_zero, cellsE_cons, cellsE_cons]; rfl
    | succ j =>
      rw [List.set_cons_succ, cellsE_cons, cellsE_cons, ← ih j, show (j + 1) * 3 = j * 3 + 1 + 1 + 1 by omega]
      simp
/-- an edit of marks, from k on -/
def mkE1 (k : Nat) : TE := ⟨⟨(markL k).toArray⟩, ⟨(markL (k + 1)).toArray⟩, ((k + 2 : Nat) : Int) % 3 == 0⟩
def mkE (k n : Nat) : List TE := (List.range n).map fun j => mkE1 (k + j * 3)
theorem mkE_length (k n : Nat) : (mkE k n).length = n := by simp [mkE]
def markedE (L : List TE) (k j : Nat) : List TE := mkE k j ++ L.drop j
theorem markedE_zero (L : List TE) (k : Nat) : markedE L k 0 = L := by simp [markedE, mkE]
theorem markedE_all (L : List TE) (k : Nat) : markedE L k L.length = mkE k L.length := by simp [markedE]
theorem markedE_step (L : List TE) (k j : Nat) (h : j < L.length) : (markedE L k j).set j (mkE1 (k + j * 3)) = markedE L k (j + 1) := by
  unfold markedE
  rw [List.set_append_right _ _ (by rw [mkE_length]; omega), mkE_length, Nat.sub_self, List.drop_eq_getElem_cons h, List.set_cons_zero]
  have e : mkE k (j + 1) = mkE k j ++ [mkE1 (k + j * 3)] := by
    unfold mkE; rw [List.range_succ, List.map_append]; rfl
  rw [e]; simp

set_option maxHeartbeats 2000000 in
theorem markES_any (base g cap k : Nat) (L : List TE) (w : World) (hown : w.ownsRow base 52 3 (.slice (some ⟨g, 0, none⟩) L.length cap) L.length (cellsE L)) (h1 : 1 ≤ k) (h2 : k + L.length * 3 ≤ 10000000) :
    Calls Try.prog 14 #[.slice (some ⟨g, 0, none⟩) L.length cap, .int .i64 k] w fun e w' => e = .returned (.int .i64 ((k + L.length * 3 : Nat) : Int)) ∧ w.grownBy w' (some g) := by
  go_enter Try.func14, Try.ntmps14
  go_wp2
  go_loopw [1, 5] (fun kk i wr => ∃ j : Nat, j ≤ L.length ∧ i = .int .i64 j ∧ kk = .int .i64 ((k + j * 3 : Nat) : Int) ∧ wr.ownsRow base 52 3 (.slice (some ⟨g, 0, none⟩) L.length cap) L.length (cellsE (markedE L k j)) ∧ w.grownBy wr (some g)) (fun _ i _ => L.length - (intOf i).toNat)
  case atStart => exact ⟨0, Nat.zero_le _, rfl, rfl, by rw [markedE_zero]; exact hown, World.grownBy.refl _ _⟩
  case round =>
    obtain ⟨j, hj, rfl, rfl, hrow, hb⟩ := hrel
    by_cases hlt : j < L.length
    · have HR0 : Hid (wr.ownsRow base 52 3 (.slice (some ⟨g, 0, none⟩) L.length cap) L.length (cellsE (markedE L k j))) := hrow
      have HB : Hid (w.grownBy wr (some g)) := hb
      have tk : True := trivial
      clear hrow hb
      go_wp2_with (first
        | (go_at_call 34; have _t := tk; refine (markText_any (k + j * 3) _ (by omega) (by omega)).mono ?_; rintro e w1 ⟨rfl, hb1⟩; clear _t tk; have hrow1 := ownsUnder HR0.out hb1 (Nat.le_refl _); have hf1 := hrow1.frozenAt (j * 3); obtain ⟨u1, hu1⟩ := ownsCell hrow1 (j * 3) (by omega); have HR1 : Hid ((w1.setCell ⟨g, j * 3, none⟩ (.string ⟨(markL (k + j * 3)).toArray⟩)).ownsRow base 52 3 (.slice (some ⟨g, 0, none⟩) L.length cap) L.length ((cellsE (markedE L k j)).set (j * 3) (.string ⟨(markL (k + j * 3)).toArray⟩))) := (hrow1.stored (j * 3) _).1; clear hrow1)
        | (go_at_call 34; refine (markText_any (k + j * 3 + 1) _ (by omega) (by omega)).mono ?_; rintro e w2 ⟨rfl, hb2⟩; have hrow2 := ownsUnder HR1.out hb2 (Nat.le_refl _); have hf2 := hrow2.frozenAt (j * 3 + 1); obtain ⟨u2, hu2⟩ := ownsCell hrow2 (j * 3 + 1) (by omega); have hf3 := (hrow2.stored (j * 3 + 1) (.string ⟨(markL (k + j * 3 + 1)).toArray⟩)).1.frozenAt (j * 3 + 2); obtain ⟨u3, hu3⟩ := ownsCell (hrow2.stored (j * 3 + 1) (.string ⟨(markL (k + j * 3 + 1)).toArray⟩)).1 (j * 3 + 2) (by omega)))
      go_roundw
      case rel =>
        have hst := ((hrow2.stored (j * 3 + 1) (.string ⟨(markL (k + j * 3 + 1)).toArray⟩)).1.stored (j * 3 + 2) (.bool (((k + j * 3 + 2 : Nat) : Int) % 3 == 0))).1
        have est := cellsE_set (markedE L k j) j (mkE1 (k + j * 3))
        rw [markedE_step L k j hlt] at est
        have est' : (((cellsE (markedE L k j)).set (j * 3) (.string ⟨(markL (k + j * 3)).toArray⟩)).set (j * 3 + 1) (.string ⟨(markL (k + j * 3 + 1)).toArray⟩)).set (j * 3 + 2) (.bool (((k + j * 3 + 2 : Nat) : Int) % 3 == 0)) = cellsE (markedE L k (j + 1)) := est
        rw [est'] at hst
        exact ⟨j + 1, by omega, by go_num, by go_num, hst, grownT (grownT (grownT (grownT (grownT HB.out (grownB hb1)) (grownS w1 g (j * 3) _)) (grownB hb2)) (grownS w2 g (j * 3 + 1) _)) (grownS _ g (j * 3 + 2) _)⟩
      case measure => simp [intOf]; omega
    · go_wp2
      go_ret
      obtain rfl : j = L.length := by omega
      exact ⟨rfl, hb⟩

set_option maxHeartbeats 400000 in
theorem markES_nil (k : Nat) (w : World) :
    Calls Try.prog 14 #[.slice none 0 0, .int .i64 k] w fun e w' => e = .returned (.int .i64 k) ∧ w = w' := by
  go_enter Try.func14, Try.ntmps14
  go_wp2
  refine wp_loop_rounds 1 ?_
  rw [rounds_succ]
  go_wp2
  go_ret
  exact ⟨rfl, rfl⟩
theorem markE_own {b : Nat} (v : Value) (L : List TE) (k : Nat) (w : World) (h : w.ownsRow b 52 3 v L.length (cellsE L)) (hn : L.length ≤ 1048576) (h1 : 1 ≤ k) (h2 : k ≤ 5000000) :
    Calls Try.prog 14 #[v, .int .i64 k] w fun e w' => e = .returned (.int .i64 ((k + L.length * 3 : Nat) : Int)) ∧ w.grownBy w' v.ownBlock := by
  rcases h.2 with ⟨rfl, hn0⟩ | ⟨g, cap, cur, rfl, _⟩
  · refine (markES_nil k w).mono ?_
    rintro e w' ⟨rfl, rfl⟩
    rw [hn0]
    exact ⟨rfl, World.grownBy.refl _ _⟩
  · exact (markES_any b g cap k L w h h1 (by omega))
end Go.Proofs.Ytdbhfefjajgmbaa.W
