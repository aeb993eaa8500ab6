
/-
  The walks of the exact laws' own 'markObjEntryS' and 'heldObjEntryS', over rows that a call has made. Rows of at most 1048576 entries.
-/
import Derived.Test.YtnkbgpkpbiolhaaDoorRowO
import Derived.Test.YtnkbgpkpbiolhaaDoorWalkMarkT
import Derived.Test.YtnkbgpkpbiolhaaDoorMathOwn
import Derived.Test.YtnkbgpkpbiolhaaDoorMathTxt
import Derived.Test.YtnkbgpkpbiolhaaDoorMathExt
namespace Go.Proofs.YtnkbgpkpbiolhaaDoor.W
open Go.RowKit

theorem cellsO_set (L : List OE) (j : Nat) (x : OE) : (((cellsO L).set (j * 3) (.string x.nm)).set (j * 3 + 1) (.bool x.sh)).set (j * 3 + 2) (.int .i64 x.id) = cellsO (L.set j x) := by
  induction L generalizing j with
  | nil => simp [cellsO]
  | cons y l ih =>
    cases j with
    | zero => rw [List.set_cons_zero, cellsO_cons, cellsO_cons]; rfl
    | succ j =>
      rw [List.set_cons_succ, cellsO_cons, cellsO_cons, ← ih j, show (j + 1) * 3 = j * 3 + 1 + 1 + 1 by omega]
      simp
/-- an entry of marks, from k on -/
def mkO1 (k : Nat) : OE := ⟨⟨(markL k).toArray⟩, ((k + 1 : Nat) : Int) % 3 == 0, ((k + 2 : Nat) : Int)⟩
def mkO (k n : Nat) : List OE := (List.range n).map fun j => mkO1 (k + j * 3)
theorem mkO_length (k n : Nat) : (mkO k n).length = n := by simp [mkO]
def markedO (L : List OE) (k j : Nat) : List OE := mkO k j ++ L.drop j
theorem markedO_zero (L : List OE) (k : Nat) : markedO L k 0 = L := by simp [markedO, mkO]
theorem markedO_all (L : List OE) (k : Nat) : markedO L k L.length = mkO k L.length := by simp [markedO]
theorem markedO_step (L : List OE) (k j : Nat) (h : j < L.length) : (markedO L k j).set j (mkO1 (k + j * 3)) = markedO L k (j + 1) := by
  unfold markedO
  rw [List.set_append_right _ _ (by rw [mkO_length]; omega), mkO_length, Nat.sub_self, List.drop_eq_getElem_cons h, List.set_cons_zero]
  have e : mkO k (j + 1) = mkO k j ++ [mkO1 (k + j * 3)] := by
    unfold mkO; rw [List.range_succ, List.map_append]; rfl
  rw [e]; simp
theorem mkO_get (k n j : Nat) (h : j < (mkO k n).length) : (mkO k n)[j] = mkO1 (k + j * 3) := by simp [mkO]
theorem grownTO {w w' w'' : World} {r : Option Nat} (h : w.grownBy w' r) (k : w'.grownBy w'' r) : w.grownBy w'' r :=
  ⟨k.os.trans h.os, k.tape.trans h.tape, k.output.trans h.output, Nat.le_trans h.size k.size, fun i hi hn => (k.block i (Nat.lt_of_lt_of_le hi h.size) hn).trans (h.block i hi hn)⟩
theorem grownSO (w : World) (g j : Nat) (u : Value) : w.grownBy (w.setCell ⟨g, j, none⟩ u) (some g) :=
  ⟨rfl, rfl, rfl, by simp [World.setCell], fun k _ hn => Below.heap_setCell _ _ _ _ (fun e => hn (by rw [e]))⟩
theorem grownBO {w w' : World} {r : Option Nat} (h : Below w.heap.size w w') : w.grownBy w' r := ⟨h.os, h.tape, h.output, h.size, fun k hk _ => h.block k hk⟩

set_option maxHeartbeats 2000000 in
theorem markOS_any (base g cap k : Nat) (L : List OE) (w : World) (hown : w.ownsRow base 43 3 (.slice (some ⟨g, 0, none⟩) L.length cap) L.length (cellsO L)) (h1 : 1 ≤ k) (h2 : k + L.length * 3 ≤ 10000000) :
    Calls Tryd.prog 10 #[.slice (some ⟨g, 0, none⟩) L.length cap, .int .i64 k] w fun e w' => e = .returned (.int .i64 ((k + L.length * 3 : Nat) : Int)) ∧ w'.ownsRow base 43 3 (.slice (some ⟨g, 0, none⟩) L.length cap) L.length (cellsO (mkO k L.length)) ∧ w.grownBy w' (some g) := by
  go_enter Tryd.func10, Tryd.ntmps10
  go_wp2
  go_loopw [1, 5] (fun kk i wr => ∃ j : Nat, j ≤ L.length ∧ i = .int .i64 j ∧ kk = .int .i64 ((k + j * 3 : Nat) : Int) ∧ wr.ownsRow base 43 3 (.slice (some ⟨g, 0, none⟩) L.length cap) L.length (cellsO (markedO L k j)) ∧ w.grownBy wr (some g)) (fun _ i _ => L.length - (intOf i).toNat)
  case atStart => exact ⟨0, Nat.zero_le _, rfl, rfl, by rw [markedO_zero]; exact hown, World.grownBy.refl _ _⟩
  case round =>
    obtain ⟨j, hj, rfl, rfl, hrow, hb⟩ := hrel
    by_cases hlt : j < L.length
    · have HB : Hid (w.grownBy wr (some g)) := hb
      have HR : Hid (wr.ownsRow base 43 3 (.slice (some ⟨g, 0, none⟩) L.length cap) L.length (cellsO (markedO L k j))) := hrow
      clear hrow hb
      go_wp2_with (go_at_call 25; refine (markText_any (k + j * 3) _ (by omega) (by omega)).mono ?_; rintro e w1 ⟨rfl, hb1⟩; have hrow1 := ownsUnder HR.out hb1 (Nat.le_refl _); have hf0 := hrow1.frozenAt (j * 3); obtain ⟨u0, hu0⟩ := ownsCell hrow1 (j * 3) (by omega); have hf1 := hrow1.frozenAt (j * 3 + 1); obtain ⟨u1, hu1⟩ := ownsCell hrow1 (j * 3 + 1) (by omega); have hf2 := hrow1.frozenAt (j * 3 + 2); obtain ⟨u2, hu2⟩ := ownsCell hrow1 (j * 3 + 2) (by omega))
      go_roundw
      case rel =>
        have hst := (((hrow1.stored (j * 3) (.string ⟨(markL (k + j * 3)).toArray⟩)).1.stored (j * 3 + 1) (.bool (((k + j * 3 + 1 : Nat) : Int) % 3 == 0))).1.stored (j * 3 + 2) (.int .i64 ((k + j * 3 + 2 : Nat) : Int))).1
        have est := cellsO_set (markedO L k j) j (mkO1 (k + j * 3))
        rw [markedO_step L k j hlt] at est
        have est' : (((cellsO (markedO L k j)).set (j * 3) (.string ⟨(markL (k + j * 3)).toArray⟩)).set (j * 3 + 1) (.bool (((k + j * 3 + 1 : Nat) : Int) % 3 == 0))).set (j * 3 + 2) (.int .i64 ((k + j * 3 + 2 : Nat) : Int)) = cellsO (markedO L k (j + 1)) := est
        rw [est'] at hst
        exact ⟨j + 1, by omega, by go_num, by go_num, hst, grownTO (grownTO (grownTO (grownTO HB.out (grownBO hb1)) (grownSO w1 g (j * 3) _)) (grownSO _ g (j * 3 + 1) _)) (grownSO _ g (j * 3 + 2) _)⟩
      case measure => simp [intOf]; omega
    · go_wp2
      go_ret
      obtain rfl : j = L.length := by omega
      rw [markedO_all] at hrow
      exact ⟨rfl, hrow, hb⟩
set_option maxHeartbeats 400000 in
theorem markOS_nil (k : Nat) (w : World) :
    Calls Tryd.prog 10 #[.slice none 0 0, .int .i64 k] w fun e w' => e = .returned (.int .i64 k) ∧ w = w' := by
  go_enter Tryd.func10, Tryd.ntmps10
  go_wp2
  refine wp_loop_rounds 1 ?_
  rw [rounds_succ]
  go_wp2
  go_ret
  exact ⟨rfl, rfl⟩
theorem markO_own {b : Nat} (v : Value) (L : List OE) (w : World) (h : w.ownsRow b 43 3 v L.length (cellsO L)) (hn : L.length ≤ 1048576) :
    Calls Tryd.prog 10 #[v, .int .i64 1] w fun e w' => e = .returned (.int .i64 ((1 + L.length * 3 : Nat) : Int)) ∧ w'.ownsRow b 43 3 v L.length (cellsO (mkO 1 L.length)) ∧ w.grownBy w' v.ownBlock := by
  rcases h.2 with ⟨rfl, hn0⟩ | ⟨g, cap, cur, rfl, _⟩
  · refine (markOS_nil 1 w).mono ?_
    rintro e w' ⟨rfl, rfl⟩
    rw [hn0]
    exact ⟨rfl, World.ownsRow_nil _ _ _ _, World.grownBy.refl _ _⟩
  · refine (markOS_any b g cap 1 L w h (Nat.le_refl _) (by omega)).mono ?_
    rintro e w' ⟨rfl, h2, h3⟩
    exact ⟨rfl, h2, h3⟩
theorem markText_extO (k : Nat) (w : World) (h1 : 1 ≤ k) (h2 : k ≤ 100000000) : ∀ x : Ext w, Calls Tryd.prog 25 #[.int .i64 k] x.world fun e w'' => e = .returned (.string ⟨(markL k).toArray⟩) ∧ ∃ y : Ext w, w'' = y.world :=
  fun _ => calls_ext (markText_any k _ h1 h2)
set_option maxHeartbeats 4000000 in
theorem heldOS_any (A : Option Addr) (c k n : Nat) (w : World) (hR : RdO w.heap.size w A (mkO k n)) (h1 : 1 ≤ k) (h2 : k + n * 3 ≤ 10000000) :
    Calls Tryd.prog 11 #[.slice A n c, .int .i64 k] w fun e w' => e = .returned (.int .i64 ((k + n * 3 : Nat) : Int)) ∧ Below w.heap.size w w' := by
  have HR : Hid (RdO w.heap.size w A (mkO k n)) := hR
  clear hR
  go_enter Tryd.func11, Tryd.ntmps11
  go_wp2
  go_loopw [1, 5] (fun kk i wr => ∃ j : Nat, j ≤ n ∧ i = .int .i64 j ∧ kk = .int .i64 ((k + j * 3 : Nat) : Int) ∧ Below w.heap.size w wr) (fun _ i _ => n - (intOf i).toNat)
  case atStart => exact ⟨0, Nat.zero_le _, rfl, rfl, Below.refl _ _⟩
  case round =>
    obtain ⟨j, hj, rfl, rfl, hb⟩ := hrel
    have hsz := hb.size
    by_cases hlt : j < n
    · obtain ⟨b, o, rfl, hbl, c1, c2, c3⟩ := (HR.out.below hb (Nat.le_refl _)) j (by rw [mkO_length]; exact hlt)
      rw [mkO_get] at c1 c2 c3
      have e1 : (mkO1 (k + j * 3)).nm = ⟨(markL (k + j * 3)).toArray⟩ := rfl
      have e2 : (mkO1 (k + j * 3)).sh = (((k + j * 3 + 1 : Nat) : Int) % 3 == 0) := rfl
      have e3 : (mkO1 (k + j * 3)).id = ((k + j * 3 + 2 : Nat) : Int) := rfl
      rw [e1] at c1
      rw [e2] at c2
      rw [e3] at c3
      clear e1 e2 e3
      have hne : Nonempty (Ext wr) := ⟨⟨wr, Below.refl _ _⟩⟩
      have x1 : ∀ x : Ext wr, x.world.cell? ⟨b, o + j * 3, none⟩ = some (.string ⟨(markL (k + j * 3)).toArray⟩) := fun x => x.cell c1
      go_wp2
      refine region_ext (by kernel_rfl) (by kernel_rfl) ?_
      repeat (go_big_quiet_step ((go_at_call 25; exact markText_extO (k + j * 3) _ (by omega) (by omega) _)))
      refine wpQuiet_nil ?_
      rintro _ ⟨y2, rfl⟩
      have hz2 := y2.below
      have c2' := y2.cell c2
      have c3' := y2.cell c3
      clear x1 c1 c2 c3
      by_cases h3 : (k + j * 3 + 1) % 3 = 0
      · have f0 : (((k + j * 3 + 1 : Nat) : Int) % 3 == 0) = true := by rw [beq_iff_eq]; omega
        have f1 : (((k : Int) + (j : Int) * 3 + 1) % 3 == 0) = true := by rw [beq_iff_eq]; omega
        rw [f0] at c2'
        clear f0 h3
        go_wp2
        go_roundw
        case rel => exact ⟨j + 1, by omega, by go_num, by go_num, hb.trans (hz2.mono (by omega))⟩
        case measure => simp [intOf]; omega
      · have f0 : (((k + j * 3 + 1 : Nat) : Int) % 3 == 0) = false := by rw [beq_eq_false_iff_ne]; omega
        have f1 : (((k : Int) + (j : Int) * 3 + 1) % 3 == 0) = false := by rw [beq_eq_false_iff_ne]; omega
        rw [f0] at c2'
        clear f0 h3
        go_wp2
        go_roundw
        case rel => exact ⟨j + 1, by omega, by go_num, by go_num, hb.trans (hz2.mono (by omega))⟩
        case measure => simp [intOf]; omega
    · go_wp2
      go_ret
      obtain rfl : j = n := by omega
      exact ⟨rfl, hb⟩
theorem heldO_own {b : Nat} {e : TypeId} (v : Value) (n : Nat) (w : World) (h : w.ownsRow b e 3 v n (cellsO (mkO 1 n))) (hn : n ≤ 1048576) :
    Calls Tryd.prog 11 #[v, .int .i64 1] w fun e w' => e = .returned (.int .i64 ((1 + n * 3 : Nat) : Int)) ∧ Below w.heap.size w w' := by
  have h' : w.ownsRow b e 3 v (mkO 1 n).length (cellsO (mkO 1 n)) := by rw [mkO_length]; exact h
  obtain ⟨A, c, rfl, r1⟩ := rdO_of_own h'
  rw [mkO_length]
  exact heldOS_any A c 1 n w r1 (Nat.le_refl _) (by omega)
end Go.Proofs.YtnkbgpkpbiolhaaDoor.W
