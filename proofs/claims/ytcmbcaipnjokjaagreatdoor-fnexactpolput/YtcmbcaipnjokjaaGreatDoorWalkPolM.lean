
/-
  The walks of the exact laws' own 'markPolItemS' and 'heldPolItemS': a row is written over with marks; marks are held. Rows of at most 1048576 items.
-/
import Derived.Test.YtcmbcaipnjokjaaGreatDoorWalkPolS
import Derived.Test.YtcmbcaipnjokjaaGreatDoorWalkMarkT
namespace Go.Proofs.YtcmbcaipnjokjaaGreatDoor.W
open Go.RowKit

theorem cellsP_set (L : List PI) (j : Nat) (x : PI) : ((cellsP L).set (j * 2) (.int .i64 x.id)).set (j * 2 + 1) (.string x.tx) = cellsP (L.set j x) := by
  induction L generalizing j with
  | nil => simp [cellsP]
  | cons y l ih =>
    have e : ∀ (z : PI) (m : List PI), cellsP (z :: m) = .int .i64 z.id :: .string z.tx :: cellsP m := fun z m => by simp [cellsP]
    cases j with
    | zero => rw [List.set_cons_zero, e, e]; rfl
    | succ j =>
      rw [List.set_cons_succ, e, e, ← ih j, show (j + 1) * 2 = j * 2 + 1 + 1 by omega]
      simp
/-- items of marks, from k on -/
def mkP (k n : Nat) : List PI := (List.range n).map fun j => ⟨((k + j * 2 : Nat) : Int), ⟨(markL (k + j * 2 + 1)).toArray⟩⟩
theorem mkP_length (k n : Nat) : (mkP k n).length = n := by simp [mkP]
def markedP (L : List PI) (k j : Nat) : List PI := mkP k j ++ L.drop j
theorem markedP_zero (L : List PI) (k : Nat) : markedP L k 0 = L := by simp [markedP, mkP]
theorem markedP_all (L : List PI) (k : Nat) : markedP L k L.length = mkP k L.length := by simp [markedP]
theorem markedP_length (L : List PI) (k j : Nat) (h : j ≤ L.length) : (markedP L k j).length = L.length := by simp [markedP, mkP_length]; omega
theorem markedP_step (L : List PI) (k j : Nat) (h : j < L.length) : (markedP L k j).set j ⟨((k + j * 2 : Nat) : Int), ⟨(markL (k + j * 2 + 1)).toArray⟩⟩ = markedP L k (j + 1) := by
  unfold markedP
  rw [List.set_append_right _ _ (by rw [mkP_length]; omega), mkP_length, Nat.sub_self, List.drop_eq_getElem_cons h, List.set_cons_zero]
  have e : mkP k (j + 1) = mkP k j ++ [⟨((k + j * 2 : Nat) : Int), ⟨(markL (k + j * 2 + 1)).toArray⟩⟩] := by
    unfold mkP; rw [List.range_succ, List.map_append]; rfl
  rw [e]; simp
theorem mkP_get (k n j : Nat) (h : j < (mkP k n).length) : (mkP k n)[j] = ⟨((k + j * 2 : Nat) : Int), ⟨(markL (k + j * 2 + 1)).toArray⟩⟩ := by simp [mkP]

/-- only the row at block g, and new blocks, have turned -/
def ButRow (g : Nat) (w w' : World) : Prop := w.grownBy w' (some g)
theorem ButRow.refl (g : Nat) (w : World) : ButRow g w w := ⟨rfl, rfl, rfl, Nat.le_refl _, fun _ _ _ => rfl⟩
theorem ButRow.trans {g : Nat} {a b c : World} (h : ButRow g a b) (k : ButRow g b c) : ButRow g a c :=
  ⟨k.os.trans h.os, k.tape.trans h.tape, k.output.trans h.output, Nat.le_trans h.size k.size, fun i hi hn => (k.block i (Nat.lt_of_lt_of_le hi h.size) hn).trans (h.block i hi hn)⟩
theorem ButRow.setCell (g : Nat) (w : World) (j : Nat) (u : Value) : ButRow g w (w.setCell ⟨g, j, none⟩ u) :=
  ⟨rfl, rfl, rfl, by simp [World.setCell], fun k _ hn => Below.heap_setCell _ _ _ _ (fun e => hn (by rw [e]))⟩
theorem ButRow.of_below {g : Nat} {w w' : World} (h : Below w.heap.size w w') : ButRow g w w' := ⟨h.os, h.tape, h.output, h.size, fun k hk _ => h.block k hk⟩
theorem ButRow.below {g B : Nat} {a w w' : World} (hb : Below B a w) (h : ButRow g w w') (hB : B ≤ w.heap.size) (hg : B ≤ g) : Below B a w' := hb.grown h hB (fun k e => by cases e; exact hg)

set_option maxHeartbeats 1000000 in
theorem markPS_any (base g cap k : Nat) (L : List PI) (w : World) (hown : w.ownsRow base 49 2 (.slice (some ⟨g, 0, none⟩) L.length cap) L.length (cellsP L)) (h1 : 1 ≤ k) (h2 : k + L.length * 2 ≤ 10000000) :
    Calls Tryz.prog 11 #[.slice (some ⟨g, 0, none⟩) L.length cap, .int .i64 k] w fun e w' => e = .returned (.int .i64 ((k + L.length * 2 : Nat) : Int)) ∧ w'.ownsRow base 49 2 (.slice (some ⟨g, 0, none⟩) L.length cap) L.length (cellsP (mkP k L.length)) ∧ ButRow g w w' := by
  go_enter Tryz.func11, Tryz.ntmps11
  go_wp2
  go_loopw [1, 5] (fun kk i wr => ∃ j : Nat, j ≤ L.length ∧ i = .int .i64 j ∧ kk = .int .i64 ((k + j * 2 : Nat) : Int) ∧ wr.ownsRow base 49 2 (.slice (some ⟨g, 0, none⟩) L.length cap) L.length (cellsP (markedP L k j)) ∧ ButRow g w wr) (fun _ i _ => L.length - (intOf i).toNat)
  case atStart => exact ⟨0, Nat.zero_le _, rfl, rfl, by rw [markedP_zero]; exact hown, ButRow.refl _ _⟩
  case round =>
    obtain ⟨j, hj, rfl, rfl, hrow, hb⟩ := hrel
    by_cases hlt : j < L.length
    · obtain ⟨u1, hu1⟩ := ownsCell hrow (j * 2) (by omega)
      have hf1 := hrow.frozenAt (j * 2)
      have HR : Hid (wr.ownsRow base 49 2 (.slice (some ⟨g, 0, none⟩) L.length cap) L.length (cellsP (markedP L k j))) := hrow
      have HB : Hid (ButRow g w wr) := hb
      clear hrow hb
      go_wp2_with (go_at_call 33; refine (markText_any (k + j * 2 + 1) _ (by omega) (by omega)).mono ?_; rintro e w1 ⟨rfl, hb1⟩; have hrow1 := ownsUnder (HR.out.stored (j * 2) (.int .i64 ((k + j * 2 : Nat) : Int))).1 hb1 (Nat.le_refl _); have hf2 := hrow1.frozenAt (j * 2 + 1); obtain ⟨u2, hu2⟩ := ownsCell hrow1 (j * 2 + 1) (by omega))
      go_roundw
      case rel =>
        have hst := (hrow1.stored (j * 2 + 1) (.string ⟨(markL (k + j * 2 + 1)).toArray⟩)).1
        have est := cellsP_set (markedP L k j) j ⟨((k + j * 2 : Nat) : Int), ⟨(markL (k + j * 2 + 1)).toArray⟩⟩
        rw [markedP_step L k j hlt] at est
        rw [est] at hst
        exact ⟨j + 1, by omega, by go_num, by go_num, hst, ((HB.out.trans (ButRow.setCell g wr (j * 2) _)).trans (ButRow.of_below hb1)).trans (ButRow.setCell g w1 (j * 2 + 1) _)⟩
      case measure => simp [intOf]; omega
    · go_wp2
      go_ret
      obtain rfl : j = L.length := by omega
      rw [markedP_all] at hrow
      exact ⟨rfl, hrow, hb⟩

set_option maxHeartbeats 1000000 in
theorem heldPS_any (A : Option Addr) (c k n : Nat) (w : World) (hR : RdP w.heap.size w A (mkP k n)) (h1 : 1 ≤ k) (h2 : k + n * 2 ≤ 10000000) :
    Calls Tryz.prog 12 #[.slice A n c, .int .i64 k] w fun e w' => e = .returned (.int .i64 ((k + n * 2 : Nat) : Int)) ∧ Below w.heap.size w w' := by
  have HR : Hid (RdP w.heap.size w A (mkP k n)) := hR
  clear hR
  go_enter Tryz.func12, Tryz.ntmps12
  go_wp2
  go_loopw [1, 5] (fun kk i wr => ∃ j : Nat, j ≤ n ∧ i = .int .i64 j ∧ kk = .int .i64 ((k + j * 2 : Nat) : Int) ∧ Below w.heap.size w wr) (fun _ i _ => n - (intOf i).toNat)
  case atStart => exact ⟨0, Nat.zero_le _, rfl, rfl, Below.refl _ _⟩
  case round =>
    obtain ⟨j, hj, rfl, rfl, hb⟩ := hrel
    have hsz := hb.size
    by_cases hlt : j < n
    · obtain ⟨b, o, rfl, hbl, c1, c2⟩ := (HR.out.below hb (Nat.le_refl _)) j (by rw [mkP_length]; exact hlt)
      rw [mkP_get] at c1 c2
      simp only at c1 c2
      go_wp2
      go_region_with (go_at_call 33; refine (markText_any (k + j * 2 + 1) _ (by omega) (by omega)).mono ?_; rintro e w1 ⟨rfl, hb1⟩; have c3 : w1.cell? ⟨b, o + j * 2 + 1, none⟩ = some (.string ⟨(markL (k + j * 2 + 1)).toArray⟩) := (hb1.cell (p := ⟨b, _, none⟩) (by show b < _; simp; omega)).trans c2; have hb2 : Below w.heap.size w w1 := hb.drew.trans (hb1.mono (by simp; omega)))
      all_goals
        go_wp2
        go_roundw
        case rel => exact ⟨j + 1, by omega, by go_num, by go_num, by first | exact hb2 | exact hb2.drew⟩
        case measure => simp [intOf]; omega
    · go_wp2
      go_ret
      obtain rfl : j = n := by omega
      exact ⟨rfl, hb⟩
end Go.Proofs.YtcmbcaipnjokjaaGreatDoor.W
