
/-
  What the exact laws' own 'toRulRuleS' answers is not nil. At most 1048576 rules.
-/
import Derived.Test.YtolpalbeldolnaaRowR
namespace Go.Proofs.Ytolpalbeldolnaa.W
open Go.RowKit

set_option maxHeartbeats 1000000 in
theorem toRS_new (A : Option Addr) (c : Nat) (L : List RR) (w : World) (hL : RdR w.heap.size w A L) (hn : L.length ≤ 1048576) :
    Calls Try.prog 15 #[.slice A L.length c] w fun e w' => (∃ v, e = .returned v ∧ v ≠ .slice none 0 0 ∧ w'.ownsRow w.heap.size 26 4 v L.length (cellsR L)) ∧ Below w.heap.size w w' := by
  have HL : Hid (RdR w.heap.size w A L) := hL
  clear hL
  obtain ⟨i0, hi, hz0, hz1, hz2⟩ := info_parts infoR
  go_enter Try.func15, Try.ntmps15
  go_wp2_with (at_make; refine wpList_make_full _ rfl _ _ 32 rfl w.heap.size 26 i0 (.agg #[.int .i64 0, .string ByteArray.empty, .string ByteArray.empty, .bool false]) 4 Try.underlying32 hi hz0 hz1 _ _ _ _ L.length rfl rfl rfl rfl (by rw [hz2]; omega) (by unfold maxLen; omega) (Nat.le_refl _) ?_)
  intro w1 hown hgr
  have hb0 : Below w.heap.size w w1 := (Below.refl _ _).grown hgr (Nat.le_refl _) (fun k h => by cases h)
  rw [← laidR_zero] at hown
  go_wp2
  go_loopw [4] (fun iv wr => ∃ j : Nat, j ≤ L.length ∧ iv = .int .i64 j ∧ wr.ownsRow w.heap.size 26 4 (.slice (some ⟨w.heap.size, 0, none⟩) L.length L.length) L.length (laidR L j) ∧ Below w.heap.size w wr) (fun i _ => L.length - (intOf i).toNat)
  case atStart => exact ⟨0, Nat.zero_le _, rfl, hown, hb0⟩
  case round =>
    obtain ⟨j, hj, rfl, hrow, hb⟩ := hrel
    have hsz := hb.size
    by_cases hlt : j < L.length
    · obtain ⟨b, o, rfl, hbl, c1, c2, c3, c4⟩ := (HL.out.below hb (Nat.le_refl _)) j hlt
      have est := laidR_step L j hlt
      generalize (L[j]).user = f0 at *
      generalize (L[j]).ref = f1 at *
      generalize (L[j]).path = f2 at *
      generalize (L[j]).write = f3 at *
      have HE : Hid ((((((laidR L j).set (j * 4) (.int .i64 f0)).set (j * 4 + 1) (.string f1)).set (j * 4 + 2) (.string f2)).set (j * 4 + 3) (.bool f3)) = laidR L (j + 1)) := est
      clear est
      go_wp2_with (go_at_call 11; refine (toRulRule_any f0 f1 f2 f3 _).mono ?_; rintro e w2 ⟨rfl, hb1⟩; have hrow2 := ownsUnder hrow hb1 (Nat.le_refl _); obtain ⟨u0, hu0⟩ := ownsCell hrow2 (j * 4) (by omega); have hf0 := hrow2.frozenAt (j * 4); obtain ⟨u1, hu1⟩ := ownsCell hrow2 (j * 4 + 1) (by omega); have hf1 := hrow2.frozenAt (j * 4 + 1); obtain ⟨u2, hu2⟩ := ownsCell hrow2 (j * 4 + 2) (by omega); have hf2 := hrow2.frozenAt (j * 4 + 2); obtain ⟨u3, hu3⟩ := ownsCell hrow2 (j * 4 + 3) (by omega); have hf3 := hrow2.frozenAt (j * 4 + 3))
      go_roundw
      case rel =>
        have hst := ((((hrow2.stored (j * 4) (.int .i64 f0)).1.stored (j * 4 + 1) (.string f1)).1.stored (j * 4 + 2) (.string f2)).1.stored (j * 4 + 3) (.bool f3)).1
        rw [HE.out] at hst
        exact ⟨j + 1, by omega, by go_num, hst, (((((hb.trans (hb1.mono (by omega))).setCell (p := ⟨w.heap.size, j * 4, none⟩) (Nat.le_refl _) _).setCell (p := ⟨w.heap.size, j * 4 + 1, none⟩) (Nat.le_refl _) _).setCell (p := ⟨w.heap.size, j * 4 + 2, none⟩) (Nat.le_refl _) _).setCell (p := ⟨w.heap.size, j * 4 + 3, none⟩) (Nat.le_refl _) _)⟩
      case measure => simp [intOf]; omega
    · go_wp2
      go_ret
      obtain rfl : j = L.length := by omega
      rw [laidR_all] at hrow
      exact ⟨⟨_, rfl, by simp, hrow⟩, hb⟩

end Go.Proofs.Ytolpalbeldolnaa.W
