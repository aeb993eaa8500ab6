
/-
  The walks of the exact laws' own helpers on rows of items: 'szPolItemS', 'toPolItemS', 'eqPolItemS'.
-/
import Derived.Test.YtcmbcaipnjokjaaGreatDoorWalkPol
import Derived.Test.YtcmbcaipnjokjaaGreatDoorMathRow
namespace Go.Proofs.YtcmbcaipnjokjaaGreatDoor.W
open Go.RowKit

set_option maxHeartbeats 1000000 in
theorem szPS_any (A : Option Addr) (c : Nat) (L : List PI) (w : World) (hL : RdP w.heap.size w A L) (hn : L.length ≤ maxLen) (ht : ∀ j (h : j < L.length), (L[j]).tx.size ≤ maxLen) :
    Calls Tryz.prog 6 #[.slice A L.length c, .int .i64 1048576] w fun e w' => (∃ r : Int, e = .returned (.int .i64 r) ∧ (r < 0 ∨ (¬ r < 0 ∧ L.length + szP L ≤ 1048576))) ∧ Below w.heap.size w w' := by
  unfold maxLen at hn
  by_cases h0 : 1048576 < L.length
  · go_enter Tryz.func6, Tryz.ntmps6
    go_wp2
    go_ret
    exact ⟨⟨_, rfl, Or.inl (by decide)⟩, Below.refl _ _⟩
  have HT : Hid (∀ j (h : j < L.length), (L[j]).tx.size ≤ maxLen) := ht
  have HL : Hid (RdP w.heap.size w A L) := hL
  clear ht hL hn
  go_enter Tryz.func6, Tryz.ntmps6
  go_wp2
  go_loopw [1, 5] (fun lv iv wr => ∃ j s : Nat, j ≤ L.length ∧ iv = .int .i64 j ∧ lv = .int .i64 ((1048576 - (L.length + s) : Nat) : Int) ∧ L.length + s ≤ 1048576 ∧ Hid (s = szP (L.take j)) ∧ Below w.heap.size w wr) (fun _ i _ => L.length - (intOf i).toNat)
  case atStart => exact ⟨0, 0, Nat.zero_le _, rfl, by go_num, by omega, rfl, Below.refl _ _⟩
  case round =>
    obtain ⟨j, s, hj, rfl, rfl, hs, HS, hb⟩ := hrel
    have hsz := hb.size
    by_cases hlt : j < L.length
    · obtain ⟨b, o, rfl, hbl, c1, c2⟩ := (HL.out.below hb (Nat.le_refl _)) j hlt
      have htx := HT.out j hlt
      have est := szP_snoc L j hlt
      have ele := szP_le L (j + 1)
      generalize (L[j]).id = i at c1
      generalize L[j].tx = t at *
      have HE : Hid (szP (L.take (j + 1)) = s + t.size) := by rw [HS.out]; exact est
      have HF : Hid (szP (L.take (j + 1)) ≤ szP L) := ele
      clear est ele
      by_cases hfit : t.size ≤ 1048576 - (L.length + s)
      · go_wp2_with (go_at_call 24; refine (szPolItem_fits i t _ _ (by omega) hfit).mono ?_; rintro e w1 ⟨rfl, hb1⟩)
        go_roundw
        case rel => exact ⟨j + 1, s + t.size, by omega, by go_num, by go_num, by omega, HE.out.symm, hb.trans (hb1.mono (by omega))⟩
        case measure => simp [intOf]; omega
      · go_wp2_with (go_at_call 24; refine (szPolItem_over i t _ _ (by omega) htx (by omega)).mono ?_; rintro e w1 ⟨rfl, hb1⟩)
        go_ret
        exact ⟨⟨_, rfl, Or.inl (by decide)⟩, hb.trans (hb1.mono (by omega))⟩
    · go_wp2
      go_ret
      obtain rfl : j = L.length := by omega
      have e := HS.out
      rw [List.take_length] at e
      exact ⟨⟨_, rfl, Or.inr ⟨by omega, by omega⟩⟩, hb⟩

theorem infoP : (Tryz.prog.info? 49).map (fun i => (i.zero, i.size, i.bytes)) = some (some (.agg #[.int .i64 0, .string ByteArray.empty]), 2, 24) := by kernel_rfl

/-- a row in which the first j are laid -/
def laidP (L : List PI) (j : Nat) : List Value := cellsP (L.take j) ++ (List.replicate (L.length - j) [Value.int .i64 0, .string ByteArray.empty]).flatten
theorem laidP_zero (L : List PI) : laidP L 0 = (madeCells #[.int .i64 0, .string ByteArray.empty] (L.length * 2)).toList := by
  rw [made_flat _ _ 2 rfl (by decide)]; simp [laidP, cellsP]
theorem laidP_all (L : List PI) : laidP L L.length = cellsP L := by simp [laidP]
theorem laidP_step (L : List PI) (j : Nat) (h : j < L.length) : ((laidP L j).set (j * 2) (.int .i64 (L[j]).id)).set (j * 2 + 1) (.string (L[j]).tx) = laidP L (j + 1) := by
  unfold laidP
  have hl : (cellsP (L.take j)).length = j * 2 := by rw [cellsP_length]; simp; omega
  obtain ⟨m, hm⟩ : ∃ m, L.length - j = m + 1 := ⟨L.length - j - 1, by omega⟩
  have hm' : L.length - (j + 1) = m := by omega
  rw [hm, hm', List.replicate_succ, List.flatten_cons, List.take_succ_eq_append_getElem h, cellsP_snoc]
  rw [List.set_append_right _ _ (by omega), hl, Nat.sub_self]
  simp only [List.cons_append, List.set_cons_zero]
  rw [List.set_append_right _ _ (by omega), hl, show j * 2 + 1 - j * 2 = 1 by omega]
  simp

set_option maxHeartbeats 1000000 in
theorem toPS_any (A : Option Addr) (c : Nat) (L : List PI) (w : World) (hL : RdP w.heap.size w A L) (hn : L.length ≤ 1048576) :
    Calls Tryz.prog 8 #[.slice A L.length c] w fun e w' => (∃ v, e = .returned v ∧ w'.ownsRow w.heap.size 49 2 v L.length (cellsP L)) ∧ Below w.heap.size w w' := by
  have HL : Hid (RdP w.heap.size w A L) := hL
  clear hL
  obtain ⟨i0, hi, hz0, hz1, hz2⟩ := info_parts infoP
  go_enter Tryz.func8, Tryz.ntmps8
  go_wp2_with (at_make; refine wpList_make_full _ rfl _ _ 24 rfl w.heap.size 49 i0 (.agg #[.int .i64 0, .string ByteArray.empty]) 2 Tryz.underlying24 hi hz0 hz1 _ _ _ _ L.length rfl rfl rfl rfl (by rw [hz2]; omega) (by unfold maxLen; omega) (Nat.le_refl _) ?_)
  intro w1 hown hgr
  have hb0 : Below w.heap.size w w1 := (Below.refl _ _).grown hgr (Nat.le_refl _) (fun k h => by cases h)
  rw [← laidP_zero] at hown
  go_wp2
  go_loopw [4] (fun iv wr => ∃ j : Nat, j ≤ L.length ∧ iv = .int .i64 j ∧ wr.ownsRow w.heap.size 49 2 (.slice (some ⟨w.heap.size, 0, none⟩) L.length L.length) L.length (laidP L j) ∧ Below w.heap.size w wr) (fun i _ => L.length - (intOf i).toNat)
  case atStart => exact ⟨0, Nat.zero_le _, rfl, hown, hb0⟩
  case round =>
    obtain ⟨j, hj, rfl, hrow, hb⟩ := hrel
    have hsz := hb.size
    by_cases hlt : j < L.length
    · obtain ⟨b, o, rfl, hbl, c1, c2⟩ := (HL.out.below hb (Nat.le_refl _)) j hlt
      have est := laidP_step L j hlt
      generalize (L[j]).id = i at *
      generalize L[j].tx = t at *
      have HE : Hid (((laidP L j).set (j * 2) (.int .i64 i)).set (j * 2 + 1) (.string t) = laidP L (j + 1)) := est
      clear est
      go_wp2_with (go_at_call 28; refine (toPolItem_any i t _).mono ?_; rintro e w2 ⟨rfl, hb1⟩; have hrow2 := ownsUnder hrow hb1 (Nat.le_refl _); obtain ⟨u1, hu1⟩ := ownsCell hrow2 (j * 2) (by omega); obtain ⟨u2, hu2⟩ := ownsCell hrow2 (j * 2 + 1) (by omega); have hf1 := hrow2.frozenAt (j * 2); have hf2 := hrow2.frozenAt (j * 2 + 1))
      go_roundw
      case rel =>
        have hst := ((hrow2.stored (j * 2) (.int .i64 i)).1.stored (j * 2 + 1) (.string t)).1
        rw [HE.out] at hst
        exact ⟨j + 1, by omega, by go_num, hst, ((hb.trans (hb1.mono (by omega))).setCell (p := ⟨w.heap.size, j * 2, none⟩) (Nat.le_refl _) _).setCell (p := ⟨w.heap.size, j * 2 + 1, none⟩) (Nat.le_refl _) _⟩
      case measure => simp [intOf]; omega
    · go_wp2
      go_ret
      obtain rfl : j = L.length := by omega
      rw [laidP_all] at hrow
      exact ⟨⟨_, rfl, hrow⟩, hb⟩

set_option maxHeartbeats 1000000 in
theorem eqPS_same (A A' : Option Addr) (c c' : Nat) (L : List PI) (w : World) (h1 : RdP w.heap.size w A L) (h2 : RdP w.heap.size w A' L) (hn : L.length ≤ maxLen) :
    Calls Tryz.prog 10 #[.slice A L.length c, .slice A' L.length c'] w fun e w' => e = .returned (.bool true) ∧ Below w.heap.size w w' := by
  unfold maxLen at hn
  have H1 : Hid (RdP w.heap.size w A L) := h1
  have H2 : Hid (RdP w.heap.size w A' L) := h2
  clear h1 h2
  go_enter Tryz.func10, Tryz.ntmps10
  go_wp2
  go_loopw [5] (fun iv wr => ∃ j : Nat, j ≤ L.length ∧ iv = .int .i64 j ∧ Below w.heap.size w wr) (fun i _ => L.length - (intOf i).toNat)
  case atStart => exact ⟨0, Nat.zero_le _, rfl, Below.refl _ _⟩
  case round =>
    obtain ⟨j, hj, rfl, hb⟩ := hrel
    have hsz := hb.size
    by_cases hlt : j < L.length
    · obtain ⟨b, o, rfl, hbl, c1, c2⟩ := (H1.out.below hb (Nat.le_refl _)) j hlt
      obtain ⟨b', o', rfl, hbl', c1', c2'⟩ := (H2.out.below hb (Nat.le_refl _)) j hlt
      generalize (L[j]).id = i at *
      generalize L[j].tx = t at *
      go_wp2
      go_region_with (go_at_call 32; refine (eqPolItem_same i t _).mono ?_; rintro e w1 ⟨rfl, hb1⟩; have hb2 : Below w.heap.size w w1 := hb.drew.trans (hb1.mono (by simp; omega)))
      all_goals
        go_wp2
        go_roundw
        case rel => exact ⟨j + 1, by omega, by go_num, by first | exact hb2 | exact hb2.drew⟩
        case measure => simp [intOf]; omega
    · go_wp2
      go_ret
      exact ⟨rfl, hb⟩
end Go.Proofs.YtcmbcaipnjokjaaGreatDoor.W
