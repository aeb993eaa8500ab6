/-
  Rows that a call has made, beside each other: what a row keeps while another one is written. No condition.
  The walks of the exact laws' own 'markTreFileS' and 'heldTreFileS', over rows that a call has made. Rows of at most 1048576 files.
  The exact laws' own 'szTreFileS' from whatever is left. No condition but those named.
-/
import Derived.Test.YtgbcgchnnmgmfaaMathRow
import Derived.Test.YtgbcgchnnmgmfaaRowF
import Derived.Test.YtgbcgchnnmgmfaaWalkMarkU
import Derived.Test.YtgbcgchnnmgmfaaWalkTreG
namespace Go.Proofs.Ytgbcgchnnmgmfaa.W
open Go.RowKit
theorem keptLo {w w' : World} {b0 B n n1 z z1 : Nat} {e e1 : TypeId} {v0 v1 : Value} {xs xs1 : List Value} (o0 : w.ownsRow b0 e z v0 n xs) (s : ∀ k, v0.ownBlock = some k → k < B) (o1 : w.ownsRow B e1 z1 v1 n1 xs1) (hg : w.grownBy w' v1.ownBlock) : w'.ownsRow b0 e z v0 n xs := by
  refine o0.kept hg ?_
  cases h : v0.ownBlock with
  | none => exact .inl rfl
  | some k => exact .inr fun e => by have := s k h; have := (o1.lt k e.symm).1; omega
theorem keptHi {w w' : World} {b1 B n n1 z z1 : Nat} {e e1 : TypeId} {v0 v1 : Value} {xs xs1 : List Value} (o0 : w.ownsRow B e z v0 n xs) (_o1 : w.ownsRow b1 e1 z1 v1 n1 xs1) (s : ∀ k, v1.ownBlock = some k → k < B) (hg : w.grownBy w' v1.ownBlock) : w'.ownsRow B e z v0 n xs := by
  refine o0.kept hg ?_
  cases h : v0.ownBlock with
  | none => exact .inl rfl
  | some k => exact .inr fun e => by have := (o0.lt k h).1; have := s k e.symm; omega
theorem ownsLt {w : World} {b n z : Nat} {e : TypeId} {v : Value} {xs : List Value} (o : w.ownsRow b e z v n xs) : ∀ k, v.ownBlock = some k → k < w.heap.size := fun k h => (o.lt k h).2
end Go.Proofs.Ytgbcgchnnmgmfaa.W
namespace Go.Proofs.Ytgbcgchnnmgmfaa.W
open Go.RowKit

theorem cellsF_set (L : List TF) (j : Nat) (x : TF) : ((cellsF L).set (j * 2) (.string x.pa)).set (j * 2 + 1) (.string x.by_) = cellsF (L.set j x) := by
  induction L generalizing j with
  | nil => simp [cellsF]
  | cons y l ih =>
    cases j with
    | zero => rw [List.set_cons_zero, cellsF_cons, cellsF_cons]; rfl
    | succ j =>
      rw [List.set_cons_succ, cellsF_cons, cellsF_cons, ← ih j, show (j + 1) * 2 = j * 2 + 1 + 1 by omega]
      simp
/-- files of marks, from k on -/
def mkF (k n : Nat) : List TF := (List.range n).map fun j => ⟨⟨(markL (k + j * 2)).toArray⟩, ⟨(markL (k + j * 2 + 1)).toArray⟩⟩
theorem mkF_length (k n : Nat) : (mkF k n).length = n := by simp [mkF]
def markedF (L : List TF) (k j : Nat) : List TF := mkF k j ++ L.drop j
theorem markedF_zero (L : List TF) (k : Nat) : markedF L k 0 = L := by simp [markedF, mkF]
theorem markedF_all (L : List TF) (k : Nat) : markedF L k L.length = mkF k L.length := by simp [markedF]
theorem markedF_step (L : List TF) (k j : Nat) (h : j < L.length) : (markedF L k j).set j ⟨⟨(markL (k + j * 2)).toArray⟩, ⟨(markL (k + j * 2 + 1)).toArray⟩⟩ = markedF L k (j + 1) := by
  unfold markedF
  rw [List.set_append_right _ _ (by rw [mkF_length]; omega), mkF_length, Nat.sub_self, List.drop_eq_getElem_cons h, List.set_cons_zero]
  have e : mkF k (j + 1) = mkF k j ++ [⟨⟨(markL (k + j * 2)).toArray⟩, ⟨(markL (k + j * 2 + 1)).toArray⟩⟩] := by
    unfold mkF; rw [List.range_succ, List.map_append]; rfl
  rw [e]; simp
theorem mkF_get (k n j : Nat) (h : j < (mkF k n).length) : (mkF k n)[j] = ⟨⟨(markL (k + j * 2)).toArray⟩, ⟨(markL (k + j * 2 + 1)).toArray⟩⟩ := by simp [mkF]
theorem grownT {w w' w'' : World} {r : Option Nat} (h : w.grownBy w' r) (k : w'.grownBy w'' r) : w.grownBy w'' r :=
  ⟨k.os.trans h.os, k.tape.trans h.tape, k.output.trans h.output, Nat.le_trans h.size k.size, fun i hi hn => (k.block i (Nat.lt_of_lt_of_le hi h.size) hn).trans (h.block i hi hn)⟩
theorem grownS (w : World) (g j : Nat) (u : Value) : w.grownBy (w.setCell ⟨g, j, none⟩ u) (some g) :=
  ⟨rfl, rfl, rfl, by simp [World.setCell], fun k _ hn => Below.heap_setCell _ _ _ _ (fun e => hn (by rw [e]))⟩
theorem grownB {w w' : World} {r : Option Nat} (h : Below w.heap.size w w') : w.grownBy w' r := ⟨h.os, h.tape, h.output, h.size, fun k hk _ => h.block k hk⟩

set_option maxHeartbeats 1000000 in
theorem markFS_any (base g cap k : Nat) (L : List TF) (w : World) (hown : w.ownsRow base 39 2 (.slice (some ⟨g, 0, none⟩) L.length cap) L.length (cellsF L)) (h1 : 1 ≤ k) (h2 : k + L.length * 2 ≤ 10000000) :
    Calls Try.prog 10 #[.slice (some ⟨g, 0, none⟩) L.length cap, .int .i64 k] w fun e w' => e = .returned (.int .i64 ((k + L.length * 2 : Nat) : Int)) ∧ w'.ownsRow base 39 2 (.slice (some ⟨g, 0, none⟩) L.length cap) L.length (cellsF (mkF k L.length)) ∧ w.grownBy w' (some g) := by
  go_enter Try.func10, Try.ntmps10
  go_wp2
  go_loopw [1, 5] (fun kk i wr => ∃ j : Nat, j ≤ L.length ∧ i = .int .i64 j ∧ kk = .int .i64 ((k + j * 2 : Nat) : Int) ∧ wr.ownsRow base 39 2 (.slice (some ⟨g, 0, none⟩) L.length cap) L.length (cellsF (markedF L k j)) ∧ w.grownBy wr (some g)) (fun _ i _ => L.length - (intOf i).toNat)
  case atStart => exact ⟨0, Nat.zero_le _, rfl, rfl, by rw [markedF_zero]; exact hown, World.grownBy.refl _ _⟩
  case round =>
    obtain ⟨j, hj, rfl, rfl, hrow, hb⟩ := hrel
    by_cases hlt : j < L.length
    · have HR : Hid (wr.ownsRow base 39 2 (.slice (some ⟨g, 0, none⟩) L.length cap) L.length (cellsF (markedF L k j))) := hrow
      have HB : Hid (w.grownBy wr (some g)) := hb
      have tk : True := trivial
      clear hrow hb
      go_wp2_with (first
        | (go_at_call 20; have _t := tk; refine (markText_any (k + j * 2) _ (by omega) (by omega)).mono ?_; rintro e w1 ⟨rfl, hb1⟩; clear _t tk; have hrow1 := ownsUnder HR.out hb1 (Nat.le_refl _); have hf1 := hrow1.frozenAt (j * 2); obtain ⟨u1, hu1⟩ := ownsCell hrow1 (j * 2) (by omega); have HR1 : Hid (w1.ownsRow base 39 2 (.slice (some ⟨g, 0, none⟩) L.length cap) L.length (cellsF (markedF L k j))) := hrow1; clear hrow1)
        | (go_at_call 20; refine (markText_any (k + j * 2 + 1) _ (by omega) (by omega)).mono ?_; rintro e w2 ⟨rfl, hb2⟩; have hrow2 := ownsUnder (HR1.out.stored (j * 2) (.string ⟨(markL (k + j * 2)).toArray⟩)).1 hb2 (Nat.le_refl _); have hf2 := hrow2.frozenAt (j * 2 + 1); obtain ⟨u2, hu2⟩ := ownsCell hrow2 (j * 2 + 1) (by omega)))
      go_roundw
      case rel =>
        have hst := (hrow2.stored (j * 2 + 1) (.string ⟨(markL (k + j * 2 + 1)).toArray⟩)).1
        have est := cellsF_set (markedF L k j) j ⟨⟨(markL (k + j * 2)).toArray⟩, ⟨(markL (k + j * 2 + 1)).toArray⟩⟩
        rw [markedF_step L k j hlt] at est
        rw [est] at hst
        exact ⟨j + 1, by omega, by go_num, by go_num, hst, grownT (grownT (grownT (grownT HB.out (grownB hb1)) (grownS w1 g (j * 2) _)) (grownB hb2)) (grownS w2 g (j * 2 + 1) _)⟩
      case measure => simp [intOf]; omega
    · go_wp2
      go_ret
      obtain rfl : j = L.length := by omega
      rw [markedF_all] at hrow
      exact ⟨rfl, hrow, hb⟩

set_option maxHeartbeats 400000 in
theorem markFS_nil (k : Nat) (w : World) :
    Calls Try.prog 10 #[.slice none 0 0, .int .i64 k] w fun e w' => e = .returned (.int .i64 k) ∧ w = w' := by
  go_enter Try.func10, Try.ntmps10
  go_wp2
  refine wp_loop_rounds 1 ?_
  rw [rounds_succ]
  go_wp2
  go_ret
  exact ⟨rfl, rfl⟩
theorem markF_own {b : Nat} (v : Value) (L : List TF) (w : World) (h : w.ownsRow b 39 2 v L.length (cellsF L)) (hn : L.length ≤ 1048576) :
    Calls Try.prog 10 #[v, .int .i64 1] w fun e w' => e = .returned (.int .i64 ((1 + L.length * 2 : Nat) : Int)) ∧ w'.ownsRow b 39 2 v L.length (cellsF (mkF 1 L.length)) ∧ w.grownBy w' v.ownBlock := by
  rcases h.2 with ⟨rfl, hn0⟩ | ⟨g, cap, cur, rfl, _⟩
  · refine (markFS_nil 1 w).mono ?_
    rintro e w' ⟨rfl, rfl⟩
    rw [hn0]
    exact ⟨rfl, World.ownsRow_nil _ _ _ _, World.grownBy.refl _ _⟩
  · refine (markFS_any b g cap 1 L w h (Nat.le_refl _) (by omega)).mono ?_
    rintro e w' ⟨rfl, h2, h3⟩
    exact ⟨rfl, h2, h3⟩

end Go.Proofs.Ytgbcgchnnmgmfaa.W
namespace Go.Proofs.Ytgbcgchnnmgmfaa.W
open Go.RowKit

set_option maxHeartbeats 1000000 in
theorem szFS_left (A : Option Addr) (c : Nat) (L : List TF) (left : Nat) (w : World) (hl : left ≤ 1048576) (hL : RdF w.heap.size w A L) (hn : L.length ≤ maxLen) (ht : ∀ j (h : j < L.length), (L[j]).pa.size ≤ maxLen ∧ (L[j]).by_.size ≤ maxLen) :
    Calls Try.prog 4 #[.slice A L.length c, .int .i64 left] w fun e w' => (∃ r : Int, e = .returned (.int .i64 r) ∧ (r < 0 ∨ ∃ l : Nat, r = l ∧ l + (L.length + szF L) = left)) ∧ Below w.heap.size w w' := by
  unfold maxLen at hn
  by_cases h0 : left < L.length
  · go_enter Try.func4, Try.ntmps4
    go_wp2
    go_ret
    exact ⟨⟨_, rfl, Or.inl (by decide)⟩, Below.refl _ _⟩
  have HT : Hid (∀ j (h : j < L.length), (L[j]).pa.size ≤ maxLen ∧ (L[j]).by_.size ≤ maxLen) := ht
  have HL : Hid (RdF w.heap.size w A L) := hL
  clear ht hL hn
  go_enter Try.func4, Try.ntmps4
  go_wp2
  go_loopw [1, 5] (fun lv iv wr => ∃ j s : Nat, j ≤ L.length ∧ iv = .int .i64 j ∧ lv = .int .i64 ((left - (L.length + s) : Nat) : Int) ∧ L.length + s ≤ left ∧ Hid (s = szF (L.take j)) ∧ Below w.heap.size w wr) (fun _ i _ => L.length - (intOf i).toNat)
  case atStart => exact ⟨0, 0, Nat.zero_le _, rfl, by go_num, by omega, rfl, Below.refl _ _⟩
  case round =>
    obtain ⟨j, s, hj, rfl, rfl, hs, HS, hb⟩ := hrel
    have hsz := hb.size
    by_cases hlt : j < L.length
    · obtain ⟨b, o, rfl, hbl, c1, c2⟩ := (HL.out.below hb (Nat.le_refl _)) j hlt
      have htx := HT.out j hlt
      have est := szF_snoc L j hlt
      have ele := szF_le L (j + 1)
      generalize (L[j]).pa = f0 at *
      generalize (L[j]).by_ = f1 at *
      have HE : Hid (szF (L.take (j + 1)) = s + (f0.size + f1.size)) := by rw [HS.out]; exact est
      have HF : Hid (szF (L.take (j + 1)) ≤ szF L) := ele
      clear est ele
      obtain ⟨m0, m1⟩ := htx
      by_cases hfit : f0.size + f1.size ≤ left - (L.length + s)
      · go_wp2_with (go_at_call 13; refine (szTreFile_fits f0 f1 _ _ (by omega) hfit).mono ?_; rintro e w1 ⟨rfl, hb1⟩)
        go_roundw
        case rel => exact ⟨j + 1, s + (f0.size + f1.size), by omega, by go_num, by go_num, by omega, HE.out.symm, hb.trans (hb1.mono (by omega))⟩
        case measure => simp [intOf]; omega
      · go_wp2_with (go_at_call 13; refine (szTreFile_over f0 f1 _ _ (by omega) m0 m1 (by omega)).mono ?_; rintro e w1 ⟨rfl, hb1⟩)
        go_ret
        exact ⟨⟨_, rfl, Or.inl (by decide)⟩, hb.trans (hb1.mono (by omega))⟩
    · go_wp2
      go_ret
      obtain rfl : j = L.length := by omega
      have e := HS.out
      rw [List.take_length] at e
      exact ⟨⟨_, rfl, Or.inr ⟨_, rfl, by omega⟩⟩, hb⟩

theorem markF_from {b : Nat} (k : Nat) (v : Value) (L : List TF) (w : World) (h : w.ownsRow b 39 2 v L.length (cellsF L)) (hn : L.length ≤ 1048576) (h1 : 1 ≤ k) (hk : k ≤ 3000000) :
    Calls Try.prog 10 #[v, .int .i64 k] w fun e w' => ∃ k2 : Nat, e = .returned (.int .i64 k2) ∧ k2 = k + L.length * 2 ∧ w'.ownsRow b 39 2 v L.length (cellsF (mkF k L.length)) ∧ w.grownBy w' v.ownBlock := by
  rcases h.2 with ⟨rfl, hn0⟩ | ⟨g, cap, cur, rfl, _⟩
  · refine (markFS_nil k w).mono ?_
    rintro e w' ⟨rfl, rfl⟩
    rw [hn0]
    exact ⟨k, rfl, by omega, World.ownsRow_nil _ _ _ _, World.grownBy.refl _ _⟩
  · refine (markFS_any b g cap k L w h h1 (by omega)).mono ?_
    rintro e w' ⟨rfl, h2, h3⟩
    exact ⟨_, rfl, rfl, h2, h3⟩
end Go.Proofs.Ytgbcgchnnmgmfaa.W
