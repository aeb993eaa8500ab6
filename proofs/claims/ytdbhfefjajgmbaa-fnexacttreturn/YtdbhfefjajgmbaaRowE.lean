
/-
  Rows of TreEdit: what it is that a slice reads as such a row; the walks of the exact laws' own helpers 'sz', 'to' and 'eq' on them. No condition but those named. (Written by genstruct.py.)
-/
import Derived.Test.YtdbhfefjajgmbaaBase
import Derived.Test.YtdbhfefjajgmbaaMathRow
import Derived.OwnWalk
import Derived.Below
import Derived.BigQuiet
import Derived.Deep.QuietTactic
import Derived.Deep.RegionWith
namespace Go.Proofs.Ytdbhfefjajgmbaa.W
open Go.RowKit

structure TE where
  pa : ByteArray
  by_ : ByteArray
  gone : Bool

def cellsE (L : List TE) : List Value := L.flatMap fun x => [.string x.pa, .string x.by_, .bool x.gone]
theorem cellsE_cons (x : TE) (l : List TE) : cellsE (x :: l) = .string x.pa :: .string x.by_ :: .bool x.gone :: cellsE l := by simp [cellsE]
theorem cellsE_length (L : List TE) : (cellsE L).length = L.length * 3 := by
  induction L with
  | nil => rfl
  | cons x l ih => rw [cellsE_cons]; simp; omega
theorem cellsE_snoc (L : List TE) (x : TE) : cellsE (L ++ [x]) = cellsE L ++ [.string x.pa, .string x.by_, .bool x.gone] := by simp [cellsE]
theorem cellsE_get (L : List TE) (j : Nat) (h : j < L.length) : (cellsE L)[j * 3]? = some (.string (L[j]).pa) ∧ (cellsE L)[j * 3 + 1]? = some (.string (L[j]).by_) ∧ (cellsE L)[j * 3 + 2]? = some (.bool (L[j]).gone) := by
  induction L generalizing j with
  | nil => simp at h
  | cons x l ih =>
    rw [cellsE_cons]
    cases j with
    | zero => simp
    | succ j =>
      have := ih j (by simpa using h)
      rw [show (j + 1) * 3 = j * 3 + 1 + 1 + 1 by omega]
      simpa using this
def RdE (B : Nat) (w : World) (A : Option Addr) (L : List TE) : Prop :=
  ∀ j (h : j < L.length), ∃ b o, A = some ⟨b, o, none⟩ ∧ b < B ∧ w.cell? ⟨b, o + j * 3, none⟩ = some (.string (L[j]).pa) ∧ w.cell? ⟨b, o + j * 3 + 1, none⟩ = some (.string (L[j]).by_) ∧ w.cell? ⟨b, o + j * 3 + 2, none⟩ = some (.bool (L[j]).gone)
theorem RdE.below {B B' : Nat} {w w' : World} {A : Option Addr} {L : List TE} (h : RdE B w A L) (hb : Below B' w w') (hB : B ≤ B') : RdE B w' A L := fun j hj => by
  obtain ⟨b, o, e, hl, c1, c2, c3⟩ := h j hj
  exact ⟨b, o, e, hl, (hb.cell (p := ⟨b, _, none⟩) (by show b < B'; omega)).trans c1, (hb.cell (p := ⟨b, _, none⟩) (by show b < B'; omega)).trans c2, (hb.cell (p := ⟨b, _, none⟩) (by show b < B'; omega)).trans c3⟩
theorem RdE.mono {B B' : Nat} {w : World} {A : Option Addr} {L : List TE} (h : RdE B w A L) (hB : B ≤ B') : RdE B' w A L := fun j hj => by
  obtain ⟨b, o, e, hl, c⟩ := h j hj
  exact ⟨b, o, e, by omega, c⟩
theorem RdE.up {w w' : World} {A : Option Addr} {L : List TE} (h : RdE w.heap.size w A L) (hb : Below w.heap.size w w') : RdE w'.heap.size w' A L := (h.below hb (Nat.le_refl _)).mono hb.size
theorem rdE_of_own {w : World} {base : Nat} {e : TypeId} {v : Value} {L : List TE} (h : w.ownsRow base e 3 v L.length (cellsE L)) : ∃ A c, v = .slice A L.length c ∧ RdE w.heap.size w A L := by
  have hl := h.lt
  rcases h.2 with ⟨rfl, hn⟩ | ⟨g, cap, cur, rfl, _⟩
  · exact ⟨none, 0, by rw [hn], fun j hj => by omega⟩
  · refine ⟨some ⟨g, 0, none⟩, cap, rfl, fun j hj => ⟨g, 0, rfl, (hl g rfl).2, ?_, ?_, ?_⟩⟩
    · rw [Nat.zero_add, h.cellAt (j * 3) (by omega)]; exact (cellsE_get L j hj).1
    · rw [Nat.zero_add, h.cellAt (j * 3 + 1) (by omega)]; exact (cellsE_get L j hj).2.1
    · rw [Nat.zero_add, h.cellAt (j * 3 + 2) (by omega)]; exact (cellsE_get L j hj).2.2

def szE (L : List TE) : Nat := (L.map fun x => x.pa.size + x.by_.size).sum
theorem szE_snoc (L : List TE) (j : Nat) (h : j < L.length) : szE (L.take (j + 1)) = szE (L.take j) + ((L[j]).pa.size + (L[j]).by_.size) := by
  unfold szE
  rw [List.take_succ_eq_append_getElem h]
  simp only [List.map_append, List.sum_append, List.map_cons, List.map_nil, List.sum_cons, List.sum_nil, Nat.add_zero]
theorem szE_le (L : List TE) (j : Nat) : szE (L.take j) ≤ szE L := by
  unfold szE
  conv => rhs; rw [← List.take_append_drop j L]
  simp only [List.map_append, List.sum_append]
  omega

set_option maxHeartbeats 400000 in
theorem szTreEdit_fits (f0 : ByteArray) (f1 : ByteArray) (f2 : Bool) (left : Nat) (w : World) (hl : left ≤ 1048576) (h : f0.size + f1.size ≤ left) :
    Calls Try.prog 22 #[.agg #[.string f0, .string f1, .bool f2], .int .i64 left] w fun e w' => e = .returned (.int .i64 ((left - (f0.size + f1.size) : Nat) : Int)) ∧ Below w.heap.size w w' := by
  go_enter Try.func22, Try.ntmps22
  go_wp2
  go_ret
  exact ⟨ret_int (by go_num), (Below.refl _ _).alloc (Nat.le_refl _) _⟩

set_option maxHeartbeats 400000 in
theorem szTreEdit_over (f0 : ByteArray) (f1 : ByteArray) (f2 : Bool) (left : Nat) (w : World) (hl : left ≤ 1048576) (m0 : f0.size ≤ maxLen) (m1 : f1.size ≤ maxLen) (h : left < f0.size + f1.size) :
    Calls Try.prog 22 #[.agg #[.string f0, .string f1, .bool f2], .int .i64 left] w fun e w' => e = .returned (.int .i64 (-1)) ∧ Below w.heap.size w w' := by
  unfold maxLen at m0 m1
  by_cases h0 : left < f0.size
  · go_enter Try.func22, Try.ntmps22
    go_wp2
    go_ret
    exact ⟨rfl, (Below.refl _ _).alloc (Nat.le_refl _) _⟩
  · go_enter Try.func22, Try.ntmps22
    go_wp2
    go_ret
    exact ⟨rfl, (Below.refl _ _).alloc (Nat.le_refl _) _⟩
set_option maxHeartbeats 400000 in
theorem toTreEdit_any (f0 : ByteArray) (f1 : ByteArray) (f2 : Bool) (w : World) :
    Calls Try.prog 27 #[.agg #[.string f0, .string f1, .bool f2]] w fun e w' => e = .returned (.agg #[.string f0, .string f1, .bool f2]) ∧ Below w.heap.size w w' := by
  go_enter Try.func27, Try.ntmps27
  go_wp2
  refine bodyPost_ret (v := .agg #[.string f0, .string f1, .bool f2]) (by simp [results, Try.results27, go_sem]) rfl ?_
  exact ⟨rfl, (((Below.refl _ _).alloc (Nat.le_refl _) _).alloc (by simp) _).alloc (by simp; omega) _⟩

set_option maxHeartbeats 400000 in
theorem eqTreEdit_same (f0 : ByteArray) (f1 : ByteArray) (f2 : Bool) (w : World) :
    Calls Try.prog 33 #[.agg #[.string f0, .string f1, .bool f2], .agg #[.string f0, .string f1, .bool f2]] w fun e w' => e = .returned (.bool true) ∧ Below w.heap.size w w' := by
  go_enter Try.func33, Try.ntmps33
  go_wp2
  go_ret
  exact ⟨rfl, ((Below.refl _ _).alloc (Nat.le_refl _) _).alloc (by simp) _⟩

set_option maxHeartbeats 1000000 in
theorem szES_any (A : Option Addr) (c : Nat) (L : List TE) (w : World) (hL : RdE w.heap.size w A L) (hn : L.length ≤ maxLen) (ht : ∀ j (h : j < L.length), (L[j]).pa.size ≤ maxLen ∧ (L[j]).by_.size ≤ maxLen) :
    Calls Try.prog 6 #[.slice A L.length c, .int .i64 1048576] w fun e w' => (∃ r : Int, e = .returned (.int .i64 r) ∧ (r < 0 ∨ (¬ r < 0 ∧ L.length + szE L ≤ 1048576))) ∧ Below w.heap.size w w' := by
  unfold maxLen at hn
  by_cases h0 : 1048576 < L.length
  · go_enter Try.func6, Try.ntmps6
    go_wp2
    go_ret
    exact ⟨⟨_, rfl, Or.inl (by decide)⟩, Below.refl _ _⟩
  have HT : Hid (∀ j (h : j < L.length), (L[j]).pa.size ≤ maxLen ∧ (L[j]).by_.size ≤ maxLen) := ht
  have HL : Hid (RdE w.heap.size w A L) := hL
  clear ht hL hn
  go_enter Try.func6, Try.ntmps6
  go_wp2
  go_loopw [1, 5] (fun lv iv wr => ∃ j s : Nat, j ≤ L.length ∧ iv = .int .i64 j ∧ lv = .int .i64 ((1048576 - (L.length + s) : Nat) : Int) ∧ L.length + s ≤ 1048576 ∧ Hid (s = szE (L.take j)) ∧ Below w.heap.size w wr) (fun _ i _ => L.length - (intOf i).toNat)
  case atStart => exact ⟨0, 0, Nat.zero_le _, rfl, by go_num, by omega, rfl, Below.refl _ _⟩
  case round =>
    obtain ⟨j, s, hj, rfl, rfl, hs, HS, hb⟩ := hrel
    have hsz := hb.size
    by_cases hlt : j < L.length
    · obtain ⟨b, o, rfl, hbl, c1, c2, c3⟩ := (HL.out.below hb (Nat.le_refl _)) j hlt
      have htx := HT.out j hlt
      have est := szE_snoc L j hlt
      have ele := szE_le L (j + 1)
      generalize (L[j]).pa = f0 at *
      generalize (L[j]).by_ = f1 at *
      generalize (L[j]).gone = f2 at *
      have HE : Hid (szE (L.take (j + 1)) = s + (f0.size + f1.size)) := by rw [HS.out]; exact est
      have HF : Hid (szE (L.take (j + 1)) ≤ szE L) := ele
      clear est ele
      obtain ⟨m0, m1⟩ := htx
      by_cases hfit : f0.size + f1.size ≤ 1048576 - (L.length + s)
      · go_wp2_with (go_at_call 22; refine (szTreEdit_fits f0 f1 f2 _ _ (by omega) hfit).mono ?_; rintro e w1 ⟨rfl, hb1⟩)
        go_roundw
        case rel => exact ⟨j + 1, s + (f0.size + f1.size), by omega, by go_num, by go_num, by omega, HE.out.symm, hb.trans (hb1.mono (by omega))⟩
        case measure => simp [intOf]; omega
      · go_wp2_with (go_at_call 22; refine (szTreEdit_over f0 f1 f2 _ _ (by omega) m0 m1 (by omega)).mono ?_; rintro e w1 ⟨rfl, hb1⟩)
        go_ret
        exact ⟨⟨_, rfl, Or.inl (by decide)⟩, hb.trans (hb1.mono (by omega))⟩
    · go_wp2
      go_ret
      obtain rfl : j = L.length := by omega
      have e := HS.out
      rw [List.take_length] at e
      exact ⟨⟨_, rfl, Or.inr ⟨by omega, by omega⟩⟩, hb⟩

theorem infoE : (Try.prog.info? 52).map (fun i => (i.zero, i.size, i.bytes)) = some (some (.agg #[.string ByteArray.empty, .string ByteArray.empty, .bool false]), 3, 40) := by kernel_rfl
def laidE (L : List TE) (j : Nat) : List Value := cellsE (L.take j) ++ (List.replicate (L.length - j) [Value.string ByteArray.empty, .string ByteArray.empty, .bool false]).flatten
theorem laidE_zero (L : List TE) : laidE L 0 = (madeCells #[.string ByteArray.empty, .string ByteArray.empty, .bool false] (L.length * 3)).toList := by
  rw [made_flat _ _ 3 rfl (by decide)]; simp [laidE, cellsE]
theorem laidE_all (L : List TE) : laidE L L.length = cellsE L := by simp [laidE]
theorem laidE_step (L : List TE) (j : Nat) (h : j < L.length) : ((((laidE L j).set (j * 3) (.string (L[j]).pa)).set (j * 3 + 1) (.string (L[j]).by_)).set (j * 3 + 2) (.bool (L[j]).gone)) = laidE L (j + 1) := by
  unfold laidE
  have hl : (cellsE (L.take j)).length = j * 3 := by rw [cellsE_length]; simp; omega
  obtain ⟨m, hm⟩ : ∃ m, L.length - j = m + 1 := ⟨L.length - j - 1, by omega⟩
  have hm' : L.length - (j + 1) = m := by omega
  rw [hm, hm', List.replicate_succ, List.flatten_cons, List.take_succ_eq_append_getElem h, cellsE_snoc]
  rw [List.set_append_right _ _ (by omega), hl, show j * 3 - j * 3 = 0 by omega]
  simp only [List.cons_append, List.nil_append, List.set_cons_zero]
  rw [List.set_append_right _ _ (by omega), hl, show j * 3 + 1 - j * 3 = 1 by omega]
  simp only [List.set_cons_zero, List.set_cons_succ]
  rw [List.set_append_right _ _ (by omega), hl, show j * 3 + 2 - j * 3 = 2 by omega]
  simp only [List.set_cons_zero, List.set_cons_succ]
  simp

set_option maxHeartbeats 1000000 in
theorem toES_any (A : Option Addr) (c : Nat) (L : List TE) (w : World) (hL : RdE w.heap.size w A L) (hn : L.length ≤ 1048576) :
    Calls Try.prog 9 #[.slice A L.length c] w fun e w' => (∃ v, e = .returned v ∧ w'.ownsRow w.heap.size 52 3 v L.length (cellsE L)) ∧ Below w.heap.size w w' := by
  have HL : Hid (RdE w.heap.size w A L) := hL
  clear hL
  obtain ⟨i0, hi, hz0, hz1, hz2⟩ := info_parts infoE
  go_enter Try.func9, Try.ntmps9
  go_wp2_with (at_make; refine wpList_make_full _ rfl _ _ 30 rfl w.heap.size 52 i0 (.agg #[.string ByteArray.empty, .string ByteArray.empty, .bool false]) 3 Try.underlying30 hi hz0 hz1 _ _ _ _ L.length rfl rfl rfl rfl (by rw [hz2]; omega) (by unfold maxLen; omega) (Nat.le_refl _) ?_)
  intro w1 hown hgr
  have hb0 : Below w.heap.size w w1 := (Below.refl _ _).grown hgr (Nat.le_refl _) (fun k h => by cases h)
  rw [← laidE_zero] at hown
  go_wp2
  go_loopw [4] (fun iv wr => ∃ j : Nat, j ≤ L.length ∧ iv = .int .i64 j ∧ wr.ownsRow w.heap.size 52 3 (.slice (some ⟨w.heap.size, 0, none⟩) L.length L.length) L.length (laidE L j) ∧ Below w.heap.size w wr) (fun i _ => L.length - (intOf i).toNat)
  case atStart => exact ⟨0, Nat.zero_le _, rfl, hown, hb0⟩
  case round =>
    obtain ⟨j, hj, rfl, hrow, hb⟩ := hrel
    have hsz := hb.size
    by_cases hlt : j < L.length
    · obtain ⟨b, o, rfl, hbl, c1, c2, c3⟩ := (HL.out.below hb (Nat.le_refl _)) j hlt
      have est := laidE_step L j hlt
      generalize (L[j]).pa = f0 at *
      generalize (L[j]).by_ = f1 at *
      generalize (L[j]).gone = f2 at *
      have HE : Hid (((((laidE L j).set (j * 3) (.string f0)).set (j * 3 + 1) (.string f1)).set (j * 3 + 2) (.bool f2)) = laidE L (j + 1)) := est
      clear est
      go_wp2_with (go_at_call 27; refine (toTreEdit_any f0 f1 f2 _).mono ?_; rintro e w2 ⟨rfl, hb1⟩; have hrow2 := ownsUnder hrow hb1 (Nat.le_refl _); obtain ⟨u0, hu0⟩ := ownsCell hrow2 (j * 3) (by omega); have hf0 := hrow2.frozenAt (j * 3); obtain ⟨u1, hu1⟩ := ownsCell hrow2 (j * 3 + 1) (by omega); have hf1 := hrow2.frozenAt (j * 3 + 1); obtain ⟨u2, hu2⟩ := ownsCell hrow2 (j * 3 + 2) (by omega); have hf2 := hrow2.frozenAt (j * 3 + 2))
      go_roundw
      case rel =>
        have hst := (((hrow2.stored (j * 3) (.string f0)).1.stored (j * 3 + 1) (.string f1)).1.stored (j * 3 + 2) (.bool f2)).1
        rw [HE.out] at hst
        exact ⟨j + 1, by omega, by go_num, hst, ((((hb.trans (hb1.mono (by omega))).setCell (p := ⟨w.heap.size, j * 3, none⟩) (Nat.le_refl _) _).setCell (p := ⟨w.heap.size, j * 3 + 1, none⟩) (Nat.le_refl _) _).setCell (p := ⟨w.heap.size, j * 3 + 2, none⟩) (Nat.le_refl _) _)⟩
      case measure => simp [intOf]; omega
    · go_wp2
      go_ret
      obtain rfl : j = L.length := by omega
      rw [laidE_all] at hrow
      exact ⟨⟨_, rfl, hrow⟩, hb⟩

set_option maxHeartbeats 1000000 in
theorem eqES_same (A A' : Option Addr) (c c' : Nat) (L : List TE) (w : World) (h1 : RdE w.heap.size w A L) (h2 : RdE w.heap.size w A' L) (hn : L.length ≤ maxLen) :
    Calls Try.prog 12 #[.slice A L.length c, .slice A' L.length c'] w fun e w' => e = .returned (.bool true) ∧ Below w.heap.size w w' := by
  unfold maxLen at hn
  have H1 : Hid (RdE w.heap.size w A L) := h1
  have H2 : Hid (RdE w.heap.size w A' L) := h2
  clear h1 h2
  go_enter Try.func12, Try.ntmps12
  go_wp2
  go_loopw [5] (fun iv wr => ∃ j : Nat, j ≤ L.length ∧ iv = .int .i64 j ∧ Below w.heap.size w wr) (fun i _ => L.length - (intOf i).toNat)
  case atStart => exact ⟨0, Nat.zero_le _, rfl, Below.refl _ _⟩
  case round =>
    obtain ⟨j, hj, rfl, hb⟩ := hrel
    have hsz := hb.size
    by_cases hlt : j < L.length
    · obtain ⟨b, o, rfl, hbl, c1, c2, c3⟩ := (H1.out.below hb (Nat.le_refl _)) j hlt
      obtain ⟨b', o', rfl, hbl', d1, d2, d3⟩ := (H2.out.below hb (Nat.le_refl _)) j hlt
      generalize (L[j]).pa = f0 at *
      generalize (L[j]).by_ = f1 at *
      generalize (L[j]).gone = f2 at *
      go_wp2
      go_region_with (go_at_call 33; refine (eqTreEdit_same f0 f1 f2 _).mono ?_; rintro e w1 ⟨rfl, hb1⟩; have hb2 : Below w.heap.size w w1 := hb.drew.trans (hb1.mono (by simp; omega)))
      all_goals
        go_wp2
        go_roundw
        case rel => exact ⟨j + 1, by omega, by go_num, by first | exact hb2 | exact hb2.drew⟩
        case measure => simp [intOf]; omega
    · go_wp2
      go_ret
      exact ⟨rfl, hb⟩
theorem eqE_own {b b' : Nat} {e e' : TypeId} (v v' : Value) (L : List TE) (w : World) (h1 : w.ownsRow b e 3 v L.length (cellsE L)) (h2 : w.ownsRow b' e' 3 v' L.length (cellsE L)) (hn : L.length ≤ 1048576) :
    Calls Try.prog 12 #[v, v'] w fun e w' => e = .returned (.bool true) ∧ Below w.heap.size w w' := by
  obtain ⟨A, c, rfl, r1⟩ := rdE_of_own h1
  obtain ⟨A', c', rfl, r2⟩ := rdE_of_own h2
  exact eqES_same A A' c c' L w r1 r2 (by unfold maxLen; omega)
end Go.Proofs.Ytdbhfefjajgmbaa.W
