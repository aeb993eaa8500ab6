/-
  Rows of ObjEntry: what it is that a slice reads as such a row; the walks of the exact laws' own helpers 'sz', 'to' and 'eq' on them. No condition but those named. (Written by genstruct.py.)
-/
import Derived.Test.YtklgjhclkfhaaaaBase
import Derived.Test.YtklgjhclkfhaaaaMathRow
import Derived.OwnWalk
import Derived.Below
import Derived.BigQuiet
import Derived.Deep.QuietTactic
import Derived.Deep.RegionWith
namespace Go.Proofs.Ytklgjhclkfhaaaa.W
open Go.RowKit

structure OE where
  nm : ByteArray
  sh : Bool
  id : Int

def cellsO (L : List OE) : List Value := L.flatMap fun x => [.string x.nm, .bool x.sh, .int .i64 x.id]
theorem cellsO_cons (x : OE) (l : List OE) : cellsO (x :: l) = .string x.nm :: .bool x.sh :: .int .i64 x.id :: cellsO l := by simp [cellsO]
theorem cellsO_length (L : List OE) : (cellsO L).length = L.length * 3 := by
  induction L with
  | nil => rfl
  | cons x l ih => rw [cellsO_cons]; simp; omega
theorem cellsO_snoc (L : List OE) (x : OE) : cellsO (L ++ [x]) = cellsO L ++ [.string x.nm, .bool x.sh, .int .i64 x.id] := by simp [cellsO]
theorem cellsO_get (L : List OE) (j : Nat) (h : j < L.length) : (cellsO L)[j * 3]? = some (.string (L[j]).nm) ∧ (cellsO L)[j * 3 + 1]? = some (.bool (L[j]).sh) ∧ (cellsO L)[j * 3 + 2]? = some (.int .i64 (L[j]).id) := by
  induction L generalizing j with
  | nil => simp at h
  | cons x l ih =>
    rw [cellsO_cons]
    cases j with
    | zero => simp
    | succ j =>
      have := ih j (by simpa using h)
      rw [show (j + 1) * 3 = j * 3 + 1 + 1 + 1 by omega]
      simpa using this
def RdO (B : Nat) (w : World) (A : Option Addr) (L : List OE) : Prop :=
  ∀ j (h : j < L.length), ∃ b o, A = some ⟨b, o, none⟩ ∧ b < B ∧ w.cell? ⟨b, o + j * 3, none⟩ = some (.string (L[j]).nm) ∧ w.cell? ⟨b, o + j * 3 + 1, none⟩ = some (.bool (L[j]).sh) ∧ w.cell? ⟨b, o + j * 3 + 2, none⟩ = some (.int .i64 (L[j]).id)
theorem RdO.below {B B' : Nat} {w w' : World} {A : Option Addr} {L : List OE} (h : RdO B w A L) (hb : Below B' w w') (hB : B ≤ B') : RdO B w' A L := fun j hj => by
  obtain ⟨b, o, e, hl, c1, c2, c3⟩ := h j hj
  exact ⟨b, o, e, hl, (hb.cell (p := ⟨b, _, none⟩) (by show b < B'; omega)).trans c1, (hb.cell (p := ⟨b, _, none⟩) (by show b < B'; omega)).trans c2, (hb.cell (p := ⟨b, _, none⟩) (by show b < B'; omega)).trans c3⟩
theorem RdO.mono {B B' : Nat} {w : World} {A : Option Addr} {L : List OE} (h : RdO B w A L) (hB : B ≤ B') : RdO B' w A L := fun j hj => by
  obtain ⟨b, o, e, hl, c⟩ := h j hj
  exact ⟨b, o, e, by omega, c⟩
theorem RdO.up {w w' : World} {A : Option Addr} {L : List OE} (h : RdO w.heap.size w A L) (hb : Below w.heap.size w w') : RdO w'.heap.size w' A L := (h.below hb (Nat.le_refl _)).mono hb.size
theorem rdO_of_own {w : World} {base : Nat} {e : TypeId} {v : Value} {L : List OE} (h : w.ownsRow base e 3 v L.length (cellsO L)) : ∃ A c, v = .slice A L.length c ∧ RdO w.heap.size w A L := by
  have hl := h.lt
  rcases h.2 with ⟨rfl, hn⟩ | ⟨g, cap, cur, rfl, _⟩
  · exact ⟨none, 0, by rw [hn], fun j hj => by omega⟩
  · refine ⟨some ⟨g, 0, none⟩, cap, rfl, fun j hj => ⟨g, 0, rfl, (hl g rfl).2, ?_, ?_, ?_⟩⟩
    · rw [Nat.zero_add, h.cellAt (j * 3) (by omega)]; exact (cellsO_get L j hj).1
    · rw [Nat.zero_add, h.cellAt (j * 3 + 1) (by omega)]; exact (cellsO_get L j hj).2.1
    · rw [Nat.zero_add, h.cellAt (j * 3 + 2) (by omega)]; exact (cellsO_get L j hj).2.2

def szO (L : List OE) : Nat := (L.map fun x => x.nm.size).sum
theorem szO_snoc (L : List OE) (j : Nat) (h : j < L.length) : szO (L.take (j + 1)) = szO (L.take j) + ((L[j]).nm.size) := by
  unfold szO
  rw [List.take_succ_eq_append_getElem h]
  simp only [List.map_append, List.sum_append, List.map_cons, List.map_nil, List.sum_cons, List.sum_nil, Nat.add_zero]
theorem szO_le (L : List OE) (j : Nat) : szO (L.take j) ≤ szO L := by
  unfold szO
  conv => rhs; rw [← List.take_append_drop j L]
  simp only [List.map_append, List.sum_append]
  omega

set_option maxHeartbeats 400000 in
theorem szObjEntry_fits (f0 : ByteArray) (f1 : Bool) (f2 : Int) (left : Nat) (w : World) (hl : left ≤ 1048576) (h : f0.size ≤ left) :
    Calls Try.prog 9 #[.agg #[.string f0, .bool f1, .int .i64 f2], .int .i64 left] w fun e w' => e = .returned (.int .i64 ((left - (f0.size) : Nat) : Int)) ∧ Below w.heap.size w w' := by
  go_enter Try.func9, Try.ntmps9
  go_wp2
  go_ret
  exact ⟨ret_int (by go_num), (Below.refl _ _).alloc (Nat.le_refl _) _⟩

set_option maxHeartbeats 400000 in
theorem szObjEntry_over (f0 : ByteArray) (f1 : Bool) (f2 : Int) (left : Nat) (w : World) (hl : left ≤ 1048576) (m0 : f0.size ≤ maxLen) (h : left < f0.size) :
    Calls Try.prog 9 #[.agg #[.string f0, .bool f1, .int .i64 f2], .int .i64 left] w fun e w' => e = .returned (.int .i64 (-1)) ∧ Below w.heap.size w w' := by
  unfold maxLen at m0
  go_enter Try.func9, Try.ntmps9
  go_wp2
  go_ret
  exact ⟨rfl, (Below.refl _ _).alloc (Nat.le_refl _) _⟩
set_option maxHeartbeats 400000 in
theorem toObjEntry_any (f0 : ByteArray) (f1 : Bool) (f2 : Int) (w : World) :
    Calls Try.prog 12 #[.agg #[.string f0, .bool f1, .int .i64 f2]] w fun e w' => e = .returned (.agg #[.string f0, .bool f1, .int .i64 f2]) ∧ Below w.heap.size w w' := by
  go_enter Try.func12, Try.ntmps12
  go_wp2
  refine bodyPost_ret (v := .agg #[.string f0, .bool f1, .int .i64 f2]) (by simp [results, Try.results12, go_sem]) rfl ?_
  exact ⟨rfl, (((Below.refl _ _).alloc (Nat.le_refl _) _).alloc (by simp) _).alloc (by simp; omega) _⟩

set_option maxHeartbeats 400000 in
theorem eqObjEntry_same (f0 : ByteArray) (f1 : Bool) (f2 : Int) (w : World) :
    Calls Try.prog 14 #[.agg #[.string f0, .bool f1, .int .i64 f2], .agg #[.string f0, .bool f1, .int .i64 f2]] w fun e w' => e = .returned (.bool true) ∧ Below w.heap.size w w' := by
  go_enter Try.func14, Try.ntmps14
  go_wp2
  go_ret
  exact ⟨rfl, ((Below.refl _ _).alloc (Nat.le_refl _) _).alloc (by simp) _⟩

set_option maxHeartbeats 1000000 in
theorem szOS_any (A : Option Addr) (c : Nat) (L : List OE) (w : World) (hL : RdO w.heap.size w A L) (hn : L.length ≤ maxLen) (ht : ∀ j (h : j < L.length), (L[j]).nm.size ≤ maxLen) :
    Calls Try.prog 4 #[.slice A L.length c, .int .i64 1048576] w fun e w' => (∃ r : Int, e = .returned (.int .i64 r) ∧ (r < 0 ∨ (¬ r < 0 ∧ L.length + szO L ≤ 1048576))) ∧ Below w.heap.size w w' := by
  unfold maxLen at hn
  by_cases h0 : 1048576 < L.length
  · go_enter Try.func4, Try.ntmps4
    go_wp2
    go_ret
    exact ⟨⟨_, rfl, Or.inl (by decide)⟩, Below.refl _ _⟩
  have HT : Hid (∀ j (h : j < L.length), (L[j]).nm.size ≤ maxLen) := ht
  have HL : Hid (RdO w.heap.size w A L) := hL
  clear ht hL hn
  go_enter Try.func4, Try.ntmps4
  go_wp2
  go_loopw [1, 5] (fun lv iv wr => ∃ j s : Nat, j ≤ L.length ∧ iv = .int .i64 j ∧ lv = .int .i64 ((1048576 - (L.length + s) : Nat) : Int) ∧ L.length + s ≤ 1048576 ∧ Hid (s = szO (L.take j)) ∧ Below w.heap.size w wr) (fun _ i _ => L.length - (intOf i).toNat)
  case atStart => exact ⟨0, 0, Nat.zero_le _, rfl, by go_num, by omega, rfl, Below.refl _ _⟩
  case round =>
    obtain ⟨j, s, hj, rfl, rfl, hs, HS, hb⟩ := hrel
    have hsz := hb.size
    by_cases hlt : j < L.length
    · obtain ⟨b, o, rfl, hbl, c1, c2, c3⟩ := (HL.out.below hb (Nat.le_refl _)) j hlt
      have htx := HT.out j hlt
      have est := szO_snoc L j hlt
      have ele := szO_le L (j + 1)
      generalize (L[j]).nm = f0 at *
      generalize (L[j]).sh = f1 at *
      generalize (L[j]).id = f2 at *
      have HE : Hid (szO (L.take (j + 1)) = s + (f0.size)) := by rw [HS.out]; exact est
      have HF : Hid (szO (L.take (j + 1)) ≤ szO L) := ele
      clear est ele
      have m0 := htx
      by_cases hfit : f0.size ≤ 1048576 - (L.length + s)
      · go_wp2_with (go_at_call 9; refine (szObjEntry_fits f0 f1 f2 _ _ (by omega) hfit).mono ?_; rintro e w1 ⟨rfl, hb1⟩)
        go_roundw
        case rel => exact ⟨j + 1, s + (f0.size), by omega, by go_num, by go_num, by omega, HE.out.symm, hb.trans (hb1.mono (by omega))⟩
        case measure => simp [intOf]; omega
      · go_wp2_with (go_at_call 9; refine (szObjEntry_over f0 f1 f2 _ _ (by omega) m0 (by omega)).mono ?_; rintro e w1 ⟨rfl, hb1⟩)
        go_ret
        exact ⟨⟨_, rfl, Or.inl (by decide)⟩, hb.trans (hb1.mono (by omega))⟩
    · go_wp2
      go_ret
      obtain rfl : j = L.length := by omega
      have e := HS.out
      rw [List.take_length] at e
      exact ⟨⟨_, rfl, Or.inr ⟨by omega, by omega⟩⟩, hb⟩

theorem infoO : (Try.prog.info? 33).map (fun i => (i.zero, i.size, i.bytes)) = some (some (.agg #[.string ByteArray.empty, .bool false, .int .i64 0]), 3, 32) := by kernel_rfl
def laidO (L : List OE) (j : Nat) : List Value := cellsO (L.take j) ++ (List.replicate (L.length - j) [Value.string ByteArray.empty, .bool false, .int .i64 0]).flatten
theorem laidO_zero (L : List OE) : laidO L 0 = (madeCells #[.string ByteArray.empty, .bool false, .int .i64 0] (L.length * 3)).toList := by
  rw [made_flat _ _ 3 rfl (by decide)]; simp [laidO, cellsO]
theorem laidO_all (L : List OE) : laidO L L.length = cellsO L := by simp [laidO]
theorem laidO_step (L : List OE) (j : Nat) (h : j < L.length) : ((((laidO L j).set (j * 3) (.string (L[j]).nm)).set (j * 3 + 1) (.bool (L[j]).sh)).set (j * 3 + 2) (.int .i64 (L[j]).id)) = laidO L (j + 1) := by
  unfold laidO
  have hl : (cellsO (L.take j)).length = j * 3 := by rw [cellsO_length]; simp; omega
  obtain ⟨m, hm⟩ : ∃ m, L.length - j = m + 1 := ⟨L.length - j - 1, by omega⟩
  have hm' : L.length - (j + 1) = m := by omega
  rw [hm, hm', List.replicate_succ, List.flatten_cons, List.take_succ_eq_append_getElem h, cellsO_snoc]
  rw [List.set_append_right _ _ (by omega), hl, show j * 3 - j * 3 = 0 by omega]
  simp only [List.cons_append, List.nil_append, List.set_cons_zero]
  rw [List.set_append_right _ _ (by omega), hl, show j * 3 + 1 - j * 3 = 1 by omega]
  simp only [List.set_cons_zero, List.set_cons_succ]
  rw [List.set_append_right _ _ (by omega), hl, show j * 3 + 2 - j * 3 = 2 by omega]
  simp only [List.set_cons_zero, List.set_cons_succ]
  simp

set_option maxHeartbeats 1000000 in
theorem toOS_any (A : Option Addr) (c : Nat) (L : List OE) (w : World) (hL : RdO w.heap.size w A L) (hn : L.length ≤ 1048576) :
    Calls Try.prog 6 #[.slice A L.length c] w fun e w' => (∃ v, e = .returned v ∧ w'.ownsRow w.heap.size 33 3 v L.length (cellsO L)) ∧ Below w.heap.size w w' := by
  have HL : Hid (RdO w.heap.size w A L) := hL
  clear hL
  obtain ⟨i0, hi, hz0, hz1, hz2⟩ := info_parts infoO
  go_enter Try.func6, Try.ntmps6
  go_wp2_with (at_make; refine wpList_make_full _ rfl _ _ 25 rfl w.heap.size 33 i0 (.agg #[.string ByteArray.empty, .bool false, .int .i64 0]) 3 Try.underlying25 hi hz0 hz1 _ _ _ _ L.length rfl rfl rfl rfl (by rw [hz2]; omega) (by unfold maxLen; omega) (Nat.le_refl _) ?_)
  intro w1 hown hgr
  have hb0 : Below w.heap.size w w1 := (Below.refl _ _).grown hgr (Nat.le_refl _) (fun k h => by cases h)
  rw [← laidO_zero] at hown
  go_wp2
  go_loopw [4] (fun iv wr => ∃ j : Nat, j ≤ L.length ∧ iv = .int .i64 j ∧ wr.ownsRow w.heap.size 33 3 (.slice (some ⟨w.heap.size, 0, none⟩) L.length L.length) L.length (laidO L j) ∧ Below w.heap.size w wr) (fun i _ => L.length - (intOf i).toNat)
  case atStart => exact ⟨0, Nat.zero_le _, rfl, hown, hb0⟩
  case round =>
    obtain ⟨j, hj, rfl, hrow, hb⟩ := hrel
    have hsz := hb.size
    by_cases hlt : j < L.length
    · obtain ⟨b, o, rfl, hbl, c1, c2, c3⟩ := (HL.out.below hb (Nat.le_refl _)) j hlt
      have est := laidO_step L j hlt
      generalize (L[j]).nm = f0 at *
      generalize (L[j]).sh = f1 at *
      generalize (L[j]).id = f2 at *
      have HE : Hid (((((laidO L j).set (j * 3) (.string f0)).set (j * 3 + 1) (.bool f1)).set (j * 3 + 2) (.int .i64 f2)) = laidO L (j + 1)) := est
      clear est
      go_wp2_with (go_at_call 12; refine (toObjEntry_any f0 f1 f2 _).mono ?_; rintro e w2 ⟨rfl, hb1⟩; have hrow2 := ownsUnder hrow hb1 (Nat.le_refl _); obtain ⟨u0, hu0⟩ := ownsCell hrow2 (j * 3) (by omega); have hf0 := hrow2.frozenAt (j * 3); obtain ⟨u1, hu1⟩ := ownsCell hrow2 (j * 3 + 1) (by omega); have hf1 := hrow2.frozenAt (j * 3 + 1); obtain ⟨u2, hu2⟩ := ownsCell hrow2 (j * 3 + 2) (by omega); have hf2 := hrow2.frozenAt (j * 3 + 2))
      go_roundw
      case rel =>
        have hst := (((hrow2.stored (j * 3) (.string f0)).1.stored (j * 3 + 1) (.bool f1)).1.stored (j * 3 + 2) (.int .i64 f2)).1
        rw [HE.out] at hst
        exact ⟨j + 1, by omega, by go_num, hst, ((((hb.trans (hb1.mono (by omega))).setCell (p := ⟨w.heap.size, j * 3, none⟩) (Nat.le_refl _) _).setCell (p := ⟨w.heap.size, j * 3 + 1, none⟩) (Nat.le_refl _) _).setCell (p := ⟨w.heap.size, j * 3 + 2, none⟩) (Nat.le_refl _) _)⟩
      case measure => simp [intOf]; omega
    · go_wp2
      go_ret
      obtain rfl : j = L.length := by omega
      rw [laidO_all] at hrow
      exact ⟨⟨_, rfl, hrow⟩, hb⟩

set_option maxHeartbeats 1000000 in
theorem eqOS_same (A A' : Option Addr) (c c' : Nat) (L : List OE) (w : World) (h1 : RdO w.heap.size w A L) (h2 : RdO w.heap.size w A' L) (hn : L.length ≤ maxLen) :
    Calls Try.prog 8 #[.slice A L.length c, .slice A' L.length c'] w fun e w' => e = .returned (.bool true) ∧ Below w.heap.size w w' := by
  unfold maxLen at hn
  have H1 : Hid (RdO w.heap.size w A L) := h1
  have H2 : Hid (RdO w.heap.size w A' L) := h2
  clear h1 h2
  go_enter Try.func8, Try.ntmps8
  go_wp2
  go_loopw [5] (fun iv wr => ∃ j : Nat, j ≤ L.length ∧ iv = .int .i64 j ∧ Below w.heap.size w wr) (fun i _ => L.length - (intOf i).toNat)
  case atStart => exact ⟨0, Nat.zero_le _, rfl, Below.refl _ _⟩
  case round =>
    obtain ⟨j, hj, rfl, hb⟩ := hrel
    have hsz := hb.size
    by_cases hlt : j < L.length
    · obtain ⟨b, o, rfl, hbl, c1, c2, c3⟩ := (H1.out.below hb (Nat.le_refl _)) j hlt
      obtain ⟨b', o', rfl, hbl', d1, d2, d3⟩ := (H2.out.below hb (Nat.le_refl _)) j hlt
      generalize (L[j]).nm = f0 at *
      generalize (L[j]).sh = f1 at *
      generalize (L[j]).id = f2 at *
      go_wp2
      go_region_with (go_at_call 14; refine (eqObjEntry_same f0 f1 f2 _).mono ?_; rintro e w1 ⟨rfl, hb1⟩; have hb2 : Below w.heap.size w w1 := hb.drew.trans (hb1.mono (by simp; omega)))
      all_goals
        go_wp2
        go_roundw
        case rel => exact ⟨j + 1, by omega, by go_num, by first | exact hb2 | exact hb2.drew⟩
        case measure => simp [intOf]; omega
    · go_wp2
      go_ret
      exact ⟨rfl, hb⟩
theorem eqO_own {b b' : Nat} {e e' : TypeId} (v v' : Value) (L : List OE) (w : World) (h1 : w.ownsRow b e 3 v L.length (cellsO L)) (h2 : w.ownsRow b' e' 3 v' L.length (cellsO L)) (hn : L.length ≤ 1048576) :
    Calls Try.prog 8 #[v, v'] w fun e w' => e = .returned (.bool true) ∧ Below w.heap.size w w' := by
  obtain ⟨A, c, rfl, r1⟩ := rdO_of_own h1
  obtain ⟨A', c', rfl, r2⟩ := rdO_of_own h2
  exact eqOS_same A A' c c' L w r1 r2 (by unfold maxLen; omega)
end Go.Proofs.Ytklgjhclkfhaaaa.W
