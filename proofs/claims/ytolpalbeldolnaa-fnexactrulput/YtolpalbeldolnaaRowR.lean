
/-
  Rows of RulRule: what it is that a slice reads as such a row; the walks of the exact laws' own helpers 'sz', 'to' and 'eq' on them. No condition but those named. (Written by genstruct.py.)
-/
import Derived.Test.YtolpalbeldolnaaBase
import Derived.Test.YtolpalbeldolnaaMathRow
import Derived.OwnWalk
import Derived.Below
import Derived.BigQuiet
import Derived.Deep.QuietTactic
import Derived.Deep.RegionWith
namespace Go.Proofs.Ytolpalbeldolnaa.W
open Go.RowKit

structure RR where
  user : Int
  ref : ByteArray
  path : ByteArray
  write : Bool

def cellsR (L : List RR) : List Value := L.flatMap fun x => [.int .i64 x.user, .string x.ref, .string x.path, .bool x.write]
theorem cellsR_cons (x : RR) (l : List RR) : cellsR (x :: l) = .int .i64 x.user :: .string x.ref :: .string x.path :: .bool x.write :: cellsR l := by simp [cellsR]
theorem cellsR_length (L : List RR) : (cellsR L).length = L.length * 4 := by
  induction L with
  | nil => rfl
  | cons x l ih => rw [cellsR_cons]; simp; omega
theorem cellsR_snoc (L : List RR) (x : RR) : cellsR (L ++ [x]) = cellsR L ++ [.int .i64 x.user, .string x.ref, .string x.path, .bool x.write] := by simp [cellsR]
theorem cellsR_get (L : List RR) (j : Nat) (h : j < L.length) : (cellsR L)[j * 4]? = some (.int .i64 (L[j]).user) ∧ (cellsR L)[j * 4 + 1]? = some (.string (L[j]).ref) ∧ (cellsR L)[j * 4 + 2]? = some (.string (L[j]).path) ∧ (cellsR L)[j * 4 + 3]? = some (.bool (L[j]).write) := by
  induction L generalizing j with
  | nil => simp at h
  | cons x l ih =>
    rw [cellsR_cons]
    cases j with
    | zero => simp
    | succ j =>
      have := ih j (by simpa using h)
      rw [show (j + 1) * 4 = j * 4 + 1 + 1 + 1 + 1 by omega]
      simpa using this
def RdR (B : Nat) (w : World) (A : Option Addr) (L : List RR) : Prop :=
  ∀ j (h : j < L.length), ∃ b o, A = some ⟨b, o, none⟩ ∧ b < B ∧ w.cell? ⟨b, o + j * 4, none⟩ = some (.int .i64 (L[j]).user) ∧ w.cell? ⟨b, o + j * 4 + 1, none⟩ = some (.string (L[j]).ref) ∧ w.cell? ⟨b, o + j * 4 + 2, none⟩ = some (.string (L[j]).path) ∧ w.cell? ⟨b, o + j * 4 + 3, none⟩ = some (.bool (L[j]).write)
theorem RdR.below {B B' : Nat} {w w' : World} {A : Option Addr} {L : List RR} (h : RdR B w A L) (hb : Below B' w w') (hB : B ≤ B') : RdR B w' A L := fun j hj => by
  obtain ⟨b, o, e, hl, c1, c2, c3, c4⟩ := h j hj
  exact ⟨b, o, e, hl, (hb.cell (p := ⟨b, _, none⟩) (by show b < B'; omega)).trans c1, (hb.cell (p := ⟨b, _, none⟩) (by show b < B'; omega)).trans c2, (hb.cell (p := ⟨b, _, none⟩) (by show b < B'; omega)).trans c3, (hb.cell (p := ⟨b, _, none⟩) (by show b < B'; omega)).trans c4⟩
theorem RdR.mono {B B' : Nat} {w : World} {A : Option Addr} {L : List RR} (h : RdR B w A L) (hB : B ≤ B') : RdR B' w A L := fun j hj => by
  obtain ⟨b, o, e, hl, c⟩ := h j hj
  exact ⟨b, o, e, by omega, c⟩
theorem RdR.up {w w' : World} {A : Option Addr} {L : List RR} (h : RdR w.heap.size w A L) (hb : Below w.heap.size w w') : RdR w'.heap.size w' A L := (h.below hb (Nat.le_refl _)).mono hb.size
theorem rdR_of_own {w : World} {base : Nat} {e : TypeId} {v : Value} {L : List RR} (h : w.ownsRow base e 4 v L.length (cellsR L)) : ∃ A c, v = .slice A L.length c ∧ RdR w.heap.size w A L := by
  have hl := h.lt
  rcases h.2 with ⟨rfl, hn⟩ | ⟨g, cap, cur, rfl, _⟩
  · exact ⟨none, 0, by rw [hn], fun j hj => by omega⟩
  · refine ⟨some ⟨g, 0, none⟩, cap, rfl, fun j hj => ⟨g, 0, rfl, (hl g rfl).2, ?_, ?_, ?_, ?_⟩⟩
    · rw [Nat.zero_add, h.cellAt (j * 4) (by omega)]; exact (cellsR_get L j hj).1
    · rw [Nat.zero_add, h.cellAt (j * 4 + 1) (by omega)]; exact (cellsR_get L j hj).2.1
    · rw [Nat.zero_add, h.cellAt (j * 4 + 2) (by omega)]; exact (cellsR_get L j hj).2.2.1
    · rw [Nat.zero_add, h.cellAt (j * 4 + 3) (by omega)]; exact (cellsR_get L j hj).2.2.2

def szR (L : List RR) : Nat := (L.map fun x => x.ref.size + x.path.size).sum
theorem szR_snoc (L : List RR) (j : Nat) (h : j < L.length) : szR (L.take (j + 1)) = szR (L.take j) + ((L[j]).ref.size + (L[j]).path.size) := by
  unfold szR
  rw [List.take_succ_eq_append_getElem h]
  simp only [List.map_append, List.sum_append, List.map_cons, List.map_nil, List.sum_cons, List.sum_nil, Nat.add_zero]
theorem szR_le (L : List RR) (j : Nat) : szR (L.take j) ≤ szR L := by
  unfold szR
  conv => rhs; rw [← List.take_append_drop j L]
  simp only [List.map_append, List.sum_append]
  omega

set_option maxHeartbeats 400000 in
theorem szRulRule_fits (f0 : Int) (f1 : ByteArray) (f2 : ByteArray) (f3 : Bool) (left : Nat) (w : World) (hl : left ≤ 1048576) (h : f1.size + f2.size ≤ left) :
    Calls Try.prog 9 #[.agg #[.int .i64 f0, .string f1, .string f2, .bool f3], .int .i64 left] w fun e w' => e = .returned (.int .i64 ((left - (f1.size + f2.size) : Nat) : Int)) ∧ Below w.heap.size w w' := by
  go_enter Try.func9, Try.ntmps9
  go_wp2
  go_ret
  exact ⟨ret_int (by go_num), (Below.refl _ _).alloc (Nat.le_refl _) _⟩

set_option maxHeartbeats 400000 in
theorem szRulRule_over (f0 : Int) (f1 : ByteArray) (f2 : ByteArray) (f3 : Bool) (left : Nat) (w : World) (hl : left ≤ 1048576) (m1 : f1.size ≤ maxLen) (m2 : f2.size ≤ maxLen) (h : left < f1.size + f2.size) :
    Calls Try.prog 9 #[.agg #[.int .i64 f0, .string f1, .string f2, .bool f3], .int .i64 left] w fun e w' => e = .returned (.int .i64 (-1)) ∧ Below w.heap.size w w' := by
  unfold maxLen at m1 m2
  by_cases h1 : left < f1.size
  · go_enter Try.func9, Try.ntmps9
    go_wp2
    go_ret
    exact ⟨rfl, (Below.refl _ _).alloc (Nat.le_refl _) _⟩
  · go_enter Try.func9, Try.ntmps9
    go_wp2
    go_ret
    exact ⟨rfl, (Below.refl _ _).alloc (Nat.le_refl _) _⟩
set_option maxHeartbeats 400000 in
theorem toRulRule_any (f0 : Int) (f1 : ByteArray) (f2 : ByteArray) (f3 : Bool) (w : World) :
    Calls Try.prog 11 #[.agg #[.int .i64 f0, .string f1, .string f2, .bool f3]] w fun e w' => e = .returned (.agg #[.int .i64 f0, .string f1, .string f2, .bool f3]) ∧ Below w.heap.size w w' := by
  go_enter Try.func11, Try.ntmps11
  go_wp2
  refine bodyPost_ret (v := .agg #[.int .i64 f0, .string f1, .string f2, .bool f3]) (by simp [results, Try.results11, go_sem]) rfl ?_
  exact ⟨rfl, (((Below.refl _ _).alloc (Nat.le_refl _) _).alloc (by simp) _).alloc (by simp; omega) _⟩

set_option maxHeartbeats 400000 in
theorem eqRulRule_same (f0 : Int) (f1 : ByteArray) (f2 : ByteArray) (f3 : Bool) (w : World) :
    Calls Try.prog 35 #[.agg #[.int .i64 f0, .string f1, .string f2, .bool f3], .agg #[.int .i64 f0, .string f1, .string f2, .bool f3]] w fun e w' => e = .returned (.bool true) ∧ Below w.heap.size w w' := by
  go_enter Try.func35, Try.ntmps35
  go_wp2
  go_ret
  exact ⟨rfl, ((Below.refl _ _).alloc (Nat.le_refl _) _).alloc (by simp) _⟩

set_option maxHeartbeats 1000000 in
theorem szRS_any (A : Option Addr) (c : Nat) (L : List RR) (w : World) (hL : RdR w.heap.size w A L) (hn : L.length ≤ maxLen) (ht : ∀ j (h : j < L.length), (L[j]).ref.size ≤ maxLen ∧ (L[j]).path.size ≤ maxLen) :
    Calls Try.prog 13 #[.slice A L.length c, .int .i64 1048576] w fun e w' => (∃ r : Int, e = .returned (.int .i64 r) ∧ (r < 0 ∨ (¬ r < 0 ∧ L.length + szR L ≤ 1048576))) ∧ Below w.heap.size w w' := by
  unfold maxLen at hn
  by_cases h0 : 1048576 < L.length
  · go_enter Try.func13, Try.ntmps13
    go_wp2
    go_ret
    exact ⟨⟨_, rfl, Or.inl (by decide)⟩, Below.refl _ _⟩
  have HT : Hid (∀ j (h : j < L.length), (L[j]).ref.size ≤ maxLen ∧ (L[j]).path.size ≤ maxLen) := ht
  have HL : Hid (RdR w.heap.size w A L) := hL
  clear ht hL hn
  go_enter Try.func13, Try.ntmps13
  go_wp2
  go_loopw [1, 5] (fun lv iv wr => ∃ j s : Nat, j ≤ L.length ∧ iv = .int .i64 j ∧ lv = .int .i64 ((1048576 - (L.length + s) : Nat) : Int) ∧ L.length + s ≤ 1048576 ∧ Hid (s = szR (L.take j)) ∧ Below w.heap.size w wr) (fun _ i _ => L.length - (intOf i).toNat)
  case atStart => exact ⟨0, 0, Nat.zero_le _, rfl, by go_num, by omega, rfl, Below.refl _ _⟩
  case round =>
    obtain ⟨j, s, hj, rfl, rfl, hs, HS, hb⟩ := hrel
    have hsz := hb.size
    by_cases hlt : j < L.length
    · obtain ⟨b, o, rfl, hbl, c1, c2, c3, c4⟩ := (HL.out.below hb (Nat.le_refl _)) j hlt
      have htx := HT.out j hlt
      have est := szR_snoc L j hlt
      have ele := szR_le L (j + 1)
      generalize (L[j]).user = f0 at *
      generalize (L[j]).ref = f1 at *
      generalize (L[j]).path = f2 at *
      generalize (L[j]).write = f3 at *
      have HE : Hid (szR (L.take (j + 1)) = s + (f1.size + f2.size)) := by rw [HS.out]; exact est
      have HF : Hid (szR (L.take (j + 1)) ≤ szR L) := ele
      clear est ele
      obtain ⟨m1, m2⟩ := htx
      by_cases hfit : f1.size + f2.size ≤ 1048576 - (L.length + s)
      · go_wp2_with (go_at_call 9; refine (szRulRule_fits f0 f1 f2 f3 _ _ (by omega) hfit).mono ?_; rintro e w1 ⟨rfl, hb1⟩)
        go_roundw
        case rel => exact ⟨j + 1, s + (f1.size + f2.size), by omega, by go_num, by go_num, by omega, HE.out.symm, hb.trans (hb1.mono (by omega))⟩
        case measure => simp [intOf]; omega
      · go_wp2_with (go_at_call 9; refine (szRulRule_over f0 f1 f2 f3 _ _ (by omega) m1 m2 (by omega)).mono ?_; rintro e w1 ⟨rfl, hb1⟩)
        go_ret
        exact ⟨⟨_, rfl, Or.inl (by decide)⟩, hb.trans (hb1.mono (by omega))⟩
    · go_wp2
      go_ret
      obtain rfl : j = L.length := by omega
      have e := HS.out
      rw [List.take_length] at e
      exact ⟨⟨_, rfl, Or.inr ⟨by omega, by omega⟩⟩, hb⟩

theorem infoR : (Try.prog.info? 26).map (fun i => (i.zero, i.size, i.bytes)) = some (some (.agg #[.int .i64 0, .string ByteArray.empty, .string ByteArray.empty, .bool false]), 4, 48) := by kernel_rfl
def laidR (L : List RR) (j : Nat) : List Value := cellsR (L.take j) ++ (List.replicate (L.length - j) [Value.int .i64 0, .string ByteArray.empty, .string ByteArray.empty, .bool false]).flatten
theorem laidR_zero (L : List RR) : laidR L 0 = (madeCells #[.int .i64 0, .string ByteArray.empty, .string ByteArray.empty, .bool false] (L.length * 4)).toList := by
  rw [made_flat _ _ 4 rfl (by decide)]; simp [laidR, cellsR]
theorem laidR_all (L : List RR) : laidR L L.length = cellsR L := by simp [laidR]
theorem laidR_step (L : List RR) (j : Nat) (h : j < L.length) : (((((laidR L j).set (j * 4) (.int .i64 (L[j]).user)).set (j * 4 + 1) (.string (L[j]).ref)).set (j * 4 + 2) (.string (L[j]).path)).set (j * 4 + 3) (.bool (L[j]).write)) = laidR L (j + 1) := by
  unfold laidR
  have hl : (cellsR (L.take j)).length = j * 4 := by rw [cellsR_length]; simp; omega
  obtain ⟨m, hm⟩ : ∃ m, L.length - j = m + 1 := ⟨L.length - j - 1, by omega⟩
  have hm' : L.length - (j + 1) = m := by omega
  rw [hm, hm', List.replicate_succ, List.flatten_cons, List.take_succ_eq_append_getElem h, cellsR_snoc]
  rw [List.set_append_right _ _ (by omega), hl, show j * 4 - j * 4 = 0 by omega]
  simp only [List.cons_append, List.nil_append, List.set_cons_zero]
  rw [List.set_append_right _ _ (by omega), hl, show j * 4 + 1 - j * 4 = 1 by omega]
  simp only [List.set_cons_zero, List.set_cons_succ]
  rw [List.set_append_right _ _ (by omega), hl, show j * 4 + 2 - j * 4 = 2 by omega]
  simp only [List.set_cons_zero, List.set_cons_succ]
  rw [List.set_append_right _ _ (by omega), hl, show j * 4 + 3 - j * 4 = 3 by omega]
  simp only [List.set_cons_zero, List.set_cons_succ]
  simp

set_option maxHeartbeats 1000000 in
theorem toRS_any (A : Option Addr) (c : Nat) (L : List RR) (w : World) (hL : RdR w.heap.size w A L) (hn : L.length ≤ 1048576) :
    Calls Try.prog 15 #[.slice A L.length c] w fun e w' => (∃ v, e = .returned v ∧ w'.ownsRow w.heap.size 26 4 v L.length (cellsR L)) ∧ Below w.heap.size w w' := by
  have HL : Hid (RdR w.heap.size w A L) := hL
  clear hL
  obtain ⟨i0, hi, hz0, hz1, hz2⟩ := info_parts infoR
  go_enter Try.func15, Try.ntmps15
  go_wp2_with (at_make; refine wpList_make_full _ rfl _ _ 32 rfl w.heap.size 26 i0 (.agg #[.int .i64 0, .string ByteArray.empty, .string ByteArray.empty, .bool false]) 4 Try.underlying32 hi hz0 hz1 _ _ _ _ L.length rfl rfl rfl rfl (by rw [hz2]; omega) (by unfold maxLen; omega) (Nat.le_refl _) ?_)
  intro w1 hown hgr
  have hb0 : Below w.heap.size w w1 := (Below.refl _ _).grown hgr (Nat.le_refl _) (fun k h => by cases h)
  rw [← laidR_zero] at hown
  go_wp2
  go_loopw [4] (fun iv wr => ∃ j : Nat, j ≤ L.length ∧ iv = .int .i64 j ∧ wr.ownsRow w.heap.size 26 4 (.slice (some ⟨w.heap.size, 0, none⟩) L.length L.length) L.length (laidR L j) ∧ Below w.heap.size w wr) (fun i _ => L.length - (intOf i).toNat)
  case atStart => exact ⟨0, Nat.zero_le _, rfl, hown, hb0⟩
  case round =>
    obtain ⟨j, hj, rfl, hrow, hb⟩ := hrel
    have hsz := hb.size
    by_cases hlt : j < L.length
    · obtain ⟨b, o, rfl, hbl, c1, c2, c3, c4⟩ := (HL.out.below hb (Nat.le_refl _)) j hlt
      have est := laidR_step L j hlt
      generalize (L[j]).user = f0 at *
      generalize (L[j]).ref = f1 at *
      generalize (L[j]).path = f2 at *
      generalize (L[j]).write = f3 at *
      have HE : Hid ((((((laidR L j).set (j * 4) (.int .i64 f0)).set (j * 4 + 1) (.string f1)).set (j * 4 + 2) (.string f2)).set (j * 4 + 3) (.bool f3)) = laidR L (j + 1)) := est
      clear est
      go_wp2_with (go_at_call 11; refine (toRulRule_any f0 f1 f2 f3 _).mono ?_; rintro e w2 ⟨rfl, hb1⟩; have hrow2 := ownsUnder hrow hb1 (Nat.le_refl _); obtain ⟨u0, hu0⟩ := ownsCell hrow2 (j * 4) (by omega); have hf0 := hrow2.frozenAt (j * 4); obtain ⟨u1, hu1⟩ := ownsCell hrow2 (j * 4 + 1) (by omega); have hf1 := hrow2.frozenAt (j * 4 + 1); obtain ⟨u2, hu2⟩ := ownsCell hrow2 (j * 4 + 2) (by omega); have hf2 := hrow2.frozenAt (j * 4 + 2); obtain ⟨u3, hu3⟩ := ownsCell hrow2 (j * 4 + 3) (by omega); have hf3 := hrow2.frozenAt (j * 4 + 3))
      go_roundw
      case rel =>
        have hst := ((((hrow2.stored (j * 4) (.int .i64 f0)).1.stored (j * 4 + 1) (.string f1)).1.stored (j * 4 + 2) (.string f2)).1.stored (j * 4 + 3) (.bool f3)).1
        rw [HE.out] at hst
        exact ⟨j + 1, by omega, by go_num, hst, (((((hb.trans (hb1.mono (by omega))).setCell (p := ⟨w.heap.size, j * 4, none⟩) (Nat.le_refl _) _).setCell (p := ⟨w.heap.size, j * 4 + 1, none⟩) (Nat.le_refl _) _).setCell (p := ⟨w.heap.size, j * 4 + 2, none⟩) (Nat.le_refl _) _).setCell (p := ⟨w.heap.size, j * 4 + 3, none⟩) (Nat.le_refl _) _)⟩
      case measure => simp [intOf]; omega
    · go_wp2
      go_ret
      obtain rfl : j = L.length := by omega
      rw [laidR_all] at hrow
      exact ⟨⟨_, rfl, hrow⟩, hb⟩

set_option maxHeartbeats 1000000 in
theorem eqRS_same (A A' : Option Addr) (c c' : Nat) (L : List RR) (w : World) (h1 : RdR w.heap.size w A L) (h2 : RdR w.heap.size w A' L) (hn : L.length ≤ maxLen) :
    Calls Try.prog 17 #[.slice A L.length c, .slice A' L.length c'] w fun e w' => e = .returned (.bool true) ∧ Below w.heap.size w w' := by
  unfold maxLen at hn
  have H1 : Hid (RdR w.heap.size w A L) := h1
  have H2 : Hid (RdR w.heap.size w A' L) := h2
  clear h1 h2
  go_enter Try.func17, Try.ntmps17
  go_wp2
  go_loopw [5] (fun iv wr => ∃ j : Nat, j ≤ L.length ∧ iv = .int .i64 j ∧ Below w.heap.size w wr) (fun i _ => L.length - (intOf i).toNat)
  case atStart => exact ⟨0, Nat.zero_le _, rfl, Below.refl _ _⟩
  case round =>
    obtain ⟨j, hj, rfl, hb⟩ := hrel
    have hsz := hb.size
    by_cases hlt : j < L.length
    · obtain ⟨b, o, rfl, hbl, c1, c2, c3, c4⟩ := (H1.out.below hb (Nat.le_refl _)) j hlt
      obtain ⟨b', o', rfl, hbl', d1, d2, d3, d4⟩ := (H2.out.below hb (Nat.le_refl _)) j hlt
      generalize (L[j]).user = f0 at *
      generalize (L[j]).ref = f1 at *
      generalize (L[j]).path = f2 at *
      generalize (L[j]).write = f3 at *
      go_wp2
      go_region_with (go_at_call 35; refine (eqRulRule_same f0 f1 f2 f3 _).mono ?_; rintro e w1 ⟨rfl, hb1⟩; have hb2 : Below w.heap.size w w1 := hb.drew.trans (hb1.mono (by simp; omega)))
      all_goals
        go_wp2
        go_roundw
        case rel => exact ⟨j + 1, by omega, by go_num, by first | exact hb2 | exact hb2.drew⟩
        case measure => simp [intOf]; omega
    · go_wp2
      go_ret
      exact ⟨rfl, hb⟩
theorem eqR_own {b b' : Nat} {e e' : TypeId} (v v' : Value) (L : List RR) (w : World) (h1 : w.ownsRow b e 4 v L.length (cellsR L)) (h2 : w.ownsRow b' e' 4 v' L.length (cellsR L)) (hn : L.length ≤ 1048576) :
    Calls Try.prog 17 #[v, v'] w fun e w' => e = .returned (.bool true) ∧ Below w.heap.size w w' := by
  obtain ⟨A, c, rfl, r1⟩ := rdR_of_own h1
  obtain ⟨A', c', rfl, r2⟩ := rdR_of_own h2
  exact eqRS_same A A' c c' L w r1 r2 (by unfold maxLen; omega)
end Go.Proofs.Ytolpalbeldolnaa.W
