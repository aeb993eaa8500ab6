
/-
  Rows of TreFile: what it is that a slice reads as such a row; the walks of the exact laws' own helpers 'sz', 'to' and 'eq' on them. No condition but those named. (Written by genstruct.py.)
-/
import Derived.Test.YtgbcgchnnmgmfaaBase
import Derived.Test.YtgbcgchnnmgmfaaMathRow
import Derived.OwnWalk
import Derived.Below
import Derived.BigQuiet
import Derived.Deep.QuietTactic
import Derived.Deep.RegionWith
namespace Go.Proofs.Ytgbcgchnnmgmfaa.W
open Go.RowKit

structure TF where
  pa : ByteArray
  by_ : ByteArray

def cellsF (L : List TF) : List Value := L.flatMap fun x => [.string x.pa, .string x.by_]
theorem cellsF_cons (x : TF) (l : List TF) : cellsF (x :: l) = .string x.pa :: .string x.by_ :: cellsF l := by simp [cellsF]
theorem cellsF_length (L : List TF) : (cellsF L).length = L.length * 2 := by
  induction L with
  | nil => rfl
  | cons x l ih => rw [cellsF_cons]; simp; omega
theorem cellsF_snoc (L : List TF) (x : TF) : cellsF (L ++ [x]) = cellsF L ++ [.string x.pa, .string x.by_] := by simp [cellsF]
theorem cellsF_get (L : List TF) (j : Nat) (h : j < L.length) : (cellsF L)[j * 2]? = some (.string (L[j]).pa) ∧ (cellsF L)[j * 2 + 1]? = some (.string (L[j]).by_) := by
  induction L generalizing j with
  | nil => simp at h
  | cons x l ih =>
    rw [cellsF_cons]
    cases j with
    | zero => simp
    | succ j =>
      have := ih j (by simpa using h)
      rw [show (j + 1) * 2 = j * 2 + 1 + 1 by omega]
      simpa using this
def RdF (B : Nat) (w : World) (A : Option Addr) (L : List TF) : Prop :=
  ∀ j (h : j < L.length), ∃ b o, A = some ⟨b, o, none⟩ ∧ b < B ∧ w.cell? ⟨b, o + j * 2, none⟩ = some (.string (L[j]).pa) ∧ w.cell? ⟨b, o + j * 2 + 1, none⟩ = some (.string (L[j]).by_)
theorem RdF.below {B B' : Nat} {w w' : World} {A : Option Addr} {L : List TF} (h : RdF B w A L) (hb : Below B' w w') (hB : B ≤ B') : RdF B w' A L := fun j hj => by
  obtain ⟨b, o, e, hl, c1, c2⟩ := h j hj
  exact ⟨b, o, e, hl, (hb.cell (p := ⟨b, _, none⟩) (by show b < B'; omega)).trans c1, (hb.cell (p := ⟨b, _, none⟩) (by show b < B'; omega)).trans c2⟩
theorem RdF.mono {B B' : Nat} {w : World} {A : Option Addr} {L : List TF} (h : RdF B w A L) (hB : B ≤ B') : RdF B' w A L := fun j hj => by
  obtain ⟨b, o, e, hl, c⟩ := h j hj
  exact ⟨b, o, e, by omega, c⟩
theorem RdF.up {w w' : World} {A : Option Addr} {L : List TF} (h : RdF w.heap.size w A L) (hb : Below w.heap.size w w') : RdF w'.heap.size w' A L := (h.below hb (Nat.le_refl _)).mono hb.size
theorem rdF_of_own {w : World} {base : Nat} {e : TypeId} {v : Value} {L : List TF} (h : w.ownsRow base e 2 v L.length (cellsF L)) : ∃ A c, v = .slice A L.length c ∧ RdF w.heap.size w A L := by
  have hl := h.lt
  rcases h.2 with ⟨rfl, hn⟩ | ⟨g, cap, cur, rfl, _⟩
  · exact ⟨none, 0, by rw [hn], fun j hj => by omega⟩
  · refine ⟨some ⟨g, 0, none⟩, cap, rfl, fun j hj => ⟨g, 0, rfl, (hl g rfl).2, ?_, ?_⟩⟩
    · rw [Nat.zero_add, h.cellAt (j * 2) (by omega)]; exact (cellsF_get L j hj).1
    · rw [Nat.zero_add, h.cellAt (j * 2 + 1) (by omega)]; exact (cellsF_get L j hj).2

def szF (L : List TF) : Nat := (L.map fun x => x.pa.size + x.by_.size).sum
theorem szF_snoc (L : List TF) (j : Nat) (h : j < L.length) : szF (L.take (j + 1)) = szF (L.take j) + ((L[j]).pa.size + (L[j]).by_.size) := by
  unfold szF
  rw [List.take_succ_eq_append_getElem h]
  simp only [List.map_append, List.sum_append, List.map_cons, List.map_nil, List.sum_cons, List.sum_nil, Nat.add_zero]
theorem szF_le (L : List TF) (j : Nat) : szF (L.take j) ≤ szF L := by
  unfold szF
  conv => rhs; rw [← List.take_append_drop j L]
  simp only [List.map_append, List.sum_append]
  omega

set_option maxHeartbeats 400000 in
theorem szTreFile_fits (f0 : ByteArray) (f1 : ByteArray) (left : Nat) (w : World) (hl : left ≤ 1048576) (h : f0.size + f1.size ≤ left) :
    Calls Try.prog 13 #[.agg #[.string f0, .string f1], .int .i64 left] w fun e w' => e = .returned (.int .i64 ((left - (f0.size + f1.size) : Nat) : Int)) ∧ Below w.heap.size w w' := by
  go_enter Try.func13, Try.ntmps13
  go_wp2
  go_ret
  exact ⟨ret_int (by go_num), (Below.refl _ _).alloc (Nat.le_refl _) _⟩

set_option maxHeartbeats 400000 in
theorem szTreFile_over (f0 : ByteArray) (f1 : ByteArray) (left : Nat) (w : World) (hl : left ≤ 1048576) (m0 : f0.size ≤ maxLen) (m1 : f1.size ≤ maxLen) (h : left < f0.size + f1.size) :
    Calls Try.prog 13 #[.agg #[.string f0, .string f1], .int .i64 left] w fun e w' => e = .returned (.int .i64 (-1)) ∧ Below w.heap.size w w' := by
  unfold maxLen at m0 m1
  by_cases h0 : left < f0.size
  · go_enter Try.func13, Try.ntmps13
    go_wp2
    go_ret
    exact ⟨rfl, (Below.refl _ _).alloc (Nat.le_refl _) _⟩
  · go_enter Try.func13, Try.ntmps13
    go_wp2
    go_ret
    exact ⟨rfl, (Below.refl _ _).alloc (Nat.le_refl _) _⟩
set_option maxHeartbeats 400000 in
theorem toTreFile_any (f0 : ByteArray) (f1 : ByteArray) (w : World) :
    Calls Try.prog 16 #[.agg #[.string f0, .string f1]] w fun e w' => e = .returned (.agg #[.string f0, .string f1]) ∧ Below w.heap.size w w' := by
  go_enter Try.func16, Try.ntmps16
  go_wp2
  refine bodyPost_ret (v := .agg #[.string f0, .string f1]) (by simp [results, Try.results16, go_sem]) rfl ?_
  exact ⟨rfl, (((Below.refl _ _).alloc (Nat.le_refl _) _).alloc (by simp) _).alloc (by simp; omega) _⟩

set_option maxHeartbeats 400000 in
theorem eqTreFile_same (f0 : ByteArray) (f1 : ByteArray) (w : World) :
    Calls Try.prog 19 #[.agg #[.string f0, .string f1], .agg #[.string f0, .string f1]] w fun e w' => e = .returned (.bool true) ∧ Below w.heap.size w w' := by
  go_enter Try.func19, Try.ntmps19
  go_wp2
  go_ret
  exact ⟨rfl, ((Below.refl _ _).alloc (Nat.le_refl _) _).alloc (by simp) _⟩

set_option maxHeartbeats 1000000 in
theorem szFS_any (A : Option Addr) (c : Nat) (L : List TF) (w : World) (hL : RdF w.heap.size w A L) (hn : L.length ≤ maxLen) (ht : ∀ j (h : j < L.length), (L[j]).pa.size ≤ maxLen ∧ (L[j]).by_.size ≤ maxLen) :
    Calls Try.prog 4 #[.slice A L.length c, .int .i64 1048576] w fun e w' => (∃ r : Int, e = .returned (.int .i64 r) ∧ (r < 0 ∨ (¬ r < 0 ∧ L.length + szF L ≤ 1048576))) ∧ Below w.heap.size w w' := by
  unfold maxLen at hn
  by_cases h0 : 1048576 < L.length
  · go_enter Try.func4, Try.ntmps4
    go_wp2
    go_ret
    exact ⟨⟨_, rfl, Or.inl (by decide)⟩, Below.refl _ _⟩
  have HT : Hid (∀ j (h : j < L.length), (L[j]).pa.size ≤ maxLen ∧ (L[j]).by_.size ≤ maxLen) := ht
  have HL : Hid (RdF w.heap.size w A L) := hL
  clear ht hL hn
  go_enter Try.func4, Try.ntmps4
  go_wp2
  go_loopw [1, 5] (fun lv iv wr => ∃ j s : Nat, j ≤ L.length ∧ iv = .int .i64 j ∧ lv = .int .i64 ((1048576 - (L.length + s) : Nat) : Int) ∧ L.length + s ≤ 1048576 ∧ Hid (s = szF (L.take j)) ∧ Below w.heap.size w wr) (fun _ i _ => L.length - (intOf i).toNat)
  case atStart => exact ⟨0, 0, Nat.zero_le _, rfl, by go_num, by omega, rfl, Below.refl _ _⟩
  case round =>
    obtain ⟨j, s, hj, rfl, rfl, hs, HS, hb⟩ := hrel
    have hsz := hb.size
    by_cases hlt : j < L.length
    · obtain ⟨b, o, rfl, hbl, c1, c2⟩ := (HL.out.below hb (Nat.le_refl _)) j hlt
      have htx := HT.out j hlt
      have est := szF_snoc L j hlt
      have ele := szF_le L (j + 1)
      generalize (L[j]).pa = f0 at *
      generalize (L[j]).by_ = f1 at *
      have HE : Hid (szF (L.take (j + 1)) = s + (f0.size + f1.size)) := by rw [HS.out]; exact est
      have HF : Hid (szF (L.take (j + 1)) ≤ szF L) := ele
      clear est ele
      obtain ⟨m0, m1⟩ := htx
      by_cases hfit : f0.size + f1.size ≤ 1048576 - (L.length + s)
      · go_wp2_with (go_at_call 13; refine (szTreFile_fits f0 f1 _ _ (by omega) hfit).mono ?_; rintro e w1 ⟨rfl, hb1⟩)
        go_roundw
        case rel => exact ⟨j + 1, s + (f0.size + f1.size), by omega, by go_num, by go_num, by omega, HE.out.symm, hb.trans (hb1.mono (by omega))⟩
        case measure => simp [intOf]; omega
      · go_wp2_with (go_at_call 13; refine (szTreFile_over f0 f1 _ _ (by omega) m0 m1 (by omega)).mono ?_; rintro e w1 ⟨rfl, hb1⟩)
        go_ret
        exact ⟨⟨_, rfl, Or.inl (by decide)⟩, hb.trans (hb1.mono (by omega))⟩
    · go_wp2
      go_ret
      obtain rfl : j = L.length := by omega
      have e := HS.out
      rw [List.take_length] at e
      exact ⟨⟨_, rfl, Or.inr ⟨by omega, by omega⟩⟩, hb⟩

theorem infoF : (Try.prog.info? 39).map (fun i => (i.zero, i.size, i.bytes)) = some (some (.agg #[.string ByteArray.empty, .string ByteArray.empty]), 2, 32) := by kernel_rfl
def laidF (L : List TF) (j : Nat) : List Value := cellsF (L.take j) ++ (List.replicate (L.length - j) [Value.string ByteArray.empty, .string ByteArray.empty]).flatten
theorem laidF_zero (L : List TF) : laidF L 0 = (madeCells #[.string ByteArray.empty, .string ByteArray.empty] (L.length * 2)).toList := by
  rw [made_flat _ _ 2 rfl (by decide)]; simp [laidF, cellsF]
theorem laidF_all (L : List TF) : laidF L L.length = cellsF L := by simp [laidF]
theorem laidF_step (L : List TF) (j : Nat) (h : j < L.length) : (((laidF L j).set (j * 2) (.string (L[j]).pa)).set (j * 2 + 1) (.string (L[j]).by_)) = laidF L (j + 1) := by
  unfold laidF
  have hl : (cellsF (L.take j)).length = j * 2 := by rw [cellsF_length]; simp; omega
  obtain ⟨m, hm⟩ : ∃ m, L.length - j = m + 1 := ⟨L.length - j - 1, by omega⟩
  have hm' : L.length - (j + 1) = m := by omega
  rw [hm, hm', List.replicate_succ, List.flatten_cons, List.take_succ_eq_append_getElem h, cellsF_snoc]
  rw [List.set_append_right _ _ (by omega), hl, show j * 2 - j * 2 = 0 by omega]
  simp only [List.cons_append, List.nil_append, List.set_cons_zero]
  rw [List.set_append_right _ _ (by omega), hl, show j * 2 + 1 - j * 2 = 1 by omega]
  simp only [List.set_cons_zero, List.set_cons_succ]
  simp

set_option maxHeartbeats 1000000 in
theorem toFS_any (A : Option Addr) (c : Nat) (L : List TF) (w : World) (hL : RdF w.heap.size w A L) (hn : L.length ≤ 1048576) :
    Calls Try.prog 6 #[.slice A L.length c] w fun e w' => (∃ v, e = .returned v ∧ w'.ownsRow w.heap.size 39 2 v L.length (cellsF L)) ∧ Below w.heap.size w w' := by
  have HL : Hid (RdF w.heap.size w A L) := hL
  clear hL
  obtain ⟨i0, hi, hz0, hz1, hz2⟩ := info_parts infoF
  go_enter Try.func6, Try.ntmps6
  go_wp2_with (at_make; refine wpList_make_full _ rfl _ _ 27 rfl w.heap.size 39 i0 (.agg #[.string ByteArray.empty, .string ByteArray.empty]) 2 Try.underlying27 hi hz0 hz1 _ _ _ _ L.length rfl rfl rfl rfl (by rw [hz2]; omega) (by unfold maxLen; omega) (Nat.le_refl _) ?_)
  intro w1 hown hgr
  have hb0 : Below w.heap.size w w1 := (Below.refl _ _).grown hgr (Nat.le_refl _) (fun k h => by cases h)
  rw [← laidF_zero] at hown
  go_wp2
  go_loopw [4] (fun iv wr => ∃ j : Nat, j ≤ L.length ∧ iv = .int .i64 j ∧ wr.ownsRow w.heap.size 39 2 (.slice (some ⟨w.heap.size, 0, none⟩) L.length L.length) L.length (laidF L j) ∧ Below w.heap.size w wr) (fun i _ => L.length - (intOf i).toNat)
  case atStart => exact ⟨0, Nat.zero_le _, rfl, hown, hb0⟩
  case round =>
    obtain ⟨j, hj, rfl, hrow, hb⟩ := hrel
    have hsz := hb.size
    by_cases hlt : j < L.length
    · obtain ⟨b, o, rfl, hbl, c1, c2⟩ := (HL.out.below hb (Nat.le_refl _)) j hlt
      have est := laidF_step L j hlt
      generalize (L[j]).pa = f0 at *
      generalize (L[j]).by_ = f1 at *
      have HE : Hid ((((laidF L j).set (j * 2) (.string f0)).set (j * 2 + 1) (.string f1)) = laidF L (j + 1)) := est
      clear est
      go_wp2_with (go_at_call 16; refine (toTreFile_any f0 f1 _).mono ?_; rintro e w2 ⟨rfl, hb1⟩; have hrow2 := ownsUnder hrow hb1 (Nat.le_refl _); obtain ⟨u0, hu0⟩ := ownsCell hrow2 (j * 2) (by omega); have hf0 := hrow2.frozenAt (j * 2); obtain ⟨u1, hu1⟩ := ownsCell hrow2 (j * 2 + 1) (by omega); have hf1 := hrow2.frozenAt (j * 2 + 1))
      go_roundw
      case rel =>
        have hst := ((hrow2.stored (j * 2) (.string f0)).1.stored (j * 2 + 1) (.string f1)).1
        rw [HE.out] at hst
        exact ⟨j + 1, by omega, by go_num, hst, (((hb.trans (hb1.mono (by omega))).setCell (p := ⟨w.heap.size, j * 2, none⟩) (Nat.le_refl _) _).setCell (p := ⟨w.heap.size, j * 2 + 1, none⟩) (Nat.le_refl _) _)⟩
      case measure => simp [intOf]; omega
    · go_wp2
      go_ret
      obtain rfl : j = L.length := by omega
      rw [laidF_all] at hrow
      exact ⟨⟨_, rfl, hrow⟩, hb⟩

set_option maxHeartbeats 1000000 in
theorem eqFS_same (A A' : Option Addr) (c c' : Nat) (L : List TF) (w : World) (h1 : RdF w.heap.size w A L) (h2 : RdF w.heap.size w A' L) (hn : L.length ≤ maxLen) :
    Calls Try.prog 9 #[.slice A L.length c, .slice A' L.length c'] w fun e w' => e = .returned (.bool true) ∧ Below w.heap.size w w' := by
  unfold maxLen at hn
  have H1 : Hid (RdF w.heap.size w A L) := h1
  have H2 : Hid (RdF w.heap.size w A' L) := h2
  clear h1 h2
  go_enter Try.func9, Try.ntmps9
  go_wp2
  go_loopw [5] (fun iv wr => ∃ j : Nat, j ≤ L.length ∧ iv = .int .i64 j ∧ Below w.heap.size w wr) (fun i _ => L.length - (intOf i).toNat)
  case atStart => exact ⟨0, Nat.zero_le _, rfl, Below.refl _ _⟩
  case round =>
    obtain ⟨j, hj, rfl, hb⟩ := hrel
    have hsz := hb.size
    by_cases hlt : j < L.length
    · obtain ⟨b, o, rfl, hbl, c1, c2⟩ := (H1.out.below hb (Nat.le_refl _)) j hlt
      obtain ⟨b', o', rfl, hbl', d1, d2⟩ := (H2.out.below hb (Nat.le_refl _)) j hlt
      generalize (L[j]).pa = f0 at *
      generalize (L[j]).by_ = f1 at *
      go_wp2
      go_region_with (go_at_call 19; refine (eqTreFile_same f0 f1 _).mono ?_; rintro e w1 ⟨rfl, hb1⟩; have hb2 : Below w.heap.size w w1 := hb.drew.trans (hb1.mono (by simp; omega)))
      all_goals
        go_wp2
        go_roundw
        case rel => exact ⟨j + 1, by omega, by go_num, by first | exact hb2 | exact hb2.drew⟩
        case measure => simp [intOf]; omega
    · go_wp2
      go_ret
      exact ⟨rfl, hb⟩
theorem eqF_own {b b' : Nat} {e e' : TypeId} (v v' : Value) (L : List TF) (w : World) (h1 : w.ownsRow b e 2 v L.length (cellsF L)) (h2 : w.ownsRow b' e' 2 v' L.length (cellsF L)) (hn : L.length ≤ 1048576) :
    Calls Try.prog 9 #[v, v'] w fun e w' => e = .returned (.bool true) ∧ Below w.heap.size w w' := by
  obtain ⟨A, c, rfl, r1⟩ := rdF_of_own h1
  obtain ⟨A', c', rfl, r2⟩ := rdF_of_own h2
  exact eqFS_same A A' c c' L w r1 r2 (by unfold maxLen; omega)
end Go.Proofs.Ytgbcgchnnmgmfaa.W
