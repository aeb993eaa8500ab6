
/-
  Rows of HseLine: what it is that a slice reads as such a row; the walks of the exact laws' own helpers 'sz', 'to' and 'eq' on them. No condition but those named. (Written by genstruct.py.)
-/
import Derived.Test.YtcaimlbibhaigaaBase
import Derived.Test.YtcaimlbibhaigaaMathRow
import Derived.OwnWalk
import Derived.Below
import Derived.BigQuiet
import Derived.Deep.QuietTactic
import Derived.Deep.RegionWith
namespace Go.Proofs.Ytcaimlbibhaigaa.W
open Go.RowKit

structure LN where
  user : Int
  repo : Int
  kind : Int
  code : Int

def cellsH (L : List LN) : List Value := L.flatMap fun x => [.int .i64 x.user, .int .i64 x.repo, .int .i64 x.kind, .int .i64 x.code]
theorem cellsH_cons (x : LN) (l : List LN) : cellsH (x :: l) = .int .i64 x.user :: .int .i64 x.repo :: .int .i64 x.kind :: .int .i64 x.code :: cellsH l := by simp [cellsH]
theorem cellsH_length (L : List LN) : (cellsH L).length = L.length * 4 := by
  induction L with
  | nil => rfl
  | cons x l ih => rw [cellsH_cons]; simp; omega
theorem cellsH_snoc (L : List LN) (x : LN) : cellsH (L ++ [x]) = cellsH L ++ [.int .i64 x.user, .int .i64 x.repo, .int .i64 x.kind, .int .i64 x.code] := by simp [cellsH]
theorem cellsH_get (L : List LN) (j : Nat) (h : j < L.length) : (cellsH L)[j * 4]? = some (.int .i64 (L[j]).user) ∧ (cellsH L)[j * 4 + 1]? = some (.int .i64 (L[j]).repo) ∧ (cellsH L)[j * 4 + 2]? = some (.int .i64 (L[j]).kind) ∧ (cellsH L)[j * 4 + 3]? = some (.int .i64 (L[j]).code) := by
  induction L generalizing j with
  | nil => simp at h
  | cons x l ih =>
    rw [cellsH_cons]
    cases j with
    | zero => simp
    | succ j =>
      have := ih j (by simpa using h)
      rw [show (j + 1) * 4 = j * 4 + 1 + 1 + 1 + 1 by omega]
      simpa using this
def RdH (B : Nat) (w : World) (A : Option Addr) (L : List LN) : Prop :=
  ∀ j (h : j < L.length), ∃ b o, A = some ⟨b, o, none⟩ ∧ b < B ∧ w.cell? ⟨b, o + j * 4, none⟩ = some (.int .i64 (L[j]).user) ∧ w.cell? ⟨b, o + j * 4 + 1, none⟩ = some (.int .i64 (L[j]).repo) ∧ w.cell? ⟨b, o + j * 4 + 2, none⟩ = some (.int .i64 (L[j]).kind) ∧ w.cell? ⟨b, o + j * 4 + 3, none⟩ = some (.int .i64 (L[j]).code)
theorem RdH.below {B B' : Nat} {w w' : World} {A : Option Addr} {L : List LN} (h : RdH B w A L) (hb : Below B' w w') (hB : B ≤ B') : RdH B w' A L := fun j hj => by
  obtain ⟨b, o, e, hl, c1, c2, c3, c4⟩ := h j hj
  exact ⟨b, o, e, hl, (hb.cell (p := ⟨b, _, none⟩) (by show b < B'; omega)).trans c1, (hb.cell (p := ⟨b, _, none⟩) (by show b < B'; omega)).trans c2, (hb.cell (p := ⟨b, _, none⟩) (by show b < B'; omega)).trans c3, (hb.cell (p := ⟨b, _, none⟩) (by show b < B'; omega)).trans c4⟩
theorem RdH.mono {B B' : Nat} {w : World} {A : Option Addr} {L : List LN} (h : RdH B w A L) (hB : B ≤ B') : RdH B' w A L := fun j hj => by
  obtain ⟨b, o, e, hl, c⟩ := h j hj
  exact ⟨b, o, e, by omega, c⟩
theorem RdH.up {w w' : World} {A : Option Addr} {L : List LN} (h : RdH w.heap.size w A L) (hb : Below w.heap.size w w') : RdH w'.heap.size w' A L := (h.below hb (Nat.le_refl _)).mono hb.size
theorem rdH_of_own {w : World} {base : Nat} {e : TypeId} {v : Value} {L : List LN} (h : w.ownsRow base e 4 v L.length (cellsH L)) : ∃ A c, v = .slice A L.length c ∧ RdH w.heap.size w A L := by
  have hl := h.lt
  rcases h.2 with ⟨rfl, hn⟩ | ⟨g, cap, cur, rfl, _⟩
  · exact ⟨none, 0, by rw [hn], fun j hj => by omega⟩
  · refine ⟨some ⟨g, 0, none⟩, cap, rfl, fun j hj => ⟨g, 0, rfl, (hl g rfl).2, ?_, ?_, ?_, ?_⟩⟩
    · rw [Nat.zero_add, h.cellAt (j * 4) (by omega)]; exact (cellsH_get L j hj).1
    · rw [Nat.zero_add, h.cellAt (j * 4 + 1) (by omega)]; exact (cellsH_get L j hj).2.1
    · rw [Nat.zero_add, h.cellAt (j * 4 + 2) (by omega)]; exact (cellsH_get L j hj).2.2.1
    · rw [Nat.zero_add, h.cellAt (j * 4 + 3) (by omega)]; exact (cellsH_get L j hj).2.2.2

def szH (L : List LN) : Nat := (L.map fun x => 0 * x.user.toNat).sum
theorem szH_snoc (L : List LN) (j : Nat) (h : j < L.length) : szH (L.take (j + 1)) = szH (L.take j) + (0 * (L[j]).user.toNat) := by
  unfold szH
  rw [List.take_succ_eq_append_getElem h]
  simp only [List.map_append, List.sum_append, List.map_cons, List.map_nil, List.sum_cons, List.sum_nil, Nat.add_zero]
theorem szH_le (L : List LN) (j : Nat) : szH (L.take j) ≤ szH L := by
  unfold szH
  conv => rhs; rw [← List.take_append_drop j L]
  simp only [List.map_append, List.sum_append]
  omega

set_option maxHeartbeats 400000 in
theorem toHseLine_any (f0 : Int) (f1 : Int) (f2 : Int) (f3 : Int) (w : World) :
    Calls Try.prog 11 #[.agg #[.int .i64 f0, .int .i64 f1, .int .i64 f2, .int .i64 f3]] w fun e w' => e = .returned (.agg #[.int .i64 f0, .int .i64 f1, .int .i64 f2, .int .i64 f3]) ∧ Below w.heap.size w w' := by
  go_enter Try.func11, Try.ntmps11
  go_wp2
  refine bodyPost_ret (v := .agg #[.int .i64 f0, .int .i64 f1, .int .i64 f2, .int .i64 f3]) (by simp [results, Try.results11, go_sem]) rfl ?_
  exact ⟨rfl, (((Below.refl _ _).alloc (Nat.le_refl _) _).alloc (by simp) _).alloc (by simp; omega) _⟩

set_option maxHeartbeats 400000 in
theorem eqHseLine_same (f0 : Int) (f1 : Int) (f2 : Int) (f3 : Int) (w : World) :
    Calls Try.prog 12 #[.agg #[.int .i64 f0, .int .i64 f1, .int .i64 f2, .int .i64 f3], .agg #[.int .i64 f0, .int .i64 f1, .int .i64 f2, .int .i64 f3]] w fun e w' => e = .returned (.bool true) ∧ Below w.heap.size w w' := by
  go_enter Try.func12, Try.ntmps12
  go_wp2
  go_ret
  exact ⟨rfl, ((Below.refl _ _).alloc (Nat.le_refl _) _).alloc (by simp) _⟩

theorem szH_none (L : List LN) : szH L = 0 := by
  unfold szH
  induction L with
  | nil => rfl
  | cons x l ih => rw [List.map_cons, List.sum_cons, ih]; simp
set_option maxHeartbeats 1000000 in
theorem szHS_any (A : Option Addr) (c : Nat) (L : List LN) (w : World) (_hL : RdH w.heap.size w A L) (hn : L.length ≤ maxLen) (_ht : ∀ j (_h : j < L.length), True) :
    Calls Try.prog 4 #[.slice A L.length c, .int .i64 1048576] w fun e w' => (∃ r : Int, e = .returned (.int .i64 r) ∧ (r < 0 ∨ (¬ r < 0 ∧ L.length + szH L ≤ 1048576))) ∧ Below w.heap.size w w' := by
  rw [szH_none]
  unfold maxLen at hn
  clear _ht _hL
  by_cases h0 : 1048576 < L.length
  · go_enter Try.func4, Try.ntmps4
    go_wp2
    go_ret
    exact ⟨⟨_, rfl, Or.inl (by decide)⟩, Below.refl _ _⟩
  · go_enter Try.func4, Try.ntmps4
    go_wp2
    go_ret
    exact ⟨⟨_, rfl, Or.inr ⟨by omega, by omega⟩⟩, Below.refl _ _⟩

theorem infoH : (Try.prog.info? 31).map (fun i => (i.zero, i.size, i.bytes)) = some (some (.agg #[.int .i64 0, .int .i64 0, .int .i64 0, .int .i64 0]), 4, 32) := by kernel_rfl
def laidH (L : List LN) (j : Nat) : List Value := cellsH (L.take j) ++ (List.replicate (L.length - j) [Value.int .i64 0, .int .i64 0, .int .i64 0, .int .i64 0]).flatten
theorem laidH_zero (L : List LN) : laidH L 0 = (madeCells #[.int .i64 0, .int .i64 0, .int .i64 0, .int .i64 0] (L.length * 4)).toList := by
  rw [made_flat _ _ 4 rfl (by decide)]; simp [laidH, cellsH]
theorem laidH_all (L : List LN) : laidH L L.length = cellsH L := by simp [laidH]
theorem laidH_step (L : List LN) (j : Nat) (h : j < L.length) : (((((laidH L j).set (j * 4) (.int .i64 (L[j]).user)).set (j * 4 + 1) (.int .i64 (L[j]).repo)).set (j * 4 + 2) (.int .i64 (L[j]).kind)).set (j * 4 + 3) (.int .i64 (L[j]).code)) = laidH L (j + 1) := by
  unfold laidH
  have hl : (cellsH (L.take j)).length = j * 4 := by rw [cellsH_length]; simp; omega
  obtain ⟨m, hm⟩ : ∃ m, L.length - j = m + 1 := ⟨L.length - j - 1, by omega⟩
  have hm' : L.length - (j + 1) = m := by omega
  rw [hm, hm', List.replicate_succ, List.flatten_cons, List.take_succ_eq_append_getElem h, cellsH_snoc]
  rw [List.set_append_right _ _ (by omega), hl, show j * 4 - j * 4 = 0 by omega]
  simp only [List.cons_append, List.nil_append, List.set_cons_zero]
  rw [List.set_append_right _ _ (by omega), hl, show j * 4 + 1 - j * 4 = 1 by omega]
  simp only [List.set_cons_zero, List.set_cons_succ]
  rw [List.set_append_right _ _ (by omega), hl, show j * 4 + 2 - j * 4 = 2 by omega]
  simp only [List.set_cons_zero, List.set_cons_succ]
  rw [List.set_append_right _ _ (by omega), hl, show j * 4 + 3 - j * 4 = 3 by omega]
  simp only [List.set_cons_zero, List.set_cons_succ]
  simp

set_option maxHeartbeats 1000000 in
theorem toHS_any (A : Option Addr) (c : Nat) (L : List LN) (w : World) (hL : RdH w.heap.size w A L) (hn : L.length ≤ 1048576) :
    Calls Try.prog 6 #[.slice A L.length c] w fun e w' => (∃ v, e = .returned v ∧ w'.ownsRow w.heap.size 31 4 v L.length (cellsH L)) ∧ Below w.heap.size w w' := by
  have HL : Hid (RdH w.heap.size w A L) := hL
  clear hL
  obtain ⟨i0, hi, hz0, hz1, hz2⟩ := info_parts infoH
  go_enter Try.func6, Try.ntmps6
  go_wp2_with (at_make; refine wpList_make_full _ rfl _ _ 24 rfl w.heap.size 31 i0 (.agg #[.int .i64 0, .int .i64 0, .int .i64 0, .int .i64 0]) 4 Try.underlying24 hi hz0 hz1 _ _ _ _ L.length rfl rfl rfl rfl (by rw [hz2]; omega) (by unfold maxLen; omega) (Nat.le_refl _) ?_)
  intro w1 hown hgr
  have hb0 : Below w.heap.size w w1 := (Below.refl _ _).grown hgr (Nat.le_refl _) (fun k h => by cases h)
  rw [← laidH_zero] at hown
  go_wp2
  go_loopw [4] (fun iv wr => ∃ j : Nat, j ≤ L.length ∧ iv = .int .i64 j ∧ wr.ownsRow w.heap.size 31 4 (.slice (some ⟨w.heap.size, 0, none⟩) L.length L.length) L.length (laidH L j) ∧ Below w.heap.size w wr) (fun i _ => L.length - (intOf i).toNat)
  case atStart => exact ⟨0, Nat.zero_le _, rfl, hown, hb0⟩
  case round =>
    obtain ⟨j, hj, rfl, hrow, hb⟩ := hrel
    have hsz := hb.size
    by_cases hlt : j < L.length
    · obtain ⟨b, o, rfl, hbl, c1, c2, c3, c4⟩ := (HL.out.below hb (Nat.le_refl _)) j hlt
      have est := laidH_step L j hlt
      generalize (L[j]).user = f0 at *
      generalize (L[j]).repo = f1 at *
      generalize (L[j]).kind = f2 at *
      generalize (L[j]).code = f3 at *
      have HE : Hid ((((((laidH L j).set (j * 4) (.int .i64 f0)).set (j * 4 + 1) (.int .i64 f1)).set (j * 4 + 2) (.int .i64 f2)).set (j * 4 + 3) (.int .i64 f3)) = laidH L (j + 1)) := est
      clear est
      go_wp2_with (go_at_call 11; refine (toHseLine_any f0 f1 f2 f3 _).mono ?_; rintro e w2 ⟨rfl, hb1⟩; have hrow2 := ownsUnder hrow hb1 (Nat.le_refl _); obtain ⟨u0, hu0⟩ := ownsCell hrow2 (j * 4) (by omega); have hf0 := hrow2.frozenAt (j * 4); obtain ⟨u1, hu1⟩ := ownsCell hrow2 (j * 4 + 1) (by omega); have hf1 := hrow2.frozenAt (j * 4 + 1); obtain ⟨u2, hu2⟩ := ownsCell hrow2 (j * 4 + 2) (by omega); have hf2 := hrow2.frozenAt (j * 4 + 2); obtain ⟨u3, hu3⟩ := ownsCell hrow2 (j * 4 + 3) (by omega); have hf3 := hrow2.frozenAt (j * 4 + 3))
      go_roundw
      case rel =>
        have hst := ((((hrow2.stored (j * 4) (.int .i64 f0)).1.stored (j * 4 + 1) (.int .i64 f1)).1.stored (j * 4 + 2) (.int .i64 f2)).1.stored (j * 4 + 3) (.int .i64 f3)).1
        rw [HE.out] at hst
        exact ⟨j + 1, by omega, by go_num, hst, (((((hb.trans (hb1.mono (by omega))).setCell (p := ⟨w.heap.size, j * 4, none⟩) (Nat.le_refl _) _).setCell (p := ⟨w.heap.size, j * 4 + 1, none⟩) (Nat.le_refl _) _).setCell (p := ⟨w.heap.size, j * 4 + 2, none⟩) (Nat.le_refl _) _).setCell (p := ⟨w.heap.size, j * 4 + 3, none⟩) (Nat.le_refl _) _)⟩
      case measure => simp [intOf]; omega
    · go_wp2
      go_ret
      obtain rfl : j = L.length := by omega
      rw [laidH_all] at hrow
      exact ⟨⟨_, rfl, hrow⟩, hb⟩

set_option maxHeartbeats 1000000 in
theorem eqHS_same (A A' : Option Addr) (c c' : Nat) (L : List LN) (w : World) (h1 : RdH w.heap.size w A L) (h2 : RdH w.heap.size w A' L) (hn : L.length ≤ maxLen) :
    Calls Try.prog 8 #[.slice A L.length c, .slice A' L.length c'] w fun e w' => e = .returned (.bool true) ∧ Below w.heap.size w w' := by
  unfold maxLen at hn
  have H1 : Hid (RdH w.heap.size w A L) := h1
  have H2 : Hid (RdH w.heap.size w A' L) := h2
  clear h1 h2
  go_enter Try.func8, Try.ntmps8
  go_wp2
  go_loopw [5] (fun iv wr => ∃ j : Nat, j ≤ L.length ∧ iv = .int .i64 j ∧ Below w.heap.size w wr) (fun i _ => L.length - (intOf i).toNat)
  case atStart => exact ⟨0, Nat.zero_le _, rfl, Below.refl _ _⟩
  case round =>
    obtain ⟨j, hj, rfl, hb⟩ := hrel
    have hsz := hb.size
    by_cases hlt : j < L.length
    · obtain ⟨b, o, rfl, hbl, c1, c2, c3, c4⟩ := (H1.out.below hb (Nat.le_refl _)) j hlt
      obtain ⟨b', o', rfl, hbl', d1, d2, d3, d4⟩ := (H2.out.below hb (Nat.le_refl _)) j hlt
      generalize (L[j]).user = f0 at *
      generalize (L[j]).repo = f1 at *
      generalize (L[j]).kind = f2 at *
      generalize (L[j]).code = f3 at *
      go_wp2
      go_region_with (go_at_call 12; refine (eqHseLine_same f0 f1 f2 f3 _).mono ?_; rintro e w1 ⟨rfl, hb1⟩; have hb2 : Below w.heap.size w w1 := hb.drew.trans (hb1.mono (by simp; omega)))
      all_goals
        go_wp2
        go_roundw
        case rel => exact ⟨j + 1, by omega, by go_num, by first | exact hb2 | exact hb2.drew⟩
        case measure => simp [intOf]; omega
    · go_wp2
      go_ret
      exact ⟨rfl, hb⟩
theorem eqH_own {b b' : Nat} {e e' : TypeId} (v v' : Value) (L : List LN) (w : World) (h1 : w.ownsRow b e 4 v L.length (cellsH L)) (h2 : w.ownsRow b' e' 4 v' L.length (cellsH L)) (hn : L.length ≤ 1048576) :
    Calls Try.prog 8 #[v, v'] w fun e w' => e = .returned (.bool true) ∧ Below w.heap.size w w' := by
  obtain ⟨A, c, rfl, r1⟩ := rdH_of_own h1
  obtain ⟨A', c', rfl, r2⟩ := rdH_of_own h2
  exact eqHS_same A A' c c' L w r1 r2 (by unfold maxLen; omega)
end Go.Proofs.Ytcaimlbibhaigaa.W
