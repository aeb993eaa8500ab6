
/-
  Rows of MdlRepo without rules and refs: what a slice reads as; the walks of the exact laws' own helpers 'eq', 'mark' and 'held'. Rows of at most 1048576. (Written by genrepo.py.)
-/
import Derived.Test.YtknbmgdfcejlkaaWalkNil
import Derived.Test.YtknbmgdfcejlkaaWalkInts
import Derived.Test.YtknbmgdfcejlkaaMathRow
import Derived.Test.YtknbmgdfcejlkaaMathExt
namespace Go.Proofs.Ytknbmgdfcejlkaa.W
open Go.RowKit

def cellsM (L : List Int) : List Value := L.flatMap fun x => [.int .i64 x, .slice none 0 0, .slice none 0 0]
theorem cellsM_cons (x : Int) (l : List Int) : cellsM (x :: l) = .int .i64 x :: .slice none 0 0 :: .slice none 0 0 :: cellsM l := by simp [cellsM]
theorem cellsM_length (L : List Int) : (cellsM L).length = L.length * 3 := by
  induction L with
  | nil => rfl
  | cons x l ih => rw [cellsM_cons]; simp; omega
theorem cellsM_snoc (L : List Int) (x : Int) : cellsM (L ++ [x]) = cellsM L ++ [.int .i64 x, .slice none 0 0, .slice none 0 0] := by simp [cellsM]
theorem cellsM_get (L : List Int) (j : Nat) (h : j < L.length) : (cellsM L)[j * 3]? = some (.int .i64 L[j]) ∧ (cellsM L)[j * 3 + 1]? = some (.slice none 0 0) ∧ (cellsM L)[j * 3 + 2]? = some (.slice none 0 0) := by
  induction L generalizing j with
  | nil => simp at h
  | cons x l ih =>
    rw [cellsM_cons]
    cases j with
    | zero => simp
    | succ j =>
      have := ih j (by simpa using h)
      rw [show (j + 1) * 3 = j * 3 + 1 + 1 + 1 by omega]
      simpa using this
theorem cellsM_set (L : List Int) (j : Nat) (x : Int) : (cellsM L).set (j * 3) (.int .i64 x) = cellsM (L.set j x) := by
  induction L generalizing j with
  | nil => simp [cellsM]
  | cons y l ih =>
    cases j with
    | zero => rw [List.set_cons_zero, cellsM_cons, cellsM_cons]; rfl
    | succ j =>
      rw [List.set_cons_succ, cellsM_cons, cellsM_cons, ← ih j, show (j + 1) * 3 = j * 3 + 1 + 1 + 1 by omega]
      simp
def RdM (B : Nat) (w : World) (A : Option Addr) (L : List Int) : Prop :=
  ∀ j (h : j < L.length), ∃ b o, A = some ⟨b, o, none⟩ ∧ b < B ∧ w.cell? ⟨b, o + j * 3, none⟩ = some (.int .i64 L[j]) ∧ w.cell? ⟨b, o + j * 3 + 1, none⟩ = some (.slice none 0 0) ∧ w.cell? ⟨b, o + j * 3 + 2, none⟩ = some (.slice none 0 0)
theorem RdM.below {B B' : Nat} {w w' : World} {A : Option Addr} {L : List Int} (h : RdM B w A L) (hb : Below B' w w') (hB : B ≤ B') : RdM B w' A L := fun j hj => by
  obtain ⟨b, o, e, hl, c1, c2, c3⟩ := h j hj
  exact ⟨b, o, e, hl, (hb.cell (p := ⟨b, _, none⟩) (by show b < B'; omega)).trans c1, (hb.cell (p := ⟨b, _, none⟩) (by show b < B'; omega)).trans c2, (hb.cell (p := ⟨b, _, none⟩) (by show b < B'; omega)).trans c3⟩
theorem rdM_of_own {w : World} {base : Nat} {e : TypeId} {v : Value} {L : List Int} (h : w.ownsRow base e 3 v L.length (cellsM L)) : ∃ A c, v = .slice A L.length c ∧ RdM w.heap.size w A L := by
  have hl := h.lt
  rcases h.2 with ⟨rfl, hn⟩ | ⟨g, cap, cur, rfl, _⟩
  · exact ⟨none, 0, by rw [hn], fun j hj => by omega⟩
  · refine ⟨some ⟨g, 0, none⟩, cap, rfl, fun j hj => ⟨g, 0, rfl, (hl g rfl).2, ?_, ?_, ?_⟩⟩
    · rw [Nat.zero_add, h.cellAt (j * 3) (by omega)]; exact (cellsM_get L j hj).1
    · rw [Nat.zero_add, h.cellAt (j * 3 + 1) (by omega)]; exact (cellsM_get L j hj).2.1
    · rw [Nat.zero_add, h.cellAt (j * 3 + 2) (by omega)]; exact (cellsM_get L j hj).2.2
theorem infoM : (Try.prog.info? 45).map (fun i => (i.zero, i.size, i.bytes)) = some (some (.agg #[.int .i64 0, .slice none 0 0, .slice none 0 0]), 3, 56) := by kernel_rfl
set_option maxHeartbeats 400000 in
theorem eqMdlRepo_same (x : Int) (w : World) :
    Calls Try.prog 39 #[.agg #[.int .i64 x, .slice none 0 0, .slice none 0 0], .agg #[.int .i64 x, .slice none 0 0, .slice none 0 0]] w fun e w' => e = .returned (.bool true) ∧ Below w.heap.size w w' := by
  go_enter Try.func39, Try.ntmps39
  go_wp2_with (first
    | (go_at_call 58; refine (eqNil_RulRuleS _).mono ?_; rintro e w1 ⟨rfl, rfl⟩)
    | (go_at_call 59; refine (eqNil_MdlRefS _).mono ?_; rintro e w1 ⟨rfl, rfl⟩))
  go_ret
  exact ⟨rfl, ((Below.refl _ _).alloc (Nat.le_refl _) _).alloc (by simp) _⟩
set_option maxHeartbeats 1000000 in
theorem eqMS_same (A A' : Option Addr) (c c' : Nat) (L : List Int) (w : World) (h1 : RdM w.heap.size w A L) (h2 : RdM w.heap.size w A' L) (hn : L.length ≤ maxLen) :
    Calls Try.prog 21 #[.slice A L.length c, .slice A' L.length c'] w fun e w' => e = .returned (.bool true) ∧ Below w.heap.size w w' := by
  unfold maxLen at hn
  have H1 : Hid (RdM w.heap.size w A L) := h1
  have H2 : Hid (RdM w.heap.size w A' L) := h2
  clear h1 h2
  go_enter Try.func21, Try.ntmps21
  go_wp2
  go_loopw [5] (fun iv wr => ∃ j : Nat, j ≤ L.length ∧ iv = .int .i64 j ∧ Below w.heap.size w wr) (fun i _ => L.length - (intOf i).toNat)
  case atStart => exact ⟨0, Nat.zero_le _, rfl, Below.refl _ _⟩
  case round =>
    obtain ⟨j, hj, rfl, hb⟩ := hrel
    have hsz := hb.size
    by_cases hlt : j < L.length
    · obtain ⟨b, o, rfl, hbl, c1, c2, c3⟩ := (H1.out.below hb (Nat.le_refl _)) j hlt
      obtain ⟨b', o', rfl, hbl', d1, d2, d3⟩ := (H2.out.below hb (Nat.le_refl _)) j hlt
      generalize L[j] = x at *
      go_wp2
      go_region_with (go_at_call 39; refine (eqMdlRepo_same x _).mono ?_; rintro e w1 ⟨rfl, hb1⟩; have hb2 : Below w.heap.size w w1 := hb.drew.trans (hb1.mono (by simp; omega)))
      all_goals
        go_wp2
        go_roundw
        case rel => exact ⟨j + 1, by omega, by go_num, by first | exact hb2 | exact hb2.drew⟩
        case measure => simp [intOf]; omega
    · go_wp2
      go_ret
      exact ⟨rfl, hb⟩
theorem eqM_own {b b' : Nat} {e e' : TypeId} (v v' : Value) (L : List Int) (w : World) (h1 : w.ownsRow b e 3 v L.length (cellsM L)) (h2 : w.ownsRow b' e' 3 v' L.length (cellsM L)) (hn : L.length ≤ 1048576) :
    Calls Try.prog 21 #[v, v'] w fun e w' => e = .returned (.bool true) ∧ Below w.heap.size w w' := by
  obtain ⟨A, c, rfl, r1⟩ := rdM_of_own h1
  obtain ⟨A', c', rfl, r2⟩ := rdM_of_own h2
  exact eqMS_same A A' c c' L w r1 r2 (by unfold maxLen; omega)
set_option maxHeartbeats 1000000 in
theorem markMS_any (base g cap k : Nat) (L : List Int) (w : World) (hown : w.ownsRow base 45 3 (.slice (some ⟨g, 0, none⟩) L.length cap) L.length (cellsM L)) (h2 : k + L.length ≤ 10000000) :
    Calls Try.prog 22 #[.slice (some ⟨g, 0, none⟩) L.length cap, .int .i64 k] w fun e w' => e = .returned (.int .i64 ((k + L.length : Nat) : Int)) ∧ w'.ownsRow base 45 3 (.slice (some ⟨g, 0, none⟩) L.length cap) L.length (cellsM (mkI k L.length)) ∧ w.grownBy w' (some g) := by
  go_enter Try.func22, Try.ntmps22
  go_wp2
  go_loopw [1, 5] (fun kk i wr => ∃ j : Nat, j ≤ L.length ∧ i = .int .i64 j ∧ kk = .int .i64 ((k + j : Nat) : Int) ∧ wr.ownsRow base 45 3 (.slice (some ⟨g, 0, none⟩) L.length cap) L.length (cellsM (markedI L k j)) ∧ w.grownBy wr (some g)) (fun _ i _ => L.length - (intOf i).toNat)
  case atStart => exact ⟨0, Nat.zero_le _, rfl, rfl, by rw [markedI_zero]; exact hown, World.grownBy.refl _ _⟩
  case round =>
    obtain ⟨j, hj, rfl, rfl, hrow, hb⟩ := hrel
    by_cases hlt : j < L.length
    · have hlm : (markedI L k j).length = L.length := by simp [markedI, mkI_length]; omega
      have hu1 : wr.cell? ⟨g, j * 3, none⟩ = some (.int .i64 ((markedI L k j)[j]'(by omega))) := by
        rw [hrow.cellAt (j * 3) (by omega)]; exact (cellsM_get (markedI L k j) j (by omega)).1
      have hu2 : wr.cell? ⟨g, j * 3 + 1, none⟩ = some (.slice none 0 0) := by
        rw [hrow.cellAt (j * 3 + 1) (by omega)]; exact (cellsM_get (markedI L k j) j (by omega)).2.1
      have hu3 : wr.cell? ⟨g, j * 3 + 2, none⟩ = some (.slice none 0 0) := by
        rw [hrow.cellAt (j * 3 + 2) (by omega)]; exact (cellsM_get (markedI L k j) j (by omega)).2.2
      generalize (markedI L k j)[j]'(by omega) = z at hu1
      have hf1 := hrow.frozenAt (j * 3)
      have hst := (hrow.stored (j * 3) (.int .i64 ((k + j : Nat) : Int))).1
      rw [cellsM_set, markedI_step L k j hlt] at hst
      have HR : Hid ((wr.setCell ⟨g, j * 3, none⟩ (.int .i64 ((k + j : Nat) : Int))).ownsRow base 45 3 (.slice (some ⟨g, 0, none⟩) L.length cap) L.length (cellsM (markedI L k (j + 1)))) := hst
      have HB : Hid (w.grownBy (wr.setCell ⟨g, j * 3, none⟩ (.int .i64 ((k + j : Nat) : Int))) (some g)) := grownBy_trans hb (grownBy_set wr g (j * 3) _)
      clear hrow hb hst hlm
      go_wp2_with (first
        | (go_at_call 40; refine (markNil_RulRuleS _ _).mono ?_; rintro e w1 ⟨rfl, rfl⟩)
        | (go_at_call 41; refine (markNil_MdlRefS _ _).mono ?_; rintro e w1 ⟨rfl, rfl⟩))
      go_roundw
      case rel => exact ⟨j + 1, by omega, by go_num, by go_num, HR.out, HB.out⟩
      case measure => simp [intOf]; omega
    · go_wp2
      go_ret
      obtain rfl : j = L.length := by omega
      rw [markedI_all] at hrow
      exact ⟨rfl, hrow, hb⟩
theorem markM_own {b : Nat} (v : Value) (k : Nat) (L : List Int) (w : World) (h : w.ownsRow b 45 3 v L.length (cellsM L)) (h2 : k + L.length ≤ 10000000) :
    Calls Try.prog 22 #[v, .int .i64 k] w fun e w' => e = .returned (.int .i64 ((k + L.length : Nat) : Int)) ∧ w'.ownsRow b 45 3 v L.length (cellsM (mkI k L.length)) ∧ w.grownBy w' v.ownBlock := by
  rcases h.2 with ⟨rfl, hn0⟩ | ⟨g, cap, cur, rfl, _⟩
  · refine (markNil_MdlRepoS k w).mono ?_
    rintro e w' ⟨rfl, rfl⟩
    rw [hn0]
    exact ⟨rfl, World.ownsRow_nil _ _ _ _, World.grownBy.refl _ _⟩
  · refine (markMS_any b g cap k L w h h2).mono ?_
    rintro e w' ⟨rfl, h3, h4⟩
    exact ⟨rfl, h3, h4⟩
set_option maxHeartbeats 1000000 in
theorem heldMS_any (A : Option Addr) (c k n : Nat) (w : World) (hR : RdM w.heap.size w A (mkI k n)) (h2 : k + n ≤ 10000000) :
    Calls Try.prog 24 #[.slice A n c, .int .i64 k] w fun e w' => e = .returned (.int .i64 ((k + n : Nat) : Int)) ∧ Below w.heap.size w w' := by
  have HR : Hid (RdM w.heap.size w A (mkI k n)) := hR
  clear hR
  go_enter Try.func24, Try.ntmps24
  go_wp2
  go_loopw [1, 5] (fun kk i wr => ∃ j : Nat, j ≤ n ∧ i = .int .i64 j ∧ kk = .int .i64 ((k + j : Nat) : Int) ∧ Below w.heap.size w wr) (fun _ i _ => n - (intOf i).toNat)
  case atStart => exact ⟨0, Nat.zero_le _, rfl, rfl, Below.refl _ _⟩
  case round =>
    obtain ⟨j, hj, rfl, rfl, hb⟩ := hrel
    have hsz := hb.size
    by_cases hlt : j < n
    · obtain ⟨b, o, rfl, hbl, c1, c2, c3⟩ := (HR.out.below hb (Nat.le_refl _)) j (by rw [mkI_length]; exact hlt)
      rw [mkI_get] at c1
      go_wp2_with (first
        | (go_at_call 42; refine (heldNil_RulRuleS _ _).mono ?_; rintro e w1 ⟨rfl, rfl⟩)
        | (go_at_call 43; refine (heldNil_MdlRefS _ _).mono ?_; rintro e w1 ⟨rfl, rfl⟩))
      go_roundw
      case rel => exact ⟨j + 1, by omega, by go_num, by go_num, hb⟩
      case measure => simp [intOf]; omega
    · go_wp2
      go_ret
      obtain rfl : j = n := by omega
      exact ⟨rfl, hb⟩
theorem heldM_own {b : Nat} {e : TypeId} (v : Value) (k n : Nat) (w : World) (h : w.ownsRow b e 3 v n (cellsM (mkI k n))) (h2 : k + n ≤ 10000000) :
    Calls Try.prog 24 #[v, .int .i64 k] w fun e w' => e = .returned (.int .i64 ((k + n : Nat) : Int)) ∧ Below w.heap.size w w' := by
  have h' : w.ownsRow b e 3 v (mkI k n).length (cellsM (mkI k n)) := by rw [mkI_length]; exact h
  obtain ⟨A, c, rfl, r1⟩ := rdM_of_own h'
  rw [mkI_length]
  exact heldMS_any A c k n w r1 h2
end Go.Proofs.Ytknbmgdfcejlkaa.W
