
/-
  Rows of HseRepo without rules and refs: what a slice reads as; the walks of the exact laws' own helpers 'eq', 'mark' and 'held'. Rows of at most 1048576. (Written by genrepo.py.)
-/
import Derived.Test.YtknbmgdfcejlkaaWalkNil
import Derived.Test.YtknbmgdfcejlkaaWalkInts
import Derived.Test.YtknbmgdfcejlkaaMathRow
import Derived.Test.YtknbmgdfcejlkaaMathExt
namespace Go.Proofs.Ytknbmgdfcejlkaa.W
open Go.RowKit

def cellsK (L : List Int) : List Value := L.flatMap fun x => [.int .i64 x, .slice none 0 0, .slice none 0 0]
theorem cellsK_cons (x : Int) (l : List Int) : cellsK (x :: l) = .int .i64 x :: .slice none 0 0 :: .slice none 0 0 :: cellsK l := by simp [cellsK]
theorem cellsK_length (L : List Int) : (cellsK L).length = L.length * 3 := by
  induction L with
  | nil => rfl
  | cons x l ih => rw [cellsK_cons]; simp; omega
theorem cellsK_snoc (L : List Int) (x : Int) : cellsK (L ++ [x]) = cellsK L ++ [.int .i64 x, .slice none 0 0, .slice none 0 0] := by simp [cellsK]
theorem cellsK_get (L : List Int) (j : Nat) (h : j < L.length) : (cellsK L)[j * 3]? = some (.int .i64 L[j]) ∧ (cellsK L)[j * 3 + 1]? = some (.slice none 0 0) ∧ (cellsK L)[j * 3 + 2]? = some (.slice none 0 0) := by
  induction L generalizing j with
  | nil => simp at h
  | cons x l ih =>
    rw [cellsK_cons]
    cases j with
    | zero => simp
    | succ j =>
      have := ih j (by simpa using h)
      rw [show (j + 1) * 3 = j * 3 + 1 + 1 + 1 by omega]
      simpa using this
theorem cellsK_set (L : List Int) (j : Nat) (x : Int) : (cellsK L).set (j * 3) (.int .i64 x) = cellsK (L.set j x) := by
  induction L generalizing j with
  | nil => simp [cellsK]
  | cons y l ih =>
    cases j with
    | zero => rw [List.set_cons_zero, cellsK_cons, cellsK_cons]; rfl
    | succ j =>
      rw [List.set_cons_succ, cellsK_cons, cellsK_cons, ← ih j, show (j + 1) * 3 = j * 3 + 1 + 1 + 1 by omega]
      simp
def RdK (B : Nat) (w : World) (A : Option Addr) (L : List Int) : Prop :=
  ∀ j (h : j < L.length), ∃ b o, A = some ⟨b, o, none⟩ ∧ b < B ∧ w.cell? ⟨b, o + j * 3, none⟩ = some (.int .i64 L[j]) ∧ w.cell? ⟨b, o + j * 3 + 1, none⟩ = some (.slice none 0 0) ∧ w.cell? ⟨b, o + j * 3 + 2, none⟩ = some (.slice none 0 0)
theorem RdK.below {B B' : Nat} {w w' : World} {A : Option Addr} {L : List Int} (h : RdK B w A L) (hb : Below B' w w') (hB : B ≤ B') : RdK B w' A L := fun j hj => by
  obtain ⟨b, o, e, hl, c1, c2, c3⟩ := h j hj
  exact ⟨b, o, e, hl, (hb.cell (p := ⟨b, _, none⟩) (by show b < B'; omega)).trans c1, (hb.cell (p := ⟨b, _, none⟩) (by show b < B'; omega)).trans c2, (hb.cell (p := ⟨b, _, none⟩) (by show b < B'; omega)).trans c3⟩
theorem rdK_of_own {w : World} {base : Nat} {e : TypeId} {v : Value} {L : List Int} (h : w.ownsRow base e 3 v L.length (cellsK L)) : ∃ A c, v = .slice A L.length c ∧ RdK w.heap.size w A L := by
  have hl := h.lt
  rcases h.2 with ⟨rfl, hn⟩ | ⟨g, cap, cur, rfl, _⟩
  · exact ⟨none, 0, by rw [hn], fun j hj => by omega⟩
  · refine ⟨some ⟨g, 0, none⟩, cap, rfl, fun j hj => ⟨g, 0, rfl, (hl g rfl).2, ?_, ?_, ?_⟩⟩
    · rw [Nat.zero_add, h.cellAt (j * 3) (by omega)]; exact (cellsK_get L j hj).1
    · rw [Nat.zero_add, h.cellAt (j * 3 + 1) (by omega)]; exact (cellsK_get L j hj).2.1
    · rw [Nat.zero_add, h.cellAt (j * 3 + 2) (by omega)]; exact (cellsK_get L j hj).2.2
theorem infoK : (Try.prog.info? 51).map (fun i => (i.zero, i.size, i.bytes)) = some (some (.agg #[.int .i64 0, .slice none 0 0, .slice none 0 0]), 3, 56) := by kernel_rfl
set_option maxHeartbeats 400000 in
theorem eqHseRepo_same (x : Int) (w : World) :
    Calls Try.prog 44 #[.agg #[.int .i64 x, .slice none 0 0, .slice none 0 0], .agg #[.int .i64 x, .slice none 0 0, .slice none 0 0]] w fun e w' => e = .returned (.bool true) ∧ Below w.heap.size w w' := by
  go_enter Try.func44, Try.ntmps44
  go_wp2_with (first
    | (go_at_call 58; refine (eqNil_RulRuleS _).mono ?_; rintro e w1 ⟨rfl, rfl⟩)
    | (go_at_call 62; refine (eqNil_HseRefS _).mono ?_; rintro e w1 ⟨rfl, rfl⟩))
  go_ret
  exact ⟨rfl, ((Below.refl _ _).alloc (Nat.le_refl _) _).alloc (by simp) _⟩
set_option maxHeartbeats 1000000 in
theorem eqKS_same (A A' : Option Addr) (c c' : Nat) (L : List Int) (w : World) (h1 : RdK w.heap.size w A L) (h2 : RdK w.heap.size w A' L) (hn : L.length ≤ maxLen) :
    Calls Try.prog 25 #[.slice A L.length c, .slice A' L.length c'] w fun e w' => e = .returned (.bool true) ∧ Below w.heap.size w w' := by
  unfold maxLen at hn
  have H1 : Hid (RdK w.heap.size w A L) := h1
  have H2 : Hid (RdK w.heap.size w A' L) := h2
  clear h1 h2
  go_enter Try.func25, Try.ntmps25
  go_wp2
  go_loopw [5] (fun iv wr => ∃ j : Nat, j ≤ L.length ∧ iv = .int .i64 j ∧ Below w.heap.size w wr) (fun i _ => L.length - (intOf i).toNat)
  case atStart => exact ⟨0, Nat.zero_le _, rfl, Below.refl _ _⟩
  case round =>
    obtain ⟨j, hj, rfl, hb⟩ := hrel
    have hsz := hb.size
    by_cases hlt : j < L.length
    · obtain ⟨b, o, rfl, hbl, c1, c2, c3⟩ := (H1.out.below hb (Nat.le_refl _)) j hlt
      obtain ⟨b', o', rfl, hbl', d1, d2, d3⟩ := (H2.out.below hb (Nat.le_refl _)) j hlt
      generalize L[j] = x at *
      go_wp2
      go_region_with (go_at_call 44; refine (eqHseRepo_same x _).mono ?_; rintro e w1 ⟨rfl, hb1⟩; have hb2 : Below w.heap.size w w1 := hb.drew.trans (hb1.mono (by simp; omega)))
      all_goals
        go_wp2
        go_roundw
        case rel => exact ⟨j + 1, by omega, by go_num, by first | exact hb2 | exact hb2.drew⟩
        case measure => simp [intOf]; omega
    · go_wp2
      go_ret
      exact ⟨rfl, hb⟩
theorem eqK_own {b b' : Nat} {e e' : TypeId} (v v' : Value) (L : List Int) (w : World) (h1 : w.ownsRow b e 3 v L.length (cellsK L)) (h2 : w.ownsRow b' e' 3 v' L.length (cellsK L)) (hn : L.length ≤ 1048576) :
    Calls Try.prog 25 #[v, v'] w fun e w' => e = .returned (.bool true) ∧ Below w.heap.size w w' := by
  obtain ⟨A, c, rfl, r1⟩ := rdK_of_own h1
  obtain ⟨A', c', rfl, r2⟩ := rdK_of_own h2
  exact eqKS_same A A' c c' L w r1 r2 (by unfold maxLen; omega)
set_option maxHeartbeats 1000000 in
theorem markKS_any (base g cap k : Nat) (L : List Int) (w : World) (hown : w.ownsRow base 51 3 (.slice (some ⟨g, 0, none⟩) L.length cap) L.length (cellsK L)) (h2 : k + L.length ≤ 10000000) :
    Calls Try.prog 29 #[.slice (some ⟨g, 0, none⟩) L.length cap, .int .i64 k] w fun e w' => e = .returned (.int .i64 ((k + L.length : Nat) : Int)) ∧ w'.ownsRow base 51 3 (.slice (some ⟨g, 0, none⟩) L.length cap) L.length (cellsK (mkI k L.length)) ∧ w.grownBy w' (some g) := by
  go_enter Try.func29, Try.ntmps29
  go_wp2
  go_loopw [1, 5] (fun kk i wr => ∃ j : Nat, j ≤ L.length ∧ i = .int .i64 j ∧ kk = .int .i64 ((k + j : Nat) : Int) ∧ wr.ownsRow base 51 3 (.slice (some ⟨g, 0, none⟩) L.length cap) L.length (cellsK (markedI L k j)) ∧ w.grownBy wr (some g)) (fun _ i _ => L.length - (intOf i).toNat)
  case atStart => exact ⟨0, Nat.zero_le _, rfl, rfl, by rw [markedI_zero]; exact hown, World.grownBy.refl _ _⟩
  case round =>
    obtain ⟨j, hj, rfl, rfl, hrow, hb⟩ := hrel
    by_cases hlt : j < L.length
    · have hlm : (markedI L k j).length = L.length := by simp [markedI, mkI_length]; omega
      have hu1 : wr.cell? ⟨g, j * 3, none⟩ = some (.int .i64 ((markedI L k j)[j]'(by omega))) := by
        rw [hrow.cellAt (j * 3) (by omega)]; exact (cellsK_get (markedI L k j) j (by omega)).1
      have hu2 : wr.cell? ⟨g, j * 3 + 1, none⟩ = some (.slice none 0 0) := by
        rw [hrow.cellAt (j * 3 + 1) (by omega)]; exact (cellsK_get (markedI L k j) j (by omega)).2.1
      have hu3 : wr.cell? ⟨g, j * 3 + 2, none⟩ = some (.slice none 0 0) := by
        rw [hrow.cellAt (j * 3 + 2) (by omega)]; exact (cellsK_get (markedI L k j) j (by omega)).2.2
      generalize (markedI L k j)[j]'(by omega) = z at hu1
      have hf1 := hrow.frozenAt (j * 3)
      have hst := (hrow.stored (j * 3) (.int .i64 ((k + j : Nat) : Int))).1
      rw [cellsK_set, markedI_step L k j hlt] at hst
      have HR : Hid ((wr.setCell ⟨g, j * 3, none⟩ (.int .i64 ((k + j : Nat) : Int))).ownsRow base 51 3 (.slice (some ⟨g, 0, none⟩) L.length cap) L.length (cellsK (markedI L k (j + 1)))) := hst
      have HB : Hid (w.grownBy (wr.setCell ⟨g, j * 3, none⟩ (.int .i64 ((k + j : Nat) : Int))) (some g)) := grownBy_trans hb (grownBy_set wr g (j * 3) _)
      clear hrow hb hst hlm
      go_wp2_with (first
        | (go_at_call 40; refine (markNil_RulRuleS _ _).mono ?_; rintro e w1 ⟨rfl, rfl⟩)
        | (go_at_call 48; refine (markNil_HseRefS _ _).mono ?_; rintro e w1 ⟨rfl, rfl⟩))
      go_roundw
      case rel => exact ⟨j + 1, by omega, by go_num, by go_num, HR.out, HB.out⟩
      case measure => simp [intOf]; omega
    · go_wp2
      go_ret
      obtain rfl : j = L.length := by omega
      rw [markedI_all] at hrow
      exact ⟨rfl, hrow, hb⟩
theorem markK_own {b : Nat} (v : Value) (k : Nat) (L : List Int) (w : World) (h : w.ownsRow b 51 3 v L.length (cellsK L)) (h2 : k + L.length ≤ 10000000) :
    Calls Try.prog 29 #[v, .int .i64 k] w fun e w' => e = .returned (.int .i64 ((k + L.length : Nat) : Int)) ∧ w'.ownsRow b 51 3 v L.length (cellsK (mkI k L.length)) ∧ w.grownBy w' v.ownBlock := by
  rcases h.2 with ⟨rfl, hn0⟩ | ⟨g, cap, cur, rfl, _⟩
  · refine (markNil_HseRepoS k w).mono ?_
    rintro e w' ⟨rfl, rfl⟩
    rw [hn0]
    exact ⟨rfl, World.ownsRow_nil _ _ _ _, World.grownBy.refl _ _⟩
  · refine (markKS_any b g cap k L w h h2).mono ?_
    rintro e w' ⟨rfl, h3, h4⟩
    exact ⟨rfl, h3, h4⟩
set_option maxHeartbeats 1000000 in
theorem heldKS_any (A : Option Addr) (c k n : Nat) (w : World) (hR : RdK w.heap.size w A (mkI k n)) (h2 : k + n ≤ 10000000) :
    Calls Try.prog 33 #[.slice A n c, .int .i64 k] w fun e w' => e = .returned (.int .i64 ((k + n : Nat) : Int)) ∧ Below w.heap.size w w' := by
  have HR : Hid (RdK w.heap.size w A (mkI k n)) := hR
  clear hR
  go_enter Try.func33, Try.ntmps33
  go_wp2
  go_loopw [1, 5] (fun kk i wr => ∃ j : Nat, j ≤ n ∧ i = .int .i64 j ∧ kk = .int .i64 ((k + j : Nat) : Int) ∧ Below w.heap.size w wr) (fun _ i _ => n - (intOf i).toNat)
  case atStart => exact ⟨0, Nat.zero_le _, rfl, rfl, Below.refl _ _⟩
  case round =>
    obtain ⟨j, hj, rfl, rfl, hb⟩ := hrel
    have hsz := hb.size
    by_cases hlt : j < n
    · obtain ⟨b, o, rfl, hbl, c1, c2, c3⟩ := (HR.out.below hb (Nat.le_refl _)) j (by rw [mkI_length]; exact hlt)
      rw [mkI_get] at c1
      go_wp2_with (first
        | (go_at_call 42; refine (heldNil_RulRuleS _ _).mono ?_; rintro e w1 ⟨rfl, rfl⟩)
        | (go_at_call 52; refine (heldNil_HseRefS _ _).mono ?_; rintro e w1 ⟨rfl, rfl⟩))
      go_roundw
      case rel => exact ⟨j + 1, by omega, by go_num, by go_num, hb⟩
      case measure => simp [intOf]; omega
    · go_wp2
      go_ret
      obtain rfl : j = n := by omega
      exact ⟨rfl, hb⟩
theorem heldK_own {b : Nat} {e : TypeId} (v : Value) (k n : Nat) (w : World) (h : w.ownsRow b e 3 v n (cellsK (mkI k n))) (h2 : k + n ≤ 10000000) :
    Calls Try.prog 33 #[v, .int .i64 k] w fun e w' => e = .returned (.int .i64 ((k + n : Nat) : Int)) ∧ Below w.heap.size w w' := by
  have h' : w.ownsRow b e 3 v (mkI k n).length (cellsK (mkI k n)) := by rw [mkI_length]; exact h
  obtain ⟨A, c, rfl, r1⟩ := rdK_of_own h'
  rw [mkI_length]
  exact heldKS_any A c k n w r1 h2
end Go.Proofs.Ytknbmgdfcejlkaa.W
