
/-
  Rows of numbers: the walks of the exact laws' own 'eqIntS', 'markIntS', 'heldIntS' over rows that a call has made. Rows of at most 1048576 numbers.
-/
import Derived.Test.YtknbmgdfcejlkaaBase
import Derived.Test.YtknbmgdfcejlkaaMathOwn
import Derived.OwnWalk
import Derived.Below
import Derived.BigQuiet
import Derived.Deep.QuietTactic
import Derived.Deep.RegionWith
namespace Go.Proofs.Ytknbmgdfcejlkaa.W
open Go.RowKit

def cellsI (L : List Int) : List Value := L.map fun x => .int .i64 x
theorem cellsI_get (L : List Int) (j : Nat) (h : j < L.length) : (cellsI L)[j]? = some (.int .i64 L[j]) := by simp [cellsI, h]
def RdI (B : Nat) (w : World) (A : Option Addr) (L : List Int) : Prop :=
  ∀ j (h : j < L.length), ∃ b o, A = some ⟨b, o, none⟩ ∧ b < B ∧ w.cell? ⟨b, o + j, none⟩ = some (.int .i64 (L[j]))
theorem RdI.below {B B' : Nat} {w w' : World} {A : Option Addr} {L : List Int} (h : RdI B w A L) (hb : Below B' w w') (hB : B ≤ B') : RdI B w' A L := fun j hj => by
  obtain ⟨b, o, e, hl, c1⟩ := h j hj
  exact ⟨b, o, e, hl, (hb.cell (p := ⟨b, _, none⟩) (by show b < B'; omega)).trans c1⟩
theorem RdI.mono {B B' : Nat} {w : World} {A : Option Addr} {L : List Int} (h : RdI B w A L) (hB : B ≤ B') : RdI B' w A L := fun j hj => by
  obtain ⟨b, o, e, hl, c⟩ := h j hj
  exact ⟨b, o, e, by omega, c⟩
theorem RdI.up {w w' : World} {A : Option Addr} {L : List Int} (h : RdI w.heap.size w A L) (hb : Below w.heap.size w w') : RdI w'.heap.size w' A L := (h.below hb (Nat.le_refl _)).mono hb.size
theorem rdI_of_own {w : World} {base : Nat} {e : TypeId} {v : Value} {L : List Int} (h : w.ownsRow base e 1 v L.length (cellsI L)) : ∃ A c, v = .slice A L.length c ∧ RdI w.heap.size w A L := by
  have hl := h.lt
  rcases h.2 with ⟨rfl, hn⟩ | ⟨g, cap, cur, rfl, _⟩
  · exact ⟨none, 0, by rw [hn], fun j hj => by omega⟩
  · refine ⟨some ⟨g, 0, none⟩, cap, rfl, fun j hj => ⟨g, 0, rfl, (hl g rfl).2, ?_⟩⟩
    rw [Nat.zero_add, h.cellAt j (by omega)]; exact cellsI_get L j hj

set_option maxHeartbeats 1000000 in
theorem eqIS_same (A A' : Option Addr) (c c' : Nat) (L : List Int) (w : World) (h1 : RdI w.heap.size w A L) (h2 : RdI w.heap.size w A' L) (hn : L.length ≤ 1048576) :
    Calls Try.prog 9 #[.slice A L.length c, .slice A' L.length c'] w fun e w' => e = .returned (.bool true) ∧ Below w.heap.size w w' := by
  have H1 : Hid (RdI w.heap.size w A L) := h1
  have H2 : Hid (RdI w.heap.size w A' L) := h2
  clear h1 h2
  go_enter Try.func9, Try.ntmps9
  go_wp2
  go_loopw [5] (fun iv wr => ∃ j : Nat, j ≤ L.length ∧ iv = .int .i64 j ∧ Below w.heap.size w wr) (fun i _ => L.length - (intOf i).toNat)
  case atStart => exact ⟨0, Nat.zero_le _, rfl, Below.refl _ _⟩
  case round =>
    obtain ⟨j, hj, rfl, hb⟩ := hrel
    have hsz := hb.size
    by_cases hlt : j < L.length
    · obtain ⟨b, o, rfl, hbl, c1⟩ := (H1.out.below hb (Nat.le_refl _)) j hlt
      obtain ⟨b', o', rfl, hbl', c1'⟩ := (H2.out.below hb (Nat.le_refl _)) j hlt
      generalize (L[j]) = i at *
      go_wp2
      go_quiet (fail)
      go_wp2
      go_roundw
      case rel => exact ⟨j + 1, by omega, by go_num, ⟨hb.os, hb.tape, hb.output, hb.size, hb.block⟩⟩
      case measure => simp [intOf]; omega
    · go_wp2
      go_ret
      exact ⟨rfl, hb⟩
theorem eqI_own {b b' : Nat} {e e' : TypeId} (v v' : Value) (L : List Int) (w : World) (h1 : w.ownsRow b e 1 v L.length (cellsI L)) (h2 : w.ownsRow b' e' 1 v' L.length (cellsI L)) (hn : L.length ≤ 1048576) :
    Calls Try.prog 9 #[v, v'] w fun e w' => e = .returned (.bool true) ∧ Below w.heap.size w w' := by
  obtain ⟨A, c, rfl, r1⟩ := rdI_of_own h1
  obtain ⟨A', c', rfl, r2⟩ := rdI_of_own h2
  exact eqIS_same A A' c c' L w r1 r2 hn

/-- numbers that rise by one, from k on -/
def mkI (k n : Nat) : List Int := (List.range n).map fun j => ((k + j : Nat) : Int)
theorem mkI_length (k n : Nat) : (mkI k n).length = n := by simp [mkI]
def markedI (L : List Int) (k j : Nat) : List Int := mkI k j ++ L.drop j
theorem markedI_zero (L : List Int) (k : Nat) : markedI L k 0 = L := by simp [markedI, mkI]
theorem markedI_all (L : List Int) (k : Nat) : markedI L k L.length = mkI k L.length := by simp [markedI]
theorem markedI_step (L : List Int) (k j : Nat) (h : j < L.length) : (markedI L k j).set j ((k + j : Nat) : Int) = markedI L k (j + 1) := by
  unfold markedI
  rw [List.set_append_right _ _ (by rw [mkI_length]; omega), mkI_length, Nat.sub_self, List.drop_eq_getElem_cons h, List.set_cons_zero]
  have e : mkI k (j + 1) = mkI k j ++ [((k + j : Nat) : Int)] := by
    unfold mkI; rw [List.range_succ, List.map_append]; rfl
  rw [e]; simp
theorem mkI_get (k n j : Nat) (h : j < (mkI k n).length) : (mkI k n)[j] = ((k + j : Nat) : Int) := by simp [mkI]
theorem grownBy_trans {w w' w'' : World} {r : Option Nat} (h : w.grownBy w' r) (k : w'.grownBy w'' r) : w.grownBy w'' r :=
  ⟨k.os.trans h.os, k.tape.trans h.tape, k.output.trans h.output, Nat.le_trans h.size k.size, fun i hi hn => (k.block i (Nat.lt_of_lt_of_le hi h.size) hn).trans (h.block i hi hn)⟩
theorem grownBy_set (w : World) (g j : Nat) (u : Value) : w.grownBy (w.setCell ⟨g, j, none⟩ u) (some g) :=
  ⟨rfl, rfl, rfl, by simp [World.setCell], fun k _ hn => Below.heap_setCell _ _ _ _ (fun e => hn (by rw [e]))⟩

set_option maxHeartbeats 1000000 in
theorem markIS_any (base g cap k : Nat) (L : List Int) (w : World) (hown : w.ownsRow base 3 1 (.slice (some ⟨g, 0, none⟩) L.length cap) L.length (cellsI L)) (h2 : k + L.length ≤ 10000000) :
    Calls Try.prog 10 #[.slice (some ⟨g, 0, none⟩) L.length cap, .int .i64 k] w fun e w' => e = .returned (.int .i64 ((k + L.length : Nat) : Int)) ∧ w'.ownsRow base 3 1 (.slice (some ⟨g, 0, none⟩) L.length cap) L.length (cellsI (mkI k L.length)) ∧ w.grownBy w' (some g) := by
  go_enter Try.func10, Try.ntmps10
  go_wp2
  go_loopw [1, 5] (fun kk i wr => ∃ j : Nat, j ≤ L.length ∧ i = .int .i64 j ∧ kk = .int .i64 ((k + j : Nat) : Int) ∧ wr.ownsRow base 3 1 (.slice (some ⟨g, 0, none⟩) L.length cap) L.length (cellsI (markedI L k j)) ∧ w.grownBy wr (some g)) (fun _ i _ => L.length - (intOf i).toNat)
  case atStart => exact ⟨0, Nat.zero_le _, rfl, rfl, by rw [markedI_zero]; exact hown, World.grownBy.refl _ _⟩
  case round =>
    obtain ⟨j, hj, rfl, rfl, hrow, hb⟩ := hrel
    by_cases hlt : j < L.length
    · obtain ⟨u1, hu1⟩ := ownsCell hrow j (by omega)
      have hf1 := hrow.frozenAt j
      have HR : Hid (wr.ownsRow base 3 1 (.slice (some ⟨g, 0, none⟩) L.length cap) L.length (cellsI (markedI L k j))) := hrow
      have HB : Hid (w.grownBy wr (some g)) := hb
      clear hrow hb
      go_wp2
      go_roundw
      case rel =>
        have hst := (HR.out.stored j (.int .i64 ((k + j : Nat) : Int))).1
        have est : (cellsI (markedI L k j)).set j (.int .i64 ((k + j : Nat) : Int)) = cellsI (markedI L k (j + 1)) := by
          rw [← markedI_step L k j hlt]; simp [cellsI, List.map_set]
        rw [est] at hst
        exact ⟨j + 1, by omega, by go_num, by go_num, hst, grownBy_trans HB.out (grownBy_set wr g j _)⟩
      case measure => simp [intOf]; omega
    · go_wp2
      go_ret
      obtain rfl : j = L.length := by omega
      rw [markedI_all] at hrow
      exact ⟨rfl, hrow, hb⟩
set_option maxHeartbeats 400000 in
theorem markIS_nil (k : Nat) (w : World) :
    Calls Try.prog 10 #[.slice none 0 0, .int .i64 k] w fun e w' => e = .returned (.int .i64 k) ∧ w = w' := by
  go_enter Try.func10, Try.ntmps10
  go_wp2
  refine wp_loop_rounds 1 ?_
  rw [rounds_succ]
  go_wp2
  go_ret
  exact ⟨rfl, rfl⟩
theorem markI_own {b : Nat} (v : Value) (L : List Int) (w : World) (h : w.ownsRow b 3 1 v L.length (cellsI L)) (hn : L.length ≤ 1048576) :
    Calls Try.prog 10 #[v, .int .i64 1] w fun e w' => e = .returned (.int .i64 ((1 + L.length : Nat) : Int)) ∧ w'.ownsRow b 3 1 v L.length (cellsI (mkI 1 L.length)) ∧ w.grownBy w' v.ownBlock := by
  rcases h.2 with ⟨rfl, hn0⟩ | ⟨g, cap, cur, rfl, _⟩
  · refine (markIS_nil 1 w).mono ?_
    rintro e w' ⟨rfl, rfl⟩
    rw [hn0]
    exact ⟨rfl, World.ownsRow_nil _ _ _ _, World.grownBy.refl _ _⟩
  · refine (markIS_any b g cap 1 L w h (by omega)).mono ?_
    rintro e w' ⟨rfl, h2, h3⟩
    exact ⟨rfl, h2, h3⟩

set_option maxHeartbeats 1000000 in
theorem heldIS_any (A : Option Addr) (c k n : Nat) (w : World) (hR : RdI w.heap.size w A (mkI k n)) (h2 : k + n ≤ 10000000) :
    Calls Try.prog 23 #[.slice A n c, .int .i64 k] w fun e w' => e = .returned (.int .i64 ((k + n : Nat) : Int)) ∧ Below w.heap.size w w' := by
  have HR : Hid (RdI w.heap.size w A (mkI k n)) := hR
  clear hR
  go_enter Try.func23, Try.ntmps23
  go_wp2
  go_loopw [1, 5] (fun kk i wr => ∃ j : Nat, j ≤ n ∧ i = .int .i64 j ∧ kk = .int .i64 ((k + j : Nat) : Int) ∧ Below w.heap.size w wr) (fun _ i _ => n - (intOf i).toNat)
  case atStart => exact ⟨0, Nat.zero_le _, rfl, rfl, Below.refl _ _⟩
  case round =>
    obtain ⟨j, hj, rfl, rfl, hb⟩ := hrel
    by_cases hlt : j < n
    · obtain ⟨b, o, rfl, hbl, c1⟩ := (HR.out.below hb (Nat.le_refl _)) j (by rw [mkI_length]; exact hlt)
      rw [mkI_get] at c1
      go_wp2
      go_roundw
      case rel => exact ⟨j + 1, by omega, by go_num, by go_num, hb⟩
      case measure => simp [intOf]; omega
    · go_wp2
      go_ret
      obtain rfl : j = n := by omega
      exact ⟨rfl, hb⟩
theorem heldI_own {b : Nat} {e : TypeId} (v : Value) (n : Nat) (w : World) (h : w.ownsRow b e 1 v n (cellsI (mkI 1 n))) (hn : n ≤ 1048576) :
    Calls Try.prog 23 #[v, .int .i64 1] w fun e w' => e = .returned (.int .i64 ((1 + n : Nat) : Int)) ∧ Below w.heap.size w w' := by
  have h' : w.ownsRow b e 1 v (mkI 1 n).length (cellsI (mkI 1 n)) := by rw [mkI_length]; exact h
  obtain ⟨A, c, rfl, r1⟩ := rdI_of_own h'
  rw [mkI_length]
  exact heldIS_any A c 1 n w r1 (by omega)
end Go.Proofs.Ytknbmgdfcejlkaa.W
