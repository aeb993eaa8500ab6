
/-
  The walks of slices.Grow at no rules, and of slices.Concat at two lists of rules of which the second one has one. At most 1048576 rules.
-/
import Derived.Test.YtmjmkgigopinbaaWalkRul2
import Derived.Test.YtmjmkgigopinbaaMathNew
import Derived.Lib.AppendZerosOnto
import Derived.Lib.SliceRun
import Derived.Lib.Walk
namespace Go.Proofs.Ytmjmkgigopinbaa.W
open Go.RowKit Go.Lib

theorem rdR_cells {B : Nat} {w : World} {b o : Nat} {L : List RR} (h : RdR B w (some ⟨b, o, none⟩) L) : ∀ j u, (cellsR L)[j]? = some u → w.cell? ((⟨b, o, none⟩ : Addr).add j) = some u := by
  intro j u hu
  have hj : j < (cellsR L).length := (List.getElem?_eq_some_iff.1 hu).1
  rw [cellsR_length] at hj
  have hi : j / 4 < L.length := by omega
  obtain ⟨b', o', e, hl, c1, c2, c3, c4⟩ := h (j / 4) hi
  simp only [Option.some.injEq, Addr.mk.injEq] at e
  obtain ⟨rfl, rfl, _⟩ := e
  obtain ⟨g1, g2, g3, g4⟩ := cellsR_get L (j / 4) hi
  have ea : (⟨b, o, none⟩ : Addr).add j = ⟨b, o + j, none⟩ := by unfold Addr.add; split <;> simp_all
  rw [ea]
  have hm : j % 4 = 0 ∨ j % 4 = 1 ∨ j % 4 = 2 ∨ j % 4 = 3 := by omega
  rcases hm with hm | hm | hm | hm
  · have e0 : j = j / 4 * 4 := by omega
    rw [← e0] at g1 c1
    rw [g1] at hu; rw [← hu]; exact c1
  · have e0 : j = j / 4 * 4 + 1 := by omega
    rw [← e0] at g2
    rw [Nat.add_assoc, ← e0] at c2
    rw [g2] at hu; rw [← hu]; exact c2
  · have e0 : j = j / 4 * 4 + 2 := by omega
    rw [← e0] at g3
    rw [Nat.add_assoc, ← e0] at c3
    rw [g3] at hu; rw [← hu]; exact c3
  · have e0 : j = j / 4 * 4 + 3 := by omega
    rw [← e0] at g4
    rw [Nat.add_assoc, ← e0] at c4
    rw [g4] at hu; rw [← hu]; exact c4
theorem cellsR_one (L : List RR) : ∀ u ∈ cellsR L, u.oneCell' = true := by
  intro u hu
  unfold cellsR at hu
  obtain ⟨x, _, hx⟩ := List.mem_flatMap.1 hu
  simp at hx
  rcases hx with rfl | rfl | rfl | rfl <;> rfl

theorem atR_cells {w : World} {g : Nat} {r : RR} (h : AtR w g r) : ∀ j u, (cellsR [r])[j]? = some u → w.cell? ((⟨g, 0, none⟩ : Addr).add j) = some u :=
  rdR_cells (B := w.heap.size) (L := [r]) fun j hj => by
    obtain rfl : j = 0 := by simpa using hj
    exact ⟨g, 0, rfl, h.lt, by simpa using h.1, by simpa using h.2.1, by simpa using h.2.2.1, by simpa using h.2.2.2⟩
set_option maxHeartbeats 1000000 in
set_option maxRecDepth 100000 in
theorem growR_nil (n : Nat) (w : World) (h0 : 1 ≤ n) (hn : n ≤ 2000000) :
    Calls Try.prog 54 #[.slice none 0 0, .int .i64 n] w fun e w' => (∃ cap, e = .returned (.slice (some ⟨w.heap.size, 0, none⟩) 0 cap) ∧ w'.ownsRow w.heap.size 32 4 (.slice (some ⟨w.heap.size, 0, none⟩) 0 cap) 0 []) ∧ Below w.heap.size w w' := by
  obtain ⟨i0, hi, hz0, hz1, hz2⟩ := info_parts infoR
  have hrz : ∀ ty, (Builtin.append_ #[23, 3] ty #[.slice none 0 0, .int .i64 (n : Int)]).run Try.prog w =
      .ok (.slice (some ⟨w.heap.size, 0, none⟩) n (grownCap w n 0 32)) (w.drew.alloc (.cells (([] : List Value).toArray ++ Builtin.zeroCells (Value.agg #[.int .i64 0, .string ByteArray.empty, .string ByteArray.empty, .bool false]).cells n ++ Builtin.zeroCells (Value.agg #[.int .i64 0, .string ByteArray.empty, .string ByteArray.empty, .bool false]).cells (grownCap w n 0 32 - n)) 32)) := fun ty => by
    have h := Lib.run_append_grow_zeros w 23 3 ty 32 i0 (.agg #[.int .i64 0, .string ByteArray.empty, .string ByteArray.empty, .bool false]) .i64 .i64 Try.underlying23 Try.underlying3 hi hz0 none 0 0 [] (run_firstCells_none w.drew i0.size 0 0 0) n (by omega) (by omega) (by omega) (by omega) (by rw [hz2]; omega) (growslice_fits (by omega) (by rw [hz2]; omega))
    simpa only [Nat.zero_add] using h
  have hGn : n ≤ grownCap w n 0 32 := grownCap_ge w _ _ _
  have hGm : grownCap w n 0 32 ≤ maxLen := grownCap_le_maxLen w _ _ _ (by unfold maxLen; omega)
  obtain ⟨G, hG⟩ : ∃ G, G = grownCap w n 0 32 := ⟨_, rfl⟩
  rw [← hG] at hrz hGn hGm
  obtain ⟨cur, hcur⟩ : ∃ cur, cur = (([] : List Value).toArray ++ Builtin.zeroCells (Value.agg #[.int .i64 0, .string ByteArray.empty, .string ByteArray.empty, .bool false]).cells n ++ Builtin.zeroCells (Value.agg #[.int .i64 0, .string ByteArray.empty, .string ByteArray.empty, .bool false]).cells (G - n)) := ⟨_, rfl⟩
  rw [← hcur] at hrz
  have hsz : Hid (cur.size = G * 4) := by
    show cur.size = G * 4
    rw [hcur]
    simp only [Array.size_append, List.size_toArray, size_zeroCells]
    have : (Value.agg #[.int .i64 0, .string ByteArray.empty, .string ByteArray.empty, .bool false]).cells.size = 4 := rfl
    rw [this]; simp; omega
  have hGm' : Hid (G ≤ maxLen) := hGm
  have hG63 : G ≤ 9223372036854775807 := by unfold maxLen at hGm; omega
  clear hG hcur hGm
  go_enter Try.func54, Try.ntmps54
  go_wp2_with (at_builtin; refine Lib.wpList_append_run _ rfl _ _ _ _ rfl _ _ rfl rfl _ _ (hrz _) ?_)
  all_goals
    go_ret
    refine ⟨⟨G, rfl, rfl, .inr ⟨w.heap.size, G, cur, rfl, Nat.le_refl _, ?_, Nat.zero_le _, hGm'.out, hsz.out, by simp⟩⟩, ((Below.refl _ w).drew).alloc (Nat.le_refl _) _⟩
    have e : (w.alloc (.cells cur 32)).drew.heap = w.heap.push (.cells cur 32) := rfl
    rw [e]; simp

set_option maxHeartbeats 4000000 in
set_option maxRecDepth 100000 in
theorem concatR (b o c g B2 : Nat) (L : List RR) (r : RR) (w : World) (hn : L.length ≤ 1048576) (hL : RdR w.heap.size w (some ⟨b, o, none⟩) L) (hr : AtR w g r)
    (k0 : w.cell? ⟨B2, 0, none⟩ = some (.slice (some ⟨b, o, none⟩) L.length c)) (k1 : w.cell? ⟨B2, 1, none⟩ = some (.slice (some ⟨g, 0, none⟩) 1 1)) :
    Calls Try.prog 39 #[.slice (some ⟨B2, 0, none⟩) 2 2] w fun e w' => (∃ v, e = .returned v ∧ w'.ownsRow w.heap.size 32 4 v (L ++ [r]).length (cellsR (L ++ [r]))) ∧ Below w.heap.size w w' := by
  obtain ⟨i0, hi, hz0, hz1, hz2⟩ := info_parts infoR
  have hB2 : B2 < w.heap.size := World.block_lt_of_cell? _ _ k0
  have HL : Hid (RdR w.heap.size w (some ⟨b, o, none⟩) L) := hL
  have HA : Hid (AtR w g r) := hr
  have hgl := hr.lt
  clear hL hr
  go_enter Try.func39, Try.ntmps39
  go_wp2
  refine wp_loop_rounds 3 ?_
  rw [rounds_succ]
  go_wp2
  rw [rounds_succ]
  go_wp2
  rw [rounds_succ]
  go_wp2_with (go_at_call 54; refine (growR_nil (L.length + 1) _ (by omega) (by omega)).mono ?_; rintro e w1 ⟨⟨cap, rfl, o1⟩, B1⟩; have z1 := B1.size; have k0' := (B1.cell (p := ⟨B2, 0, none⟩) hB2).trans k0; have k1' := (B1.cell (p := ⟨B2, 1, none⟩) hB2).trans k1)
  refine wp_loop_rounds 3 ?_
  rw [rounds_succ]
  go_wp2_with (at_builtin; refine wpList_append_own _ rfl _ _ 23 rfl w.heap.size 32 i0 (.agg #[.int .i64 0, .string ByteArray.empty, .string ByteArray.empty, .bool false]) 4 48 Try.underlying23 hi hz0 hz1 hz2 rfl (by decide) _ _ _ rfl o1 ⟨b, o, none⟩ L.length c (cellsR L) rfl (cellsR_length L) (rdR_cells (HL.out.below B1 (Nat.le_refl _))) (cellsR_one L) (by unfold maxLen; omega) (by omega) (by omega) ?_; intro v2 w2 o2 g2 hnil2; have B2' : Below w.heap.size w w2 := growOwn B1 z1 o1 g2 (Nat.le_refl _); have k1'' := (B2'.cell (p := ⟨B2, 1, none⟩) hB2).trans k1; have z2 := B2'.size)
  rw [rounds_succ]
  go_wp2_with (at_builtin; refine wpList_append_own _ rfl _ _ 23 rfl w.heap.size 32 i0 (.agg #[.int .i64 0, .string ByteArray.empty, .string ByteArray.empty, .bool false]) 4 48 Try.underlying23 hi hz0 hz1 hz2 rfl (by decide) _ _ _ rfl o2 ⟨g, 0, none⟩ 1 1 (cellsR [r]) rfl (cellsR_length [r]) (atR_cells (HA.out.below B2' hgl)) (cellsR_one [r]) (by unfold maxLen; omega) (by omega) (by omega) ?_; intro v3 w3 o3 g3 hnil3; have B3 : Below w.heap.size w w3 := growOwn B2' z2 o2 g3 (Nat.le_refl _))
  rw [rounds_succ]
  go_wp2
  go_ret
  refine ⟨⟨v3, rfl, ?_⟩, B3⟩
  have e : cellsR (L ++ [r]) = [] ++ cellsR L ++ cellsR [r] := by rw [cellsR_snoc, List.nil_append]; simp [cellsR]
  rw [e, List.length_append, List.length_singleton]
  simpa only [Nat.zero_add] using o3
end Go.Proofs.Ytmjmkgigopinbaa.W
