
/-
  A house is laid, its keys cloned, what was used made: the region of the program's MdlNew that draws its order. (Written by genslotg.py.) No condition but those named.
-/
import Derived.Test.YtknbmgdfcejlkaaMathSlotE
import Derived.Test.YtknbmgdfcejlkaaWalkMdlO
namespace Go.Proofs.Ytknbmgdfcejlkaa.W
open Go.RowKit
set_option linter.unusedVariables false

theorem made_zrs (n : Nat) : (madeCells #[.int .i64 0] (n * 1)).toList = cellsI (zrs n) := by
  rw [made_flat _ _ 1 rfl (by decide)]
  unfold cellsI zrs
  induction n with
  | zero => rfl
  | succ n ih => rw [List.replicate_succ, List.replicate_succ, List.flatten_cons, ih]; rfl
/-- what each operation leaves -/
def TMI (base c0 : Nat) (A0 : Option Addr) (K : List Int) : Nat → Value → World → Prop
  | 0 => fun v W => v = .slice A0 K.length c0
  | 1 => fun v W => W.ownsRow base 3 1 v K.length (cellsI K)
  | 2 => fun v W => v = .slice A0 K.length c0
  | 3 => fun v W => v = .int .i64 K.length
  | 4 => fun v W => W.ownsRow base 3 1 v K.length (cellsI (zrs K.length))
  | 5 => fun v W => ∃ vk vu, v = .agg #[vk, vu, .slice none 0 0] ∧ W.ownsRow base 3 1 vk K.length (cellsI K) ∧ W.ownsRow base 3 1 vu K.length (cellsI (zrs K.length))
  | 6 => fun v W => ∃ k, v = .pointer (some ⟨k, 0, none⟩) ∧ base ≤ k ∧ k < W.heap.size ∧ W.heap[k]? = some (.cells N3 25 (0, 0))
  | _ => fun _ _ => True
/-- its slot -/
def slotMI : Nat → Nat
  | 0 => 8
  | 1 => 9
  | 2 => 10
  | 3 => 11
  | 4 => 12
  | 5 => 13
  | 6 => 5
  | _ => 999
/-- the region that draws -/
def drawnI : Code → Option (Array Oper)
  | .region _ ops true => some ops
  | .seq a b => (drawnI a).orElse fun _ => drawnI b
  | .cond _ a b => (drawnI a).orElse fun _ => drawnI b
  | _ => none
theorem type_ne {w : World} {b z n g : Nat} {e t : TypeId} {v : Value} {xs : List Value} {cs : Array Value} (h : w.ownsRow b e z v n xs) (hg : w.heap[g]? = some (.cells cs t (0, 0))) (hne : t ≠ e) : v.ownBlock ≠ some g := by
  rcases h.2 with ⟨rfl, _⟩ | ⟨g', cap, cur, rfl, _, h2, _⟩
  · simp [Value.ownBlock]
  · intro q
    simp [Value.ownBlock] at q
    subst q
    rw [hg] at h2
    cases h2
    exact hne rfl
theorem kept_cell {w : World} {b n z m k : Nat} {e t : TypeId} {v u : Value} {xs : List Value} {cs : Array Value} (h : w.ownsRow b e z v n xs) (hg : w.heap[m]? = some (.cells cs t (0, 0))) (hne : t ≠ e) : (w.setCell ⟨m, k, none⟩ u).ownsRow b e z v n xs :=
  kept_other h (grownBy_set w m k u) (fun g q e => by cases e; exact type_ne h hg hne q)
set_option maxRecDepth 100000 in
set_option maxHeartbeats 8000000 in
theorem frontMI {rid : Nat} {ops : Array Oper} (hops : Try.f7.body.bind drawnI = some ops) {Q : Exit → Act → World → Prop} {a : Act} {w : World} {c0 b0 : Nat} {A0 : Option Addr} {K : List Int}
    (hsz : a.tmps.size = 33) (hdf : a.defers = []) (hf0 : a.tmps[0]?.getD undef = .slice A0 K.length c0) (hO : w.ownsRow b0 3 1 (.slice A0 K.length c0) K.length (cellsI K)) (hk : K.length ≤ 1048576)
    (hend : ∀ (y : Nat → Value) (w2 : World) (k : Nat) (vk vu : Value), Below w.heap.size w w2 → w.heap.size ≤ k → k < w2.heap.size → w2.heap[k]? = some (.cells #[vk, vu, .slice none 0 0] 25 (0, 0)) → w2.ownsRow w.heap.size 3 1 vk K.length (cellsI K) → w2.ownsRow w.heap.size 3 1 vu K.length (cellsI (zrs K.length)) →
      Q .normal ⟨#[y 0, a.tmps[1]?.getD undef, y 2, y 3, a.tmps[4]?.getD undef, .pointer (some ⟨k, 0, none⟩), y 6, y 7, y 8, y 9, y 10, y 11, y 12, y 13, y 14, y 15, y 16, y 17, y 18, y 19, y 20, y 21, y 22, y 23, y 24, y 25, y 26, y 27, y 28, y 29, y 30, y 31, y 32], []⟩ w2) : (Code.region rid ops true).wp Try.prog Q a w := by
  obtain ⟨i0, hii, hz0', hz1', hz2'⟩ := info_parts infoInt
  simp only [Try.f7, Option.bind, drawnI, Option.orElse] at hops
  obtain rfl := Option.some.inj hops
  clear hops
  refine region_ext_last 7 33 slotMI [0, 1, 4] (TMI w.heap.size c0 A0 K) rfl (by kernel_rfl) ?_ hsz hdf ?_ ?_ ?_ ?_ ?_ ?_
  · clear hend
    intro i o ho e he hb
    match i with
    | 0 => obtain rfl := Option.some.inj ho; revert hb; revert e; decide
    | 1 => obtain rfl := Option.some.inj ho; revert hb; revert e; decide
    | 2 => obtain rfl := Option.some.inj ho; revert hb; revert e; decide
    | 3 => obtain rfl := Option.some.inj ho; revert hb; revert e; decide
    | 4 => obtain rfl := Option.some.inj ho; revert hb; revert e; decide
    | 5 => obtain rfl := Option.some.inj ho; revert hb; revert e; decide
    | 6 => obtain rfl := Option.some.inj ho; revert hb; revert e; decide
    | 7 => obtain rfl := Option.some.inj ho; revert hb; revert e; decide
    | i + 8 => cases ho
  · intro i v w1 w2 hi h hb
    match i, hi with
    | 0, _ => exact h
    | 1, _ => exact ownsUnder h hb (Nat.le_refl _)
    | 2, _ => exact h
    | 3, _ => exact h
    | 4, _ => exact ownsUnder h hb (Nat.le_refl _)
    | 5, _ => obtain ⟨vk, vu, h1, h2, h3⟩ := h; exact ⟨vk, vu, h1, ownsUnder h2 hb (Nat.le_refl _), ownsUnder h3 hb (Nat.le_refl _)⟩
    | 6, _ => obtain ⟨k, h1, h2, h3, h4⟩ := h; exact ⟨k, h1, h2, Nat.lt_of_lt_of_le h3 hb.size, hpBelow h4 hb h3⟩
    | m + 7, hk => exact absurd hk (by omega)
  · decide
  · decide
  · intro ol ho
    obtain rfl := Option.some.inj ho
    decide
  · clear hend
    intro i o ho hi a1 w1 hF hA hb1
    have hz1 := hb1.size
    have f0 := (hF 0 (by simp)).trans hf0
    clear hF
    match i with
    | 0 =>
      obtain rfl := Option.some.inj ho
      refine wpOp_do rfl rfl ?_
      clear hA ho
      unfold Oper.wp
      simp [go_sem, f0]
      exact ⟨_, rfl, rfl, Below.refl _ _⟩
    | 1 =>
      obtain rfl := Option.some.inj ho
      refine wpOp_do rfl rfl ?_
      have p0 := hA { on := 0, ground := .data } (by simp) rfl; simp only [TMI, slotMI] at p0
      clear hA ho
      unfold Oper.wp
      simp [go_sem, p0]
      refine (clone_own _ K w1 (ownsUnder hO hb1 (Nat.le_refl _)) hk).mono ?_
      rintro e w2 ⟨v', rfl, o1, hb⟩
      exact ⟨v', rfl, ownsDown o1 hz1, hb⟩
    | 2 =>
      obtain rfl := Option.some.inj ho
      refine wpOp_do rfl rfl ?_
      clear hA ho
      unfold Oper.wp
      simp [go_sem, f0]
      exact ⟨_, rfl, rfl, Below.refl _ _⟩
    | 3 =>
      obtain rfl := Option.some.inj ho
      refine wpOp_do rfl rfl ?_
      have p2 := hA { on := 2, ground := .data } (by simp) rfl; simp only [TMI, slotMI] at p2
      clear hA ho
      unfold Oper.wp
      simp [go_sem, p2]
      exact ⟨_, rfl, rfl, Below.refl _ _⟩
    | 4 =>
      obtain rfl := Option.some.inj ho
      refine wpOp_do rfl rfl ?_
      have p3 := hA { on := 3, ground := .data } (by simp) rfl; simp only [TMI, slotMI] at p3
      clear hA ho
      unfold Oper.wp
      obtain ⟨w', hrun, r1, r2⟩ := run_make_full (P := Try.prog) w1 w.heap.size 22 3 i0 (.int .i64 0) 1 Try.underlying22 hii hz0' hz1' .i64 .i64 K.length (by rw [hz2']; omega) (by unfold maxLen; omega) hz1
      simp [go_sem, execOp, p3, hrun, Result.andThen]
      refine ⟨_, rfl, ?_, (Below.refl _ _).grown r2 (Nat.le_refl _) (fun k h => by cases h)⟩
      have e := made_zrs K.length
      show w'.ownsRow w.heap.size 3 1 _ K.length (cellsI (zrs K.length))
      rw [← e]
      exact r1
    | 5 =>
      obtain rfl := Option.some.inj ho
      refine wpOp_do rfl rfl ?_
      have p1 := hA { on := 1, ground := .data } (by simp) rfl; simp only [TMI, slotMI] at p1
      have p4 := hA { on := 4, ground := .data } (by simp) rfl; simp only [TMI, slotMI] at p4
      clear hA ho
      unfold Oper.wp
      obtain ⟨B1, d1, e1⟩ := own_slice p1
      obtain ⟨B4, d4, e4⟩ := own_slice p4
      rw [e1] at p1
      rw [e4] at p4
      simp [go_sem, e1, e4]
      exact ⟨_, rfl, ⟨_, _, rfl, p1, p4⟩, Below.refl _ _⟩
    | 6 =>
      obtain rfl := Option.some.inj ho
      refine wpOp_do rfl rfl ?_
      clear hA ho
      unfold Oper.wp
      simp [go_sem]
      exact ⟨_, rfl, ⟨w1.heap.size, rfl, hz1, by simp, hpNew _ _⟩, (Below.refl _ _).alloc (Nat.le_refl _) _⟩
    | m + 7 => exact absurd hi (by omega)
  · intro ol ho y w2 hb2 hall hF
    obtain rfl := Option.some.inj ho
    refine wpOp_do rfl rfl ?_
    clear ho
    obtain ⟨vk, vu, eA, o1, o2⟩ := hall 5 (by omega)
    obtain ⟨k, eP, hk1, hk2, K0⟩ := hall 6 (by omega)
    simp only [slotMI] at eA eP
    obtain ⟨Ak, ck, rfl⟩ := own_slice o1
    obtain ⟨Au, cu, rfl⟩ := own_slice o2
    have K1 := hpSet (k := 0) (v := .slice Ak K.length ck) K0
    have K2 := hpSet (k := 1) (v := .slice Au K.length cu) K1
    have K3 := hpSet (k := 2) (v := .slice none 0 0) K2
    have c0' := hpCell (k := 0) K0 rfl; have g0 := hpFrozen (k := 0) K0
    have c1' := hpCell (k := 1) K1 rfl; have g1 := hpFrozen (k := 1) K1
    have c2' := hpCell (k := 2) K2 rfl; have g2 := hpFrozen (k := 2) K2
    have P1 := kept_cell (k := 2) (u := .slice none 0 0) (kept_cell (k := 1) (u := .slice Au K.length cu) (kept_cell (k := 0) (u := .slice Ak K.length ck) o1 K0 (by decide)) K1 (by decide)) K2 (by decide)
    have P2 := kept_cell (k := 2) (u := .slice none 0 0) (kept_cell (k := 1) (u := .slice Au K.length cu) (kept_cell (k := 0) (u := .slice Ak K.length ck) o2 K0 (by decide)) K1 (by decide)) K2 (by decide)
    have F := hend y _ k _ _ (((hb2.setCell (p := ⟨k, 0, none⟩) hk1 _).setCell (p := ⟨k, 1, none⟩) hk1 _).setCell (p := ⟨k, 2, none⟩) hk1 _) hk1 (by simpa [World.setCell] using hk2) K3 P1 P2
    have e1 := hF 1 (by simp)
    have e4 := hF 4 (by simp)
    clear hend hall hF K1 K2 K3 K0 P1 P2 o1 o2
    rw [show ((List.range 33).map y).toArray = #[y 0, y 1, y 2, y 3, y 4, y 5, y 6, y 7, y 8, y 9, y 10, y 11, y 12, y 13, y 14, y 15, y 16, y 17, y 18, y 19, y 20, y 21, y 22, y 23, y 24, y 25, y 26, y 27, y 28, y 29, y 30, y 31, y 32] from rfl]
    rw [eA, eP, e1, e4]
    rw [eA] at F
    unfold Oper.wp
    simp [go_sem, c0', c1', c2', g0, g1, g2]
    exact F
end Go.Proofs.Ytknbmgdfcejlkaa.W
