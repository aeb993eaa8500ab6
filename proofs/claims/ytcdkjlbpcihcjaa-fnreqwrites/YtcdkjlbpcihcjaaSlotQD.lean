
/-
  Another Old is drawn: the first region of the specification's l21AnyReq that draws its order. (Written by genslotq4.py.) No condition but that the reader is open.
-/
import Derived.Test.YtcdkjlbpcihcjaaMathSlot3
import Derived.Test.YtcdkjlbpcihcjaaMathBlk
namespace Go.Proofs.Ytcdkjlbpcihcjaa.W
open Go.RowKit Go.Proofs.Ytcdkjlbpcihcjaa.M
set_option linter.unusedVariables false

theorem pd_any (d : Int) (k : Nat) (h : k < 4) : ∃ u : Int, (#[.int .i64 d, .int .i64 (-1), .int .i64 99, .int .i64 100] : Array Value)[k]? = some (.int .i64 u) := by
  rcases (show k = 0 ∨ k = 1 ∨ k = 2 ∨ k = 3 from by omega) with rfl | rfl | rfl | rfl <;> exact ⟨_, rfl⟩
/-- the regions that draw -/
def drawnP : Code → List (Array Oper)
  | .region _ ops true => [ops]
  | .seq a b => drawnP a ++ drawnP b
  | .cond _ a b => drawnP a ++ drawnP b
  | .block _ a => drawnP a
  | .loop a => drawnP a
  | _ => []
/-- what each operation leaves -/
def TQD (rb m : Nat) (o : Int) : Nat → Value → World → Prop
  | 0 => fun v _ => v = .pointer (some ⟨m, 6, none⟩)
  | 1 => fun v _ => v = .int .i64 o
  | 2 => fun v _ => ∃ d : Int, v = .int .i64 d
  | 3 => fun v W => ∃ (g : Nat) (d : Int), v = .slice (some ⟨g, 0, none⟩) 4 4 ∧ g ≠ rb ∧ W.heap[g]? = some (.cells #[.int .i64 d, .int .i64 (-1), .int .i64 99, .int .i64 100] 3 (0, 0))
  | 4 => fun v _ => v = .pointer (some ⟨rb, 0, none⟩)
  | 5 => fun v _ => ∃ k : Nat, k < 4 ∧ v = .int .i64 k
  | 6 => fun v W => ∃ (g k : Nat) (d : Int), v = .pointer (some ⟨g, k, none⟩) ∧ k < 4 ∧ g ≠ rb ∧ W.heap[g]? = some (.cells #[.int .i64 d, .int .i64 (-1), .int .i64 99, .int .i64 100] 3 (0, 0))
  | 7 => fun v _ => ∃ d : Int, v = .int .i64 d
  | _ => fun _ _ => True
/-- its slot -/
def slotQD : Nat → Nat
  | 0 => 63
  | 1 => 64
  | 2 => 65
  | 3 => 66
  | 4 => 67
  | 5 => 68
  | 6 => 69
  | 7 => 70
  | _ => 999
set_option maxRecDepth 100000 in
set_option maxHeartbeats 8000000 in
theorem frontQD {rid : Nat} {ops : Array Oper} (hops : ((Try.f10.body.map drawnP).getD [])[0]? = some ops) {Q : Exit → Act → World → Prop} {a : Act} {w : World} {rb p m : Nat} {ad : Option Addr} {len cap : Nat} {zs : Nat → Int} {cs : Array Value} {o : Int} {tm : TypeId}
    (hsz : a.tmps.size = 101) (hdf : a.defers = []) (hf0 : a.tmps[0]?.getD undef = .pointer (some ⟨rb, 0, none⟩)) (hf7 : a.tmps[7]?.getD undef = .pointer (some ⟨m, 0, none⟩)) (hRd : Rd w rb p ad len cap zs) (hp : p ≤ 500000) (hlt : rb < w.heap.size)
    (hm : w.heap[m]? = some (.cells cs tm (0, 0))) (hm6 : cs[6]? = some (.int .i64 o)) (hmr : m ≠ rb)
    (hend : ∀ (y : Nat → Value) (w2 : World) (q : Nat) (d : Int), q ≤ p + 20 → Rd w2 rb q ad len cap zs → w.grownBy w2 (some rb) →
      Q .normal ⟨#[.pointer (some ⟨rb, 0, none⟩), y 1, y 2, y 3, y 4, y 5, a.tmps[6]?.getD undef, .pointer (some ⟨m, 0, none⟩), y 8, y 9, y 10, y 11, y 12, y 13, y 14, y 15, y 16, y 17, y 18, y 19, y 20, y 21, y 22, y 23, y 24, y 25, y 26, y 27, y 28, y 29, y 30, y 31, y 32, y 33, y 34, y 35, y 36, y 37, y 38, y 39, y 40, y 41, y 42, y 43, y 44, y 45, y 46, y 47, y 48, y 49, y 50, y 51, y 52, y 53, y 54, y 55, y 56, y 57, y 58, y 59, y 60, y 61, y 62, y 63, y 64, y 65, y 66, y 67, y 68, y 69, .int .i64 d, .pointer (some ⟨m, 6, none⟩), y 72, y 73, y 74, y 75, y 76, y 77, y 78, y 79, y 80, y 81, y 82, y 83, y 84, y 85, y 86, y 87, y 88, y 89, y 90, y 91, y 92, y 93, y 94, y 95, y 96, y 97, y 98, y 99, y 100], []⟩ (w2.setCell ⟨m, 6, none⟩ (.int .i64 d))) : (Code.region rid ops true).wp Try.prog Q a w := by
  simp only [Try.f10, Option.map_some, Option.getD_some, drawnP, List.nil_append, List.append_nil, List.cons_append, List.getElem?_cons_zero] at hops
  obtain rfl := Option.some.inj hops
  clear hops
  refine region_slots_last2 (p := p) 8 2 101 slotQD [0, 6, 7] (TQD rb m o) rfl (by kernel_rfl) ?_ hsz hdf hRd ?_ ?_ ?_ ?_ ?_ ?_ ?_
  · clear hend
    intro i o ho e he hb
    match i with
    | 0 => obtain rfl := Option.some.inj ho; revert hb; revert e; decide
    | 1 => obtain rfl := Option.some.inj ho; revert hb; revert e; decide
    | 2 => obtain rfl := Option.some.inj ho; revert hb; revert e; decide
    | 3 => obtain rfl := Option.some.inj ho; revert hb; revert e; decide
    | 4 => obtain rfl := Option.some.inj ho; revert hb; revert e; decide
    | 5 => obtain rfl := Option.some.inj ho; revert hb; revert e; decide
    | 6 => obtain rfl := Option.some.inj ho; revert hb; revert e; decide
    | 7 => obtain rfl := Option.some.inj ho; revert hb; revert e; decide
    | 8 => obtain rfl := Option.some.inj ho; revert hb; revert e; decide
    | 9 => obtain rfl := Option.some.inj ho; revert hb; revert e; decide
    | i + 10 => cases ho
  · intro i v w1 w2 hi h hg
    match i, hi with
    | 0, _ => exact h
    | 1, _ => exact h
    | 2, _ => exact h
    | 3, _ => obtain ⟨g, d, h1, h2, h3⟩ := h; exact ⟨g, d, h1, h2, bkKept h3 hg h2⟩
    | 4, _ => exact h
    | 5, _ => exact h
    | 6, _ => obtain ⟨g, k, d, h1, h2, h3, h4⟩ := h; exact ⟨g, k, d, h1, h2, h3, bkKept h4 hg h3⟩
    | 7, _ => exact h
    | k + 8, hk => exact absurd hk (by omega)
  · decide
  · decide
  · clear hend
    intro S hD h8 i hi
    have s0 := h8 _ rfl { on := 0, ground := .phase } (by simp) rfl
    have s1 := h8 _ rfl { on := 1, ground := .phase } (by simp) rfl
    have s2 := h8 _ rfl { on := 2, ground := .phase } (by simp) rfl
    have s3 := h8 _ rfl { on := 3, ground := .phase } (by simp) rfl
    have s4 := h8 _ rfl { on := 4, ground := .phase } (by simp) rfl
    have s5 := h8 _ rfl { on := 5, ground := .phase } (by simp) rfl
    have s6 := h8 _ rfl { on := 6, ground := .phase } (by simp) rfl
    have s7 := h8 _ rfl { on := 7, ground := .phase } (by simp) rfl
    match i, hi with
    | 0, _ => exact s0
    | 1, _ => exact s1
    | 2, _ => exact s2
    | 3, _ => exact s3
    | 4, _ => exact s4
    | 5, _ => exact s5
    | 6, _ => exact s6
    | 7, _ => exact s7
    | k + 8, hk => exact absurd hk (by omega)
  · intro ol ho
    obtain rfl := Option.some.inj ho
    decide
  · clear hend
    intro i o ho hi a1 w1 q hF hA hq hR1 hg1
    have hq' : q + 2 ≤ p + 2 * 10 := hq
    clear hq
    have hz1 := hg1.size
    have hl1 : rb < w1.heap.size := by omega
    have f0 := (hF 0 (by simp)).trans hf0
    have f7 := (hF 7 (by simp)).trans hf7
    have hc6 := bkCell (k := 6) (bkKept hm hg1 hmr) hm6
    clear hF
    match i with
    | 0 =>
      obtain rfl := Option.some.inj ho
      refine wpOp_do rfl rfl ?_
      clear hA ho
      unfold Oper.wp
      simp [go_sem, f7]
      exact ⟨_, q, rfl, rfl, ⟨rfl, rfl, rfl, Nat.le_refl _, fun _ _ _ => rfl⟩, by omega, hR1⟩
    | 1 =>
      obtain rfl := Option.some.inj ho
      refine wpOp_do rfl rfl ?_
      have p0 := hA { on := 0, ground := .data } (by simp) rfl; simp only [TQD, slotQD] at p0
      clear hA ho
      unfold Oper.wp
      simp [go_sem, p0, hc6]
      exact ⟨_, q, rfl, rfl, ⟨rfl, rfl, rfl, Nat.le_refl _, fun _ _ _ => rfl⟩, by omega, hR1⟩
    | 2 =>
      obtain rfl := Option.some.inj ho
      refine wpOp_do rfl rfl ?_
      have p1 := hA { on := 1, ground := .data } (by simp) rfl; simp only [TQD, slotQD] at p1
      clear hA ho
      unfold Oper.wp
      simp [go_sem, p1]
      exact ⟨_, q, rfl, ⟨_, rfl⟩, ⟨rfl, rfl, rfl, Nat.le_refl _, fun _ _ _ => rfl⟩, by omega, hR1⟩
    | 3 =>
      obtain rfl := Option.some.inj ho
      refine wpOp_do rfl rfl ?_
      have p2 := hA { on := 2, ground := .data } (by simp) rfl; simp only [TQD, slotQD] at p2
      clear hA ho
      unfold Oper.wp
      obtain ⟨d', e2⟩ := p2
      simp [go_sem, e2]
      exact ⟨_, q, rfl, ⟨w1.heap.size, d', rfl, by omega, bkNew _ _⟩, galloc _ _, by omega, hR1.alloc hl1 _⟩
    | 4 =>
      obtain rfl := Option.some.inj ho
      refine wpOp_do rfl rfl ?_
      clear hA ho
      unfold Oper.wp
      simp [go_sem, f0]
      exact ⟨_, q, rfl, rfl, ⟨rfl, rfl, rfl, Nat.le_refl _, fun _ _ _ => rfl⟩, by omega, hR1⟩
    | 5 =>
      obtain rfl := Option.some.inj ho
      refine wpOp_do rfl rfl ?_
      have p4 := hA { on := 4, ground := .data } (by simp) rfl; simp only [TQD, slotQD] at p4
      clear hA ho
      unfold Oper.wp
      simp [go_sem, p4]
      refine (pick_any w1 rb q ad len cap 4 zs hR1 (by omega) (by omega) (by omega)).mono ?_
      rintro e w2 ⟨v, hv, rfl, hR2, hg2⟩
      exact ⟨.int .i64 v, q + 1, rfl, ⟨v, hv, rfl⟩, hg2, by omega, hR2⟩
    | 6 =>
      obtain rfl := Option.some.inj ho
      refine wpOp_do rfl rfl ?_
      have p3 := hA { on := 3, ground := .data } (by simp) rfl; simp only [TQD, slotQD] at p3
      have p5 := hA { on := 5, ground := .data } (by simp) rfl; simp only [TQD, slotQD] at p5
      clear hA ho
      unfold Oper.wp
      obtain ⟨g', d', e5, hg', hb'⟩ := p3
      obtain ⟨k', hk', e7⟩ := p5
      have hk2 : (k' : Int) < 4 := by omega
      simp [go_sem, e5, e7, hk2]
      exact ⟨_, q, rfl, ⟨g', k', d', rfl, hk', hg', hb'⟩, ⟨rfl, rfl, rfl, Nat.le_refl _, fun _ _ _ => rfl⟩, by omega, hR1⟩
    | 7 =>
      obtain rfl := Option.some.inj ho
      refine wpOp_do rfl rfl ?_
      have p6 := hA { on := 6, ground := .data } (by simp) rfl; simp only [TQD, slotQD] at p6
      clear hA ho
      unfold Oper.wp
      obtain ⟨g', k', d', e8, hk', hg', hb'⟩ := p6
      obtain ⟨u, hd⟩ := pd_any d' k' hk'
      have hc := bkCell hb' hd
      simp [go_sem, e8, hc]
      exact ⟨_, q, rfl, ⟨u, rfl⟩, ⟨rfl, rfl, rfl, Nat.le_refl _, fun _ _ _ => rfl⟩, by omega, hR1⟩
    | k + 8 => exact absurd hi (by omega)
  · intro ol ho y w2 q hq hR2 hg2 hall hF
    obtain rfl := Option.some.inj ho
    refine wpOp_do rfl rfl ?_
    clear ho
    obtain ⟨d, e70⟩ := hall 7 (by omega)
    simp only [slotQD] at e70
    have e0 := (hF 0 (by simp)).trans hf0
    have e7 := (hF 7 (by simp)).trans hf7
    have e6 := hF 6 (by simp)
    have hq2 : q ≤ p + 20 := by have : q ≤ p + 2 * (8 + 2) := hq; omega
    have m2 := bkKept hm hg2 hmr
    have c6 := bkCell (k := 6) m2 hm6
    have f6 := bkFrozen (k := 6) m2
    have F := hend y w2 q d hq2 hR2 hg2
    clear hend hall hF
    rw [show ((List.range 101).map y).toArray = #[y 0, y 1, y 2, y 3, y 4, y 5, y 6, y 7, y 8, y 9, y 10, y 11, y 12, y 13, y 14, y 15, y 16, y 17, y 18, y 19, y 20, y 21, y 22, y 23, y 24, y 25, y 26, y 27, y 28, y 29, y 30, y 31, y 32, y 33, y 34, y 35, y 36, y 37, y 38, y 39, y 40, y 41, y 42, y 43, y 44, y 45, y 46, y 47, y 48, y 49, y 50, y 51, y 52, y 53, y 54, y 55, y 56, y 57, y 58, y 59, y 60, y 61, y 62, y 63, y 64, y 65, y 66, y 67, y 68, y 69, y 70, y 71, y 72, y 73, y 74, y 75, y 76, y 77, y 78, y 79, y 80, y 81, y 82, y 83, y 84, y 85, y 86, y 87, y 88, y 89, y 90, y 91, y 92, y 93, y 94, y 95, y 96, y 97, y 98, y 99, y 100] from rfl]
    rw [e0, e6, e7, e70]
    unfold Oper.wp
    simp [go_sem]
    refine wpOp_do rfl rfl ?_
    unfold Oper.wp
    simp [go_sem, c6, f6]
    exact F
end Go.Proofs.Ytcdkjlbpcihcjaa.W
