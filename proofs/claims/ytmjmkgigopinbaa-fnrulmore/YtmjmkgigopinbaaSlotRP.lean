
/-
  A rule of a list is picked: the region of the draws of RulPut and RulOut that draws its order. (Written by genslot2.py.) No condition but that the reader is open and the list is not empty.
-/
import Derived.Test.YtmjmkgigopinbaaMathSlot2
import Derived.Test.YtmjmkgigopinbaaWalkRules
namespace Go.Proofs.Ytmjmkgigopinbaa.W
open Go.RowKit Go.Proofs.Ytmjmkgigopinbaa.M

/-- the first region that draws, in a body with branches -/
def drawnIn : Code → Option (Array Oper)
  | .region _ ops true => some ops
  | .seq a b => (drawnIn a).orElse fun _ => drawnIn b
  | .cond _ a b => (drawnIn a).orElse fun _ => drawnIn b
  | _ => none
/-- what each operation leaves -/
def TRP (rb b o c : Nat) (L : List RR) : Nat → Value → World → Prop
  | 0 => fun v _ => v = .slice (some ⟨b, o, none⟩) L.length c
  | 1 => fun v _ => v = .slice (some ⟨b, o, none⟩) L.length c
  | 2 => fun v _ => v = .pointer (some ⟨rb, 0, none⟩)
  | 3 => fun v _ => v = .slice (some ⟨b, o, none⟩) L.length c
  | 4 => fun v _ => v = .int .i64 L.length
  | 5 => fun v _ => ∃ k : Nat, k < L.length ∧ v = .int .i64 k
  | 6 => fun v _ => ∃ k : Nat, k < L.length ∧ v = .pointer (some ⟨b, o + k * 4, none⟩)
  | 7 => fun v _ => ∃ x : RR, x ∈ L ∧ v = .agg #[.int .i64 x.user, .string x.ref, .string x.path, .bool x.write]
  | 8 => fun v _ => v = .slice (some ⟨b, o, none⟩) L.length c
  | _ => fun _ _ => True
/-- its slot -/
def slotRP : Nat → Nat
  | 0 => 18
  | 1 => 19
  | 2 => 20
  | 3 => 21
  | 4 => 22
  | 5 => 23
  | 6 => 24
  | 7 => 25
  | 8 => 2
  | _ => 999
set_option maxRecDepth 100000 in
set_option maxHeartbeats 4000000 in
theorem frontRP {rid : Nat} {ops : Array Oper} (hops : Try.f14.body.bind drawnIn = some ops) {Q : Exit → Act → World → Prop} {a : Act} {w : World} {rb p R b o c : Nat} {L : List RR} {ad : Option Addr} {len cap : Nat} {zs : Nat → Int}
    (hsz : a.tmps.size = 29) (hdf : a.defers = []) (hf3 : a.tmps[3]?.getD undef = .pointer (some ⟨R, 0, none⟩)) (hf4 : a.tmps[4]?.getD undef = .pointer (some ⟨rb, 0, none⟩)) (hf5 : a.tmps[5]?.getD undef = .slice (some ⟨b, o, none⟩) L.length c)
    (hRd : Rd w rb p ad len cap zs) (hp : p ≤ 500000) (hlt : rb < w.heap.size) (hL1 : 0 < L.length) (hL2 : L.length ≤ 100)
    (hO : ∀ w1, w.grownBy w1 (some rb) → RdR w1.heap.size w1 (some ⟨b, o, none⟩) L)
    (hR0 : ∀ w1, w.grownBy w1 (some rb) → w1.heap[R]? = some (.cells #[.int .i64 0, .string ⟨#[]⟩, .string ⟨#[]⟩, .bool false] 32 (0, 0)))
    (hend : ∀ (y : Nat → Value) (w2 : World) (x : RR), x ∈ L → w.grownBy w2 (some rb) → w2.heap[R]? = some (.cells #[.int .i64 0, .string ⟨#[]⟩, .string ⟨#[]⟩, .bool false] 32 (0, 0)) →
      Q .normal ⟨#[y 0, y 1, .slice (some ⟨b, o, none⟩) L.length c, .pointer (some ⟨R, 0, none⟩), y 4, y 5, y 6, y 7, y 8, y 9, y 10, y 11, y 12, y 13, y 14, y 15, y 16, y 17, y 18, y 19, y 20, y 21, y 22, y 23, y 24, y 25, y 26, y 27, y 28], []⟩ ((((w2.setCell ⟨R, 0, none⟩ (.int .i64 x.user)).setCell ⟨R, 1, none⟩ (.string x.ref)).setCell ⟨R, 2, none⟩ (.string x.path)).setCell ⟨R, 3, none⟩ (.bool x.write))) : (Code.region rid ops true).wp Try.prog Q a w := by
  simp only [Try.f14, Option.bind, drawnIn, Option.orElse] at hops
  obtain rfl := Option.some.inj hops
  clear hops
  refine region_slots_last (p := p) 9 2 29 slotRP [3, 4, 5] (TRP rb b o c L) rfl (by kernel_rfl) ?_ hsz hdf hRd ?_ ?_ ?_ ?_ ?_ ?_
  · clear hend
    intro i o ho e he hb
    match i with
    | 0 => obtain rfl := Option.some.inj ho; revert hb; revert e; decide
    | 1 => obtain rfl := Option.some.inj ho; revert hb; revert e; decide
    | 2 => obtain rfl := Option.some.inj ho; revert hb; revert e; decide
    | 3 => obtain rfl := Option.some.inj ho; revert hb; revert e; decide
    | 4 => obtain rfl := Option.some.inj ho; revert hb; revert e; decide
    | 5 => obtain rfl := Option.some.inj ho; revert hb; revert e; decide
    | 6 => obtain rfl := Option.some.inj ho; revert hb; revert e; decide
    | 7 => obtain rfl := Option.some.inj ho; revert hb; revert e; decide
    | 8 => obtain rfl := Option.some.inj ho; revert hb; revert e; decide
    | 9 => obtain rfl := Option.some.inj ho; revert hb; revert e; decide
    | i + 10 => cases ho
  · intro i v w1 w2 hi h _
    match i, hi with
    | 0, _ => exact h
    | 1, _ => exact h
    | 2, _ => exact h
    | 3, _ => exact h
    | 4, _ => exact h
    | 5, _ => exact h
    | 6, _ => exact h
    | 7, _ => exact h
    | 8, _ => exact h
    | n + 9, hk => exact absurd hk (by omega)
  · decide
  · decide
  · intro ol ho
    obtain rfl := Option.some.inj ho
    decide
  · clear hend
    intro i o ho hi a1 w1 q hF hA hq hR1 hg1
    have hq' : q + 2 ≤ p + 2 * 10 := hq
    clear hq
    have hz1 := hg1.size
    have hl1 : rb < w1.heap.size := by omega
    have f3 := (hF 3 (by simp)).trans hf3
    have f4 := (hF 4 (by simp)).trans hf4
    have f5 := (hF 5 (by simp)).trans hf5
    have hRdR := hO w1 hg1
    clear hF hO
    match i with
    | 0 =>
      obtain rfl := Option.some.inj ho
      refine wpOp_do rfl rfl ?_
      clear hA ho
      unfold Oper.wp
      simp [go_sem, f5]
      exact ⟨_, q, rfl, rfl, ⟨rfl, rfl, rfl, Nat.le_refl _, fun _ _ _ => rfl⟩, by omega, hR1⟩
    | 1 =>
      obtain rfl := Option.some.inj ho
      refine wpOp_do rfl rfl ?_
      clear hA ho
      unfold Oper.wp
      simp [go_sem, f5]
      exact ⟨_, q, rfl, rfl, ⟨rfl, rfl, rfl, Nat.le_refl _, fun _ _ _ => rfl⟩, by omega, hR1⟩
    | 2 =>
      obtain rfl := Option.some.inj ho
      refine wpOp_do rfl rfl ?_
      clear hA ho
      unfold Oper.wp
      simp [go_sem, f4]
      exact ⟨_, q, rfl, rfl, ⟨rfl, rfl, rfl, Nat.le_refl _, fun _ _ _ => rfl⟩, by omega, hR1⟩
    | 3 =>
      obtain rfl := Option.some.inj ho
      refine wpOp_do rfl rfl ?_
      clear hA ho
      unfold Oper.wp
      simp [go_sem, f5]
      exact ⟨_, q, rfl, rfl, ⟨rfl, rfl, rfl, Nat.le_refl _, fun _ _ _ => rfl⟩, by omega, hR1⟩
    | 4 =>
      obtain rfl := Option.some.inj ho
      refine wpOp_do rfl rfl ?_
      have p3 := hA { on := 3, ground := .data } (by simp) rfl; simp only [TRP, slotRP] at p3
      clear hA ho
      unfold Oper.wp
      simp [go_sem, p3]
      exact ⟨_, q, rfl, rfl, ⟨rfl, rfl, rfl, Nat.le_refl _, fun _ _ _ => rfl⟩, by omega, hR1⟩
    | 5 =>
      obtain rfl := Option.some.inj ho
      refine wpOp_do rfl rfl ?_
      have p2 := hA { on := 2, ground := .data } (by simp) rfl; simp only [TRP, slotRP] at p2
      have p4 := hA { on := 4, ground := .data } (by simp) rfl; simp only [TRP, slotRP] at p4
      clear hA ho
      unfold Oper.wp
      simp [go_sem, p2, p4]
      refine (pick_any w1 rb q ad len cap L.length zs hR1 (by omega) (by omega) (by omega)).mono ?_
      rintro e w2 ⟨v, hv, rfl, hR2, hg2⟩
      exact ⟨.int .i64 v, q + 1, rfl, ⟨v, hv, rfl⟩, hg2, by omega, hR2⟩
    | 6 =>
      obtain rfl := Option.some.inj ho
      refine wpOp_do rfl rfl ?_
      have p1 := hA { on := 1, ground := .data } (by simp) rfl; simp only [TRP, slotRP] at p1
      have p5 := hA { on := 5, ground := .data } (by simp) rfl; simp only [TRP, slotRP] at p5
      clear hA ho
      unfold Oper.wp
      obtain ⟨k', hk', e2⟩ := p5
      simp [go_sem, p1, e2, hk']
      exact ⟨_, q, rfl, ⟨k', hk', rfl⟩, ⟨rfl, rfl, rfl, Nat.le_refl _, fun _ _ _ => rfl⟩, by omega, hR1⟩
    | 7 =>
      obtain rfl := Option.some.inj ho
      refine wpOp_do rfl rfl ?_
      have p6 := hA { on := 6, ground := .data } (by simp) rfl; simp only [TRP, slotRP] at p6
      clear hA ho
      unfold Oper.wp
      obtain ⟨k', hk', e2⟩ := p6
      obtain ⟨bb, oo, eq, hbl, c1, c2, c3, c4⟩ := hRdR k' hk'
      cases eq
      simp [go_sem, e2, c1, c2, c3, c4]
      exact ⟨_, q, rfl, ⟨L[k'], List.getElem_mem hk', rfl⟩, ⟨rfl, rfl, rfl, Nat.le_refl _, fun _ _ _ => rfl⟩, by omega, hR1⟩
    | 8 =>
      obtain rfl := Option.some.inj ho
      refine wpOp_do rfl rfl ?_
      have p0 := hA { on := 0, ground := .data } (by simp) rfl; simp only [TRP, slotRP] at p0
      clear hA ho
      unfold Oper.wp
      simp [go_sem, p0]
      exact ⟨_, q, rfl, rfl, ⟨rfl, rfl, rfl, Nat.le_refl _, fun _ _ _ => rfl⟩, by omega, hR1⟩
    | i + 9 => exact absurd hi (by omega)
  · intro ol ho y w2 q hR2 hg2 hall hF
    obtain rfl := Option.some.inj ho
    refine wpOp_do rfl rfl ?_
    clear ho
    obtain ⟨x, hx, e7⟩ := hall 7 (by omega)
    have e8 := hall 8 (by omega)
    simp only [TRP, slotRP] at e7 e8
    have e3 := (hF 3 (by simp)).trans hf3
    have F := hend y w2 x hx hg2 (hR0 w2 hg2)
    have b0 := hR0 w2 hg2
    have b1 := blk_set (k := 0) (v := .int .i64 x.user) b0
    have b2 := blk_set (k := 1) (v := .string x.ref) b1
    have b3 := blk_set (k := 2) (v := .string x.path) b2
    have b4 := blk_set (k := 3) (v := .bool x.write) b3
    have c0 := blk_cell (k := 0) b0 rfl; have g0 := blk_frozen (k := 0) b0
    have c1 := blk_cell (k := 1) b1 rfl; have g1 := blk_frozen (k := 1) b1
    have c2 := blk_cell (k := 2) b2 rfl; have g2 := blk_frozen (k := 2) b2
    have c3 := blk_cell (k := 3) b3 rfl; have g3 := blk_frozen (k := 3) b3
    clear hend hall hF hO hR0
    rw [show ((List.range 29).map y).toArray = #[y 0, y 1, y 2, y 3, y 4, y 5, y 6, y 7, y 8, y 9, y 10, y 11, y 12, y 13, y 14, y 15, y 16, y 17, y 18, y 19, y 20, y 21, y 22, y 23, y 24, y 25, y 26, y 27, y 28] from rfl]
    rw [e3, e7, e8]
    rw [e7] at F
    unfold Oper.wp
    simp [go_sem, c0, c1, c2, c3, g0, g1, g2, g3]
    exact F
set_option maxRecDepth 100000 in
set_option maxHeartbeats 4000000 in
theorem frontRO {rid : Nat} {ops : Array Oper} (hops : Try.f21.body.bind drawnIn = some ops) {Q : Exit → Act → World → Prop} {a : Act} {w : World} {rb p R b o c : Nat} {L : List RR} {ad : Option Addr} {len cap : Nat} {zs : Nat → Int}
    (hsz : a.tmps.size = 29) (hdf : a.defers = []) (hf3 : a.tmps[3]?.getD undef = .pointer (some ⟨R, 0, none⟩)) (hf4 : a.tmps[4]?.getD undef = .pointer (some ⟨rb, 0, none⟩)) (hf5 : a.tmps[5]?.getD undef = .slice (some ⟨b, o, none⟩) L.length c)
    (hRd : Rd w rb p ad len cap zs) (hp : p ≤ 500000) (hlt : rb < w.heap.size) (hL1 : 0 < L.length) (hL2 : L.length ≤ 100)
    (hO : ∀ w1, w.grownBy w1 (some rb) → RdR w1.heap.size w1 (some ⟨b, o, none⟩) L)
    (hR0 : ∀ w1, w.grownBy w1 (some rb) → w1.heap[R]? = some (.cells #[.int .i64 0, .string ⟨#[]⟩, .string ⟨#[]⟩, .bool false] 32 (0, 0)))
    (hend : ∀ (y : Nat → Value) (w2 : World) (x : RR), x ∈ L → w.grownBy w2 (some rb) → w2.heap[R]? = some (.cells #[.int .i64 0, .string ⟨#[]⟩, .string ⟨#[]⟩, .bool false] 32 (0, 0)) →
      Q .normal ⟨#[y 0, y 1, .slice (some ⟨b, o, none⟩) L.length c, .pointer (some ⟨R, 0, none⟩), y 4, y 5, y 6, y 7, y 8, y 9, y 10, y 11, y 12, y 13, y 14, y 15, y 16, y 17, y 18, y 19, y 20, y 21, y 22, y 23, y 24, y 25, y 26, y 27, y 28], []⟩ ((((w2.setCell ⟨R, 0, none⟩ (.int .i64 x.user)).setCell ⟨R, 1, none⟩ (.string x.ref)).setCell ⟨R, 2, none⟩ (.string x.path)).setCell ⟨R, 3, none⟩ (.bool x.write))) : (Code.region rid ops true).wp Try.prog Q a w := by
  simp only [Try.f21, Option.bind, drawnIn, Option.orElse] at hops
  obtain rfl := Option.some.inj hops
  clear hops
  refine region_slots_last (p := p) 9 2 29 slotRP [3, 4, 5] (TRP rb b o c L) rfl (by kernel_rfl) ?_ hsz hdf hRd ?_ ?_ ?_ ?_ ?_ ?_
  · clear hend
    intro i o ho e he hb
    match i with
    | 0 => obtain rfl := Option.some.inj ho; revert hb; revert e; decide
    | 1 => obtain rfl := Option.some.inj ho; revert hb; revert e; decide
    | 2 => obtain rfl := Option.some.inj ho; revert hb; revert e; decide
    | 3 => obtain rfl := Option.some.inj ho; revert hb; revert e; decide
    | 4 => obtain rfl := Option.some.inj ho; revert hb; revert e; decide
    | 5 => obtain rfl := Option.some.inj ho; revert hb; revert e; decide
    | 6 => obtain rfl := Option.some.inj ho; revert hb; revert e; decide
    | 7 => obtain rfl := Option.some.inj ho; revert hb; revert e; decide
    | 8 => obtain rfl := Option.some.inj ho; revert hb; revert e; decide
    | 9 => obtain rfl := Option.some.inj ho; revert hb; revert e; decide
    | i + 10 => cases ho
  · intro i v w1 w2 hi h _
    match i, hi with
    | 0, _ => exact h
    | 1, _ => exact h
    | 2, _ => exact h
    | 3, _ => exact h
    | 4, _ => exact h
    | 5, _ => exact h
    | 6, _ => exact h
    | 7, _ => exact h
    | 8, _ => exact h
    | n + 9, hk => exact absurd hk (by omega)
  · decide
  · decide
  · intro ol ho
    obtain rfl := Option.some.inj ho
    decide
  · clear hend
    intro i o ho hi a1 w1 q hF hA hq hR1 hg1
    have hq' : q + 2 ≤ p + 2 * 10 := hq
    clear hq
    have hz1 := hg1.size
    have hl1 : rb < w1.heap.size := by omega
    have f3 := (hF 3 (by simp)).trans hf3
    have f4 := (hF 4 (by simp)).trans hf4
    have f5 := (hF 5 (by simp)).trans hf5
    have hRdR := hO w1 hg1
    clear hF hO
    match i with
    | 0 =>
      obtain rfl := Option.some.inj ho
      refine wpOp_do rfl rfl ?_
      clear hA ho
      unfold Oper.wp
      simp [go_sem, f5]
      exact ⟨_, q, rfl, rfl, ⟨rfl, rfl, rfl, Nat.le_refl _, fun _ _ _ => rfl⟩, by omega, hR1⟩
    | 1 =>
      obtain rfl := Option.some.inj ho
      refine wpOp_do rfl rfl ?_
      clear hA ho
      unfold Oper.wp
      simp [go_sem, f5]
      exact ⟨_, q, rfl, rfl, ⟨rfl, rfl, rfl, Nat.le_refl _, fun _ _ _ => rfl⟩, by omega, hR1⟩
    | 2 =>
      obtain rfl := Option.some.inj ho
      refine wpOp_do rfl rfl ?_
      clear hA ho
      unfold Oper.wp
      simp [go_sem, f4]
      exact ⟨_, q, rfl, rfl, ⟨rfl, rfl, rfl, Nat.le_refl _, fun _ _ _ => rfl⟩, by omega, hR1⟩
    | 3 =>
      obtain rfl := Option.some.inj ho
      refine wpOp_do rfl rfl ?_
      clear hA ho
      unfold Oper.wp
      simp [go_sem, f5]
      exact ⟨_, q, rfl, rfl, ⟨rfl, rfl, rfl, Nat.le_refl _, fun _ _ _ => rfl⟩, by omega, hR1⟩
    | 4 =>
      obtain rfl := Option.some.inj ho
      refine wpOp_do rfl rfl ?_
      have p3 := hA { on := 3, ground := .data } (by simp) rfl; simp only [TRP, slotRP] at p3
      clear hA ho
      unfold Oper.wp
      simp [go_sem, p3]
      exact ⟨_, q, rfl, rfl, ⟨rfl, rfl, rfl, Nat.le_refl _, fun _ _ _ => rfl⟩, by omega, hR1⟩
    | 5 =>
      obtain rfl := Option.some.inj ho
      refine wpOp_do rfl rfl ?_
      have p2 := hA { on := 2, ground := .data } (by simp) rfl; simp only [TRP, slotRP] at p2
      have p4 := hA { on := 4, ground := .data } (by simp) rfl; simp only [TRP, slotRP] at p4
      clear hA ho
      unfold Oper.wp
      simp [go_sem, p2, p4]
      refine (pick_any w1 rb q ad len cap L.length zs hR1 (by omega) (by omega) (by omega)).mono ?_
      rintro e w2 ⟨v, hv, rfl, hR2, hg2⟩
      exact ⟨.int .i64 v, q + 1, rfl, ⟨v, hv, rfl⟩, hg2, by omega, hR2⟩
    | 6 =>
      obtain rfl := Option.some.inj ho
      refine wpOp_do rfl rfl ?_
      have p1 := hA { on := 1, ground := .data } (by simp) rfl; simp only [TRP, slotRP] at p1
      have p5 := hA { on := 5, ground := .data } (by simp) rfl; simp only [TRP, slotRP] at p5
      clear hA ho
      unfold Oper.wp
      obtain ⟨k', hk', e2⟩ := p5
      simp [go_sem, p1, e2, hk']
      exact ⟨_, q, rfl, ⟨k', hk', rfl⟩, ⟨rfl, rfl, rfl, Nat.le_refl _, fun _ _ _ => rfl⟩, by omega, hR1⟩
    | 7 =>
      obtain rfl := Option.some.inj ho
      refine wpOp_do rfl rfl ?_
      have p6 := hA { on := 6, ground := .data } (by simp) rfl; simp only [TRP, slotRP] at p6
      clear hA ho
      unfold Oper.wp
      obtain ⟨k', hk', e2⟩ := p6
      obtain ⟨bb, oo, eq, hbl, c1, c2, c3, c4⟩ := hRdR k' hk'
      cases eq
      simp [go_sem, e2, c1, c2, c3, c4]
      exact ⟨_, q, rfl, ⟨L[k'], List.getElem_mem hk', rfl⟩, ⟨rfl, rfl, rfl, Nat.le_refl _, fun _ _ _ => rfl⟩, by omega, hR1⟩
    | 8 =>
      obtain rfl := Option.some.inj ho
      refine wpOp_do rfl rfl ?_
      have p0 := hA { on := 0, ground := .data } (by simp) rfl; simp only [TRP, slotRP] at p0
      clear hA ho
      unfold Oper.wp
      simp [go_sem, p0]
      exact ⟨_, q, rfl, rfl, ⟨rfl, rfl, rfl, Nat.le_refl _, fun _ _ _ => rfl⟩, by omega, hR1⟩
    | i + 9 => exact absurd hi (by omega)
  · intro ol ho y w2 q hR2 hg2 hall hF
    obtain rfl := Option.some.inj ho
    refine wpOp_do rfl rfl ?_
    clear ho
    obtain ⟨x, hx, e7⟩ := hall 7 (by omega)
    have e8 := hall 8 (by omega)
    simp only [TRP, slotRP] at e7 e8
    have e3 := (hF 3 (by simp)).trans hf3
    have F := hend y w2 x hx hg2 (hR0 w2 hg2)
    have b0 := hR0 w2 hg2
    have b1 := blk_set (k := 0) (v := .int .i64 x.user) b0
    have b2 := blk_set (k := 1) (v := .string x.ref) b1
    have b3 := blk_set (k := 2) (v := .string x.path) b2
    have b4 := blk_set (k := 3) (v := .bool x.write) b3
    have c0 := blk_cell (k := 0) b0 rfl; have g0 := blk_frozen (k := 0) b0
    have c1 := blk_cell (k := 1) b1 rfl; have g1 := blk_frozen (k := 1) b1
    have c2 := blk_cell (k := 2) b2 rfl; have g2 := blk_frozen (k := 2) b2
    have c3 := blk_cell (k := 3) b3 rfl; have g3 := blk_frozen (k := 3) b3
    clear hend hall hF hO hR0
    rw [show ((List.range 29).map y).toArray = #[y 0, y 1, y 2, y 3, y 4, y 5, y 6, y 7, y 8, y 9, y 10, y 11, y 12, y 13, y 14, y 15, y 16, y 17, y 18, y 19, y 20, y 21, y 22, y 23, y 24, y 25, y 26, y 27, y 28] from rfl]
    rw [e3, e7, e8]
    rw [e7] at F
    unfold Oper.wp
    simp [go_sem, c0, c1, c2, c3, g0, g1, g2, g3]
    exact F
end Go.Proofs.Ytmjmkgigopinbaa.W
