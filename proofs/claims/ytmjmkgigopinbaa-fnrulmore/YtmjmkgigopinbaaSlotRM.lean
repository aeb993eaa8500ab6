
/-
  spec.DrawRulMay: its region that draws its order, by what each operation leaves in its slot. (Written by genslot.py.) No condition but that the reader is open.
-/
import Derived.Test.YtmjmkgigopinbaaMathSlot
import Derived.Test.YtmjmkgigopinbaaWalkRule2
import Derived.Test.YtmjmkgigopinbaaWalkRules
namespace Go.Proofs.Ytmjmkgigopinbaa.W
open Go.RowKit Go.Proofs.Ytmjmkgigopinbaa.M

/-- what each operation leaves -/
def TRM (rb B : Nat) : Nat → Value → World → Prop
  | 0 => fun v _ => v = .pointer (some ⟨rb, 0, none⟩)
  | 1 => fun v w => ∃ L : List RR, v ≠ .slice none 0 0 ∧ L.length ≤ 8 ∧ SmR L ∧ w.ownsRow B 32 4 v L.length (cellsR L)
  | 2 => fun v _ => v = .pointer (some ⟨rb, 0, none⟩)
  | 3 => fun v _ => ∃ k : Nat, k < 5 ∧ v = .int .i64 k
  | 4 => fun v w => ∃ g, v = .slice (some ⟨g, 0, none⟩) 4 4 ∧ g ≠ rb ∧ g < w.heap.size ∧ ∀ j u, (#[.string ⟨#[97]⟩, .string ⟨#[98]⟩, .string ⟨#[99]⟩, .string ⟨#[]⟩] : Array Value)[j]? = some u → w.cell? ⟨g, j, none⟩ = some u
  | 5 => fun v _ => v = .pointer (some ⟨rb, 0, none⟩)
  | 6 => fun v _ => ∃ k : Nat, k < 4 ∧ v = .int .i64 k
  | 7 => fun v w => ∃ (g j : Nat) (t : ByteArray), v = .pointer (some ⟨g, j, none⟩) ∧ g ≠ rb ∧ g < w.heap.size ∧ w.cell? ⟨g, j, none⟩ = some (.string t) ∧ t.size ≤ 64
  | 8 => fun v _ => ∃ t : ByteArray, v = .string t ∧ t.size ≤ 64
  | 9 => fun v _ => v = .pointer (some ⟨rb, 0, none⟩)
  | 10 => fun v _ => ∃ t : ByteArray, v = .string t ∧ t.size ≤ 64
  | 11 => fun v _ => v = .pointer (some ⟨rb, 0, none⟩)
  | 12 => fun v _ => ∃ k : Nat, k < 2 ∧ v = .int .i64 k
  | 13 => fun v _ => ∃ b, v = .bool b
  | 14 => fun v w => ∃ L : List RR, v ≠ .slice none 0 0 ∧ L.length ≤ 8 ∧ SmR L ∧ w.ownsRow B 32 4 v L.length (cellsR L)
  | 15 => fun v _ => ∃ k : Nat, k < 5 ∧ v = .int .i64 k
  | 16 => fun v _ => ∃ t : ByteArray, v = .string t ∧ t.size ≤ 64
  | 17 => fun v _ => ∃ t : ByteArray, v = .string t ∧ t.size ≤ 64
  | 18 => fun v _ => ∃ b, v = .bool b
  | _ => fun _ _ => True
/-- its slot -/
def slotRM : Nat → Nat
  | 0 => 10
  | 1 => 11
  | 2 => 12
  | 3 => 13
  | 4 => 14
  | 5 => 15
  | 6 => 16
  | 7 => 17
  | 8 => 18
  | 9 => 19
  | 10 => 20
  | 11 => 21
  | 12 => 22
  | 13 => 23
  | 14 => 2
  | 15 => 3
  | 16 => 4
  | 17 => 5
  | 18 => 6
  | _ => 999
theorem keepRM (rb B : Nat) (hB : rb < B) (i : Nat) (v : Value) (w w' : World) (hi : i < 19) (h : TRM rb B i v w) (hg : w.grownBy w' (some rb)) : TRM rb B i v w' := by
  have keep : ∀ g j v, g ≠ rb → g < w.heap.size → w.cell? ⟨g, j, none⟩ = some v → w'.cell? ⟨g, j, none⟩ = some v := fun g j v h1 h2 h3 => cellKept hg h3 h2 (fun e => h1 (Option.some.inj e))
  have hz := hg.size
  match i, hi with
  | 0, _ => exact h
  | 1, _ => obtain ⟨L, h1, h2, h3, h4⟩ := h; exact ⟨L, h1, h2, h3, ownsRd h4 hB hg⟩
  | 2, _ => exact h
  | 3, _ => exact h
  | 4, _ => obtain ⟨g, h1, h2, h3, h4⟩ := h; exact ⟨g, h1, h2, by omega, fun j u e => keep g j u h2 h3 (h4 j u e)⟩
  | 5, _ => exact h
  | 6, _ => exact h
  | 7, _ => obtain ⟨g, j, t, h1, h2, h3, h4, h5⟩ := h; exact ⟨g, j, t, h1, h2, by omega, keep g j _ h2 h3 h4, h5⟩
  | 8, _ => exact h
  | 9, _ => exact h
  | 10, _ => exact h
  | 11, _ => exact h
  | 12, _ => exact h
  | 13, _ => exact h
  | 14, _ => obtain ⟨L, h1, h2, h3, h4⟩ := h; exact ⟨L, h1, h2, h3, ownsRd h4 hB hg⟩
  | 15, _ => exact h
  | 16, _ => exact h
  | 17, _ => exact h
  | 18, _ => exact h
  | n + 19, hk => exact absurd hk (by omega)
set_option maxRecDepth 100000 in
set_option maxHeartbeats 4000000 in
theorem frontRM {rid : Nat} {ops : Array Oper} (hops : Try.f8.body.bind firstDrawn = some ops) {Q : Exit → Act → World → Prop} {a : Act} {w : World} {rb p : Nat} {ad : Option Addr} {len cap : Nat} {zs : Nat → Int}
    (hsz : a.tmps.size = 24) (hdf : a.defers = []) (hf7 : a.tmps[7]?.getD undef = .pointer (some ⟨rb, 0, none⟩)) (hRd : Rd w rb p ad len cap zs) (hp : p ≤ 500000) (hlt : rb < w.heap.size)
    (hend : ∀ (y : Nat → Value) (w2 : World) (q : Nat), q ≤ p + 5700 → Rd w2 rb q ad len cap zs → w.grownBy w2 (some rb) → (∀ i, i < 19 → TRM rb w.heap.size i (y (slotRM i)) w2) →
      Q .normal ⟨#[y 0, y 1, y 2, y 3, y 4, y 5, y 6, y 7, y 8, y 9, y 10, y 11, y 12, y 13, y 14, y 15, y 16, y 17, y 18, y 19, y 20, y 21, y 22, y 23], []⟩ w2) : (Code.region rid ops true).wp Try.prog Q a w := by
  simp only [Try.f8, Option.bind, firstDrawn, Option.orElse] at hops
  obtain rfl := Option.some.inj hops
  clear hops
  refine region_slots (p := p) 300 24 slotRM [7] (TRM rb w.heap.size) (by kernel_rfl) ?_ hsz hdf hRd (fun i v w1 w2 hi h hg => keepRM rb _ hlt i v w1 w2 hi h hg) ?_ ?_ ?_ ?_
  · clear hend
    intro i o ho e he hb
    match i with
    | 0 => obtain rfl := Option.some.inj ho; revert hb; revert e; decide
    | 1 => obtain rfl := Option.some.inj ho; revert hb; revert e; decide
    | 2 => obtain rfl := Option.some.inj ho; revert hb; revert e; decide
    | 3 => obtain rfl := Option.some.inj ho; revert hb; revert e; decide
    | 4 => obtain rfl := Option.some.inj ho; revert hb; revert e; decide
    | 5 => obtain rfl := Option.some.inj ho; revert hb; revert e; decide
    | 6 => obtain rfl := Option.some.inj ho; revert hb; revert e; decide
    | 7 => obtain rfl := Option.some.inj ho; revert hb; revert e; decide
    | 8 => obtain rfl := Option.some.inj ho; revert hb; revert e; decide
    | 9 => obtain rfl := Option.some.inj ho; revert hb; revert e; decide
    | 10 => obtain rfl := Option.some.inj ho; revert hb; revert e; decide
    | 11 => obtain rfl := Option.some.inj ho; revert hb; revert e; decide
    | 12 => obtain rfl := Option.some.inj ho; revert hb; revert e; decide
    | 13 => obtain rfl := Option.some.inj ho; revert hb; revert e; decide
    | 14 => obtain rfl := Option.some.inj ho; revert hb; revert e; decide
    | 15 => obtain rfl := Option.some.inj ho; revert hb; revert e; decide
    | 16 => obtain rfl := Option.some.inj ho; revert hb; revert e; decide
    | 17 => obtain rfl := Option.some.inj ho; revert hb; revert e; decide
    | 18 => obtain rfl := Option.some.inj ho; revert hb; revert e; decide
    | i + 19 => cases ho
  · show ∀ i, i < 19 → ∀ j, j < 19 → slotRM i = slotRM j → i = j
    decide
  · show ∀ i, i < 19 → slotRM i < 24 ∧ ∀ s ∈ [7], slotRM i ≠ s
    decide
  · clear hend
    intro i o ho a1 w1 q hF hA hq hR1 hg1
    have hq' : q + 300 ≤ p + 300 * 19 := hq
    clear hq
    have hz1 := hg1.size
    have hl1 : rb < w1.heap.size := by omega
    have f7 := (hF 7 (by simp)).trans hf7
    clear hF
    match i with
    | 0 =>
      obtain rfl := Option.some.inj ho
      refine wpOp_do rfl rfl ?_
      clear hA ho
      unfold Oper.wp
      simp [go_sem, f7]
      exact ⟨_, q, rfl, rfl, ⟨rfl, rfl, rfl, Nat.le_refl _, fun _ _ _ => rfl⟩, by omega, hR1⟩
    | 1 =>
      obtain rfl := Option.some.inj ho
      refine wpOp_do rfl rfl ?_
      have p0 := hA { on := 0, ground := .data } (by simp) rfl; simp only [TRM, slotRM] at p0
      clear hA ho
      unfold Oper.wp
      simp [go_sem, p0]
      refine (rules_any w1 rb 9 q ad len cap zs hR1 (by omega) hl1 (by omega) (by omega)).mono ?_
      rintro e w2 ⟨v, L, q2, rfl, h1, h2, h3, h4, hq2, hR2, hg2⟩
      exact ⟨v, q2, rfl, ⟨L, h1, h2, h3, ownsDown h4 hz1⟩, hg2, by omega, hR2⟩
    | 2 =>
      obtain rfl := Option.some.inj ho
      refine wpOp_do rfl rfl ?_
      clear hA ho
      unfold Oper.wp
      simp [go_sem, f7]
      exact ⟨_, q, rfl, rfl, ⟨rfl, rfl, rfl, Nat.le_refl _, fun _ _ _ => rfl⟩, by omega, hR1⟩
    | 3 =>
      obtain rfl := Option.some.inj ho
      refine wpOp_do rfl rfl ?_
      have p2 := hA { on := 2, ground := .data } (by simp) rfl; simp only [TRM, slotRM] at p2
      clear hA ho
      unfold Oper.wp
      simp [go_sem, p2]
      refine (pick_any w1 rb q ad len cap 5 zs hR1 (by omega) (by omega) (by omega)).mono ?_
      rintro e w2 ⟨v, hv, rfl, hR2, hg2⟩
      exact ⟨.int .i64 v, q + 1, rfl, ⟨v, hv, rfl⟩, hg2, by omega, hR2⟩
    | 4 =>
      obtain rfl := Option.some.inj ho
      refine wpOp_do rfl rfl ?_
      clear hA ho
      unfold Oper.wp
      simp [go_sem]
      exact ⟨_, q, rfl, ⟨w1.heap.size, rfl, by omega, by simp, fun j u hu => (litCell (w := w1) ⟨rfl, rfl, rfl, Nat.le_refl _, fun _ _ _ => rfl⟩ hl1 j).trans hu⟩, galloc _ _, by omega, hR1.alloc hl1 _⟩
    | 5 =>
      obtain rfl := Option.some.inj ho
      refine wpOp_do rfl rfl ?_
      clear hA ho
      unfold Oper.wp
      simp [go_sem, f7]
      exact ⟨_, q, rfl, rfl, ⟨rfl, rfl, rfl, Nat.le_refl _, fun _ _ _ => rfl⟩, by omega, hR1⟩
    | 6 =>
      obtain rfl := Option.some.inj ho
      refine wpOp_do rfl rfl ?_
      have p5 := hA { on := 5, ground := .data } (by simp) rfl; simp only [TRM, slotRM] at p5
      clear hA ho
      unfold Oper.wp
      simp [go_sem, p5]
      refine (pick_any w1 rb q ad len cap 4 zs hR1 (by omega) (by omega) (by omega)).mono ?_
      rintro e w2 ⟨v, hv, rfl, hR2, hg2⟩
      exact ⟨.int .i64 v, q + 1, rfl, ⟨v, hv, rfl⟩, hg2, by omega, hR2⟩
    | 7 =>
      obtain rfl := Option.some.inj ho
      refine wpOp_do rfl rfl ?_
      have p4 := hA { on := 4, ground := .data } (by simp) rfl; simp only [TRM, slotRM] at p4
      have p6 := hA { on := 6, ground := .data } (by simp) rfl; simp only [TRM, slotRM] at p6
      clear hA ho
      unfold Oper.wp
      obtain ⟨g, e1, g1, g2, g3⟩ := p4
      obtain ⟨k', hk', e2⟩ := p6
      rcases (show k' = 0 ∨ k' = 1 ∨ k' = 2 ∨ k' = 3 from by omega) with rfl | rfl | rfl | rfl
      · simp [go_sem, e1, e2]
        exact ⟨_, q, rfl, ⟨g, 0, ⟨#[97]⟩, rfl, g1, g2, g3 0 _ rfl, by decide⟩, ⟨rfl, rfl, rfl, Nat.le_refl _, fun _ _ _ => rfl⟩, by omega, hR1⟩
      · simp [go_sem, e1, e2]
        exact ⟨_, q, rfl, ⟨g, 1, ⟨#[98]⟩, rfl, g1, g2, g3 1 _ rfl, by decide⟩, ⟨rfl, rfl, rfl, Nat.le_refl _, fun _ _ _ => rfl⟩, by omega, hR1⟩
      · simp [go_sem, e1, e2]
        exact ⟨_, q, rfl, ⟨g, 2, ⟨#[99]⟩, rfl, g1, g2, g3 2 _ rfl, by decide⟩, ⟨rfl, rfl, rfl, Nat.le_refl _, fun _ _ _ => rfl⟩, by omega, hR1⟩
      · simp [go_sem, e1, e2]
        exact ⟨_, q, rfl, ⟨g, 3, ⟨#[]⟩, rfl, g1, g2, g3 3 _ rfl, by decide⟩, ⟨rfl, rfl, rfl, Nat.le_refl _, fun _ _ _ => rfl⟩, by omega, hR1⟩
    | 8 =>
      obtain rfl := Option.some.inj ho
      refine wpOp_do rfl rfl ?_
      have p7 := hA { on := 7, ground := .data } (by simp) rfl; simp only [TRM, slotRM] at p7
      clear hA ho
      unfold Oper.wp
      obtain ⟨g, j, t, e1, g1, g2, g3, g4⟩ := p7
      simp [go_sem, e1, g3]
      exact ⟨_, q, rfl, ⟨t, rfl, g4⟩, ⟨rfl, rfl, rfl, Nat.le_refl _, fun _ _ _ => rfl⟩, by omega, hR1⟩
    | 9 =>
      obtain rfl := Option.some.inj ho
      refine wpOp_do rfl rfl ?_
      clear hA ho
      unfold Oper.wp
      simp [go_sem, f7]
      exact ⟨_, q, rfl, rfl, ⟨rfl, rfl, rfl, Nat.le_refl _, fun _ _ _ => rfl⟩, by omega, hR1⟩
    | 10 =>
      obtain rfl := Option.some.inj ho
      refine wpOp_do rfl rfl ?_
      have p9 := hA { on := 9, ground := .data } (by simp) rfl; simp only [TRM, slotRM] at p9
      clear hA ho
      unfold Oper.wp
      simp [go_sem, p9]
      refine (anyPath_any w1 rb q 9 ad len cap zs hR1 (by omega) hl1 (by omega) (by omega)).mono ?_
      rintro e w2 ⟨s, q2, rfl, hs, hq2, hR2, hg2⟩
      exact ⟨.string s, q2, rfl, ⟨s, rfl, hs⟩, hg2, by omega, hR2⟩
    | 11 =>
      obtain rfl := Option.some.inj ho
      refine wpOp_do rfl rfl ?_
      clear hA ho
      unfold Oper.wp
      simp [go_sem, f7]
      exact ⟨_, q, rfl, rfl, ⟨rfl, rfl, rfl, Nat.le_refl _, fun _ _ _ => rfl⟩, by omega, hR1⟩
    | 12 =>
      obtain rfl := Option.some.inj ho
      refine wpOp_do rfl rfl ?_
      have p11 := hA { on := 11, ground := .data } (by simp) rfl; simp only [TRM, slotRM] at p11
      clear hA ho
      unfold Oper.wp
      simp [go_sem, p11]
      refine (pick_any w1 rb q ad len cap 2 zs hR1 (by omega) (by omega) (by omega)).mono ?_
      rintro e w2 ⟨v, hv, rfl, hR2, hg2⟩
      exact ⟨.int .i64 v, q + 1, rfl, ⟨v, hv, rfl⟩, hg2, by omega, hR2⟩
    | 13 =>
      obtain rfl := Option.some.inj ho
      refine wpOp_do rfl rfl ?_
      have p12 := hA { on := 12, ground := .data } (by simp) rfl; simp only [TRM, slotRM] at p12
      clear hA ho
      unfold Oper.wp
      obtain ⟨k', hk', e2⟩ := p12
      rcases (show k' = 0 ∨ k' = 1 from by omega) with rfl | rfl
      · simp [go_sem, e2]
        exact ⟨_, q, rfl, ⟨_, rfl⟩, ⟨rfl, rfl, rfl, Nat.le_refl _, fun _ _ _ => rfl⟩, by omega, hR1⟩
      · simp [go_sem, e2]
        exact ⟨_, q, rfl, ⟨_, rfl⟩, ⟨rfl, rfl, rfl, Nat.le_refl _, fun _ _ _ => rfl⟩, by omega, hR1⟩
    | 14 =>
      obtain rfl := Option.some.inj ho
      refine wpOp_do rfl rfl ?_
      have p1 := hA { on := 1, ground := .data } (by simp) rfl; simp only [TRM, slotRM] at p1
      clear hA ho
      unfold Oper.wp
      simp [go_sem]
      exact ⟨_, q, rfl, p1, ⟨rfl, rfl, rfl, Nat.le_refl _, fun _ _ _ => rfl⟩, by omega, hR1⟩
    | 15 =>
      obtain rfl := Option.some.inj ho
      refine wpOp_do rfl rfl ?_
      have p3 := hA { on := 3, ground := .data } (by simp) rfl; simp only [TRM, slotRM] at p3
      clear hA ho
      unfold Oper.wp
      simp [go_sem]
      exact ⟨_, q, rfl, p3, ⟨rfl, rfl, rfl, Nat.le_refl _, fun _ _ _ => rfl⟩, by omega, hR1⟩
    | 16 =>
      obtain rfl := Option.some.inj ho
      refine wpOp_do rfl rfl ?_
      have p8 := hA { on := 8, ground := .data } (by simp) rfl; simp only [TRM, slotRM] at p8
      clear hA ho
      unfold Oper.wp
      simp [go_sem]
      exact ⟨_, q, rfl, p8, ⟨rfl, rfl, rfl, Nat.le_refl _, fun _ _ _ => rfl⟩, by omega, hR1⟩
    | 17 =>
      obtain rfl := Option.some.inj ho
      refine wpOp_do rfl rfl ?_
      have p10 := hA { on := 10, ground := .data } (by simp) rfl; simp only [TRM, slotRM] at p10
      clear hA ho
      unfold Oper.wp
      simp [go_sem]
      exact ⟨_, q, rfl, p10, ⟨rfl, rfl, rfl, Nat.le_refl _, fun _ _ _ => rfl⟩, by omega, hR1⟩
    | 18 =>
      obtain rfl := Option.some.inj ho
      refine wpOp_do rfl rfl ?_
      have p13 := hA { on := 13, ground := .data } (by simp) rfl; simp only [TRM, slotRM] at p13
      clear hA ho
      unfold Oper.wp
      simp [go_sem]
      exact ⟨_, q, rfl, p13, ⟨rfl, rfl, rfl, Nat.le_refl _, fun _ _ _ => rfl⟩, by omega, hR1⟩
    | i + 19 => cases ho
  · intro y w2 q hq hR2 hg2 hall _
    exact hend y w2 q hq hR2 hg2 hall
end Go.Proofs.Ytmjmkgigopinbaa.W
