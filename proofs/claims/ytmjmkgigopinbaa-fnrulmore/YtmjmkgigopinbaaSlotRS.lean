
/-
  spec.DrawRulSees: its region that draws its order, by what each operation leaves in its slot. (Written by genslot.py.) No condition but that the reader is open.
-/
import Derived.Test.YtmjmkgigopinbaaMathSlot
import Derived.Test.YtmjmkgigopinbaaWalkRule2
import Derived.Test.YtmjmkgigopinbaaWalkRules
namespace Go.Proofs.Ytmjmkgigopinbaa.W
open Go.RowKit Go.Proofs.Ytmjmkgigopinbaa.M

/-- what each operation leaves -/
def TRS (rb B : Nat) : Nat → Value → World → Prop
  | 0 => fun v _ => v = .pointer (some ⟨rb, 0, none⟩)
  | 1 => fun v w => ∃ L : List RR, v ≠ .slice none 0 0 ∧ L.length ≤ 8 ∧ SmR L ∧ w.ownsRow B 32 4 v L.length (cellsR L)
  | 2 => fun v _ => v = .pointer (some ⟨rb, 0, none⟩)
  | 3 => fun v _ => ∃ k : Nat, k < 5 ∧ v = .int .i64 k
  | 4 => fun v w => ∃ g, v = .slice (some ⟨g, 0, none⟩) 4 4 ∧ g ≠ rb ∧ g < w.heap.size ∧ ∀ j u, (#[.string ⟨#[97]⟩, .string ⟨#[98]⟩, .string ⟨#[99]⟩, .string ⟨#[]⟩] : Array Value)[j]? = some u → w.cell? ⟨g, j, none⟩ = some u
  | 5 => fun v _ => v = .pointer (some ⟨rb, 0, none⟩)
  | 6 => fun v _ => ∃ k : Nat, k < 4 ∧ v = .int .i64 k
  | 7 => fun v w => ∃ (g j : Nat) (t : ByteArray), v = .pointer (some ⟨g, j, none⟩) ∧ g ≠ rb ∧ g < w.heap.size ∧ w.cell? ⟨g, j, none⟩ = some (.string t) ∧ t.size ≤ 64
  | 8 => fun v _ => ∃ t : ByteArray, v = .string t ∧ t.size ≤ 64
  | 9 => fun v w => ∃ L : List RR, v ≠ .slice none 0 0 ∧ L.length ≤ 8 ∧ SmR L ∧ w.ownsRow B 32 4 v L.length (cellsR L)
  | 10 => fun v _ => ∃ k : Nat, k < 5 ∧ v = .int .i64 k
  | 11 => fun v _ => ∃ t : ByteArray, v = .string t ∧ t.size ≤ 64
  | _ => fun _ _ => True
/-- its slot -/
def slotRS : Nat → Nat
  | 0 => 8
  | 1 => 9
  | 2 => 10
  | 3 => 11
  | 4 => 12
  | 5 => 13
  | 6 => 14
  | 7 => 15
  | 8 => 16
  | 9 => 2
  | 10 => 3
  | 11 => 4
  | _ => 999
theorem keepRS (rb B : Nat) (hB : rb < B) (i : Nat) (v : Value) (w w' : World) (hi : i < 12) (h : TRS rb B i v w) (hg : w.grownBy w' (some rb)) : TRS rb B i v w' := by
  have keep : ∀ g j v, g ≠ rb → g < w.heap.size → w.cell? ⟨g, j, none⟩ = some v → w'.cell? ⟨g, j, none⟩ = some v := fun g j v h1 h2 h3 => cellKept hg h3 h2 (fun e => h1 (Option.some.inj e))
  have hz := hg.size
  match i, hi with
  | 0, _ => exact h
  | 1, _ => obtain ⟨L, h1, h2, h3, h4⟩ := h; exact ⟨L, h1, h2, h3, ownsRd h4 hB hg⟩
  | 2, _ => exact h
  | 3, _ => exact h
  | 4, _ => obtain ⟨g, h1, h2, h3, h4⟩ := h; exact ⟨g, h1, h2, by omega, fun j u e => keep g j u h2 h3 (h4 j u e)⟩
  | 5, _ => exact h
  | 6, _ => exact h
  | 7, _ => obtain ⟨g, j, t, h1, h2, h3, h4, h5⟩ := h; exact ⟨g, j, t, h1, h2, by omega, keep g j _ h2 h3 h4, h5⟩
  | 8, _ => exact h
  | 9, _ => obtain ⟨L, h1, h2, h3, h4⟩ := h; exact ⟨L, h1, h2, h3, ownsRd h4 hB hg⟩
  | 10, _ => exact h
  | 11, _ => exact h
  | n + 12, hk => exact absurd hk (by omega)
set_option maxRecDepth 100000 in
set_option maxHeartbeats 4000000 in
theorem frontRS {rid : Nat} {ops : Array Oper} (hops : Try.f24.body.bind firstDrawn = some ops) {Q : Exit → Act → World → Prop} {a : Act} {w : World} {rb p : Nat} {ad : Option Addr} {len cap : Nat} {zs : Nat → Int}
    (hsz : a.tmps.size = 17) (hdf : a.defers = []) (hf5 : a.tmps[5]?.getD undef = .pointer (some ⟨rb, 0, none⟩)) (hRd : Rd w rb p ad len cap zs) (hp : p ≤ 500000) (hlt : rb < w.heap.size)
    (hend : ∀ (y : Nat → Value) (w2 : World) (q : Nat), q ≤ p + 3600 → Rd w2 rb q ad len cap zs → w.grownBy w2 (some rb) → (∀ i, i < 12 → TRS rb w.heap.size i (y (slotRS i)) w2) →
      Q .normal ⟨#[y 0, y 1, y 2, y 3, y 4, y 5, y 6, y 7, y 8, y 9, y 10, y 11, y 12, y 13, y 14, y 15, y 16], []⟩ w2) : (Code.region rid ops true).wp Try.prog Q a w := by
  simp only [Try.f24, Option.bind, firstDrawn, Option.orElse] at hops
  obtain rfl := Option.some.inj hops
  clear hops
  refine region_slots (p := p) 300 17 slotRS [5] (TRS rb w.heap.size) (by kernel_rfl) ?_ hsz hdf hRd (fun i v w1 w2 hi h hg => keepRS rb _ hlt i v w1 w2 hi h hg) ?_ ?_ ?_ ?_
  · clear hend
    intro i o ho e he hb
    match i with
    | 0 => obtain rfl := Option.some.inj ho; revert hb; revert e; decide
    | 1 => obtain rfl := Option.some.inj ho; revert hb; revert e; decide
    | 2 => obtain rfl := Option.some.inj ho; revert hb; revert e; decide
    | 3 => obtain rfl := Option.some.inj ho; revert hb; revert e; decide
    | 4 => obtain rfl := Option.some.inj ho; revert hb; revert e; decide
    | 5 => obtain rfl := Option.some.inj ho; revert hb; revert e; decide
    | 6 => obtain rfl := Option.some.inj ho; revert hb; revert e; decide
    | 7 => obtain rfl := Option.some.inj ho; revert hb; revert e; decide
    | 8 => obtain rfl := Option.some.inj ho; revert hb; revert e; decide
    | 9 => obtain rfl := Option.some.inj ho; revert hb; revert e; decide
    | 10 => obtain rfl := Option.some.inj ho; revert hb; revert e; decide
    | 11 => obtain rfl := Option.some.inj ho; revert hb; revert e; decide
    | i + 12 => cases ho
  · show ∀ i, i < 12 → ∀ j, j < 12 → slotRS i = slotRS j → i = j
    decide
  · show ∀ i, i < 12 → slotRS i < 17 ∧ ∀ s ∈ [5], slotRS i ≠ s
    decide
  · clear hend
    intro i o ho a1 w1 q hF hA hq hR1 hg1
    have hq' : q + 300 ≤ p + 300 * 12 := hq
    clear hq
    have hz1 := hg1.size
    have hl1 : rb < w1.heap.size := by omega
    have f5 := (hF 5 (by simp)).trans hf5
    clear hF
    match i with
    | 0 =>
      obtain rfl := Option.some.inj ho
      refine wpOp_do rfl rfl ?_
      clear hA ho
      unfold Oper.wp
      simp [go_sem, f5]
      exact ⟨_, q, rfl, rfl, ⟨rfl, rfl, rfl, Nat.le_refl _, fun _ _ _ => rfl⟩, by omega, hR1⟩
    | 1 =>
      obtain rfl := Option.some.inj ho
      refine wpOp_do rfl rfl ?_
      have p0 := hA { on := 0, ground := .data } (by simp) rfl; simp only [TRS, slotRS] at p0
      clear hA ho
      unfold Oper.wp
      simp [go_sem, p0]
      refine (rules_any w1 rb 9 q ad len cap zs hR1 (by omega) hl1 (by omega) (by omega)).mono ?_
      rintro e w2 ⟨v, L, q2, rfl, h1, h2, h3, h4, hq2, hR2, hg2⟩
      exact ⟨v, q2, rfl, ⟨L, h1, h2, h3, ownsDown h4 hz1⟩, hg2, by omega, hR2⟩
    | 2 =>
      obtain rfl := Option.some.inj ho
      refine wpOp_do rfl rfl ?_
      clear hA ho
      unfold Oper.wp
      simp [go_sem, f5]
      exact ⟨_, q, rfl, rfl, ⟨rfl, rfl, rfl, Nat.le_refl _, fun _ _ _ => rfl⟩, by omega, hR1⟩
    | 3 =>
      obtain rfl := Option.some.inj ho
      refine wpOp_do rfl rfl ?_
      have p2 := hA { on := 2, ground := .data } (by simp) rfl; simp only [TRS, slotRS] at p2
      clear hA ho
      unfold Oper.wp
      simp [go_sem, p2]
      refine (pick_any w1 rb q ad len cap 5 zs hR1 (by omega) (by omega) (by omega)).mono ?_
      rintro e w2 ⟨v, hv, rfl, hR2, hg2⟩
      exact ⟨.int .i64 v, q + 1, rfl, ⟨v, hv, rfl⟩, hg2, by omega, hR2⟩
    | 4 =>
      obtain rfl := Option.some.inj ho
      refine wpOp_do rfl rfl ?_
      clear hA ho
      unfold Oper.wp
      simp [go_sem]
      exact ⟨_, q, rfl, ⟨w1.heap.size, rfl, by omega, by simp, fun j u hu => (litCell (w := w1) ⟨rfl, rfl, rfl, Nat.le_refl _, fun _ _ _ => rfl⟩ hl1 j).trans hu⟩, galloc _ _, by omega, hR1.alloc hl1 _⟩
    | 5 =>
      obtain rfl := Option.some.inj ho
      refine wpOp_do rfl rfl ?_
      clear hA ho
      unfold Oper.wp
      simp [go_sem, f5]
      exact ⟨_, q, rfl, rfl, ⟨rfl, rfl, rfl, Nat.le_refl _, fun _ _ _ => rfl⟩, by omega, hR1⟩
    | 6 =>
      obtain rfl := Option.some.inj ho
      refine wpOp_do rfl rfl ?_
      have p5 := hA { on := 5, ground := .data } (by simp) rfl; simp only [TRS, slotRS] at p5
      clear hA ho
      unfold Oper.wp
      simp [go_sem, p5]
      refine (pick_any w1 rb q ad len cap 4 zs hR1 (by omega) (by omega) (by omega)).mono ?_
      rintro e w2 ⟨v, hv, rfl, hR2, hg2⟩
      exact ⟨.int .i64 v, q + 1, rfl, ⟨v, hv, rfl⟩, hg2, by omega, hR2⟩
    | 7 =>
      obtain rfl := Option.some.inj ho
      refine wpOp_do rfl rfl ?_
      have p4 := hA { on := 4, ground := .data } (by simp) rfl; simp only [TRS, slotRS] at p4
      have p6 := hA { on := 6, ground := .data } (by simp) rfl; simp only [TRS, slotRS] at p6
      clear hA ho
      unfold Oper.wp
      obtain ⟨g, e1, g1, g2, g3⟩ := p4
      obtain ⟨k', hk', e2⟩ := p6
      rcases (show k' = 0 ∨ k' = 1 ∨ k' = 2 ∨ k' = 3 from by omega) with rfl | rfl | rfl | rfl
      · simp [go_sem, e1, e2]
        exact ⟨_, q, rfl, ⟨g, 0, ⟨#[97]⟩, rfl, g1, g2, g3 0 _ rfl, by decide⟩, ⟨rfl, rfl, rfl, Nat.le_refl _, fun _ _ _ => rfl⟩, by omega, hR1⟩
      · simp [go_sem, e1, e2]
        exact ⟨_, q, rfl, ⟨g, 1, ⟨#[98]⟩, rfl, g1, g2, g3 1 _ rfl, by decide⟩, ⟨rfl, rfl, rfl, Nat.le_refl _, fun _ _ _ => rfl⟩, by omega, hR1⟩
      · simp [go_sem, e1, e2]
        exact ⟨_, q, rfl, ⟨g, 2, ⟨#[99]⟩, rfl, g1, g2, g3 2 _ rfl, by decide⟩, ⟨rfl, rfl, rfl, Nat.le_refl _, fun _ _ _ => rfl⟩, by omega, hR1⟩
      · simp [go_sem, e1, e2]
        exact ⟨_, q, rfl, ⟨g, 3, ⟨#[]⟩, rfl, g1, g2, g3 3 _ rfl, by decide⟩, ⟨rfl, rfl, rfl, Nat.le_refl _, fun _ _ _ => rfl⟩, by omega, hR1⟩
    | 8 =>
      obtain rfl := Option.some.inj ho
      refine wpOp_do rfl rfl ?_
      have p7 := hA { on := 7, ground := .data } (by simp) rfl; simp only [TRS, slotRS] at p7
      clear hA ho
      unfold Oper.wp
      obtain ⟨g, j, t, e1, g1, g2, g3, g4⟩ := p7
      simp [go_sem, e1, g3]
      exact ⟨_, q, rfl, ⟨t, rfl, g4⟩, ⟨rfl, rfl, rfl, Nat.le_refl _, fun _ _ _ => rfl⟩, by omega, hR1⟩
    | 9 =>
      obtain rfl := Option.some.inj ho
      refine wpOp_do rfl rfl ?_
      have p1 := hA { on := 1, ground := .data } (by simp) rfl; simp only [TRS, slotRS] at p1
      clear hA ho
      unfold Oper.wp
      simp [go_sem]
      exact ⟨_, q, rfl, p1, ⟨rfl, rfl, rfl, Nat.le_refl _, fun _ _ _ => rfl⟩, by omega, hR1⟩
    | 10 =>
      obtain rfl := Option.some.inj ho
      refine wpOp_do rfl rfl ?_
      have p3 := hA { on := 3, ground := .data } (by simp) rfl; simp only [TRS, slotRS] at p3
      clear hA ho
      unfold Oper.wp
      simp [go_sem]
      exact ⟨_, q, rfl, p3, ⟨rfl, rfl, rfl, Nat.le_refl _, fun _ _ _ => rfl⟩, by omega, hR1⟩
    | 11 =>
      obtain rfl := Option.some.inj ho
      refine wpOp_do rfl rfl ?_
      have p8 := hA { on := 8, ground := .data } (by simp) rfl; simp only [TRS, slotRS] at p8
      clear hA ho
      unfold Oper.wp
      simp [go_sem]
      exact ⟨_, q, rfl, p8, ⟨rfl, rfl, rfl, Nat.le_refl _, fun _ _ _ => rfl⟩, by omega, hR1⟩
    | i + 12 => cases ho
  · intro y w2 q hq hR2 hg2 hall _
    exact hend y w2 q hq hR2 hg2 hall
end Go.Proofs.Ytmjmkgigopinbaa.W
