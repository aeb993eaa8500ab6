
/-
  The walk of the draw of a rule. (Written by genrel2.py.) No condition but that the reader is open.
-/
import Derived.Test.YtcdkjlbpcihcjaaWalkRule
namespace Go.Proofs.Ytcdkjlbpcihcjaa.W
open Go.RowKit Go.Proofs.Ytcdkjlbpcihcjaa.M

theorem blk_new (w : World) (o : Obj) : (w.alloc o).heap[w.heap.size]? = some o := by
  show (w.heap.push o)[w.heap.size]? = _
  simp
/-- the first region of a body that draws its order -/
def firstDrawn : Code → Option (Array Oper)
  | .region _ ops true => some ops
  | .seq a b => (firstDrawn a).orElse fun _ => firstDrawn b
  | _ => none
theorem gset (w : World) (g j : Nat) (u : Value) : w.grownBy (w.setCell ⟨g, j, none⟩ u) (some g) :=
  ⟨rfl, rfl, rfl, by simp [World.setCell], fun k _ hn => Below.heap_setCell _ _ _ _ (fun e => hn (by rw [e]))⟩
set_option maxRecDepth 100000 in
set_option maxHeartbeats 4000000 in
/-- the first region of the draw of a rule, in every order: a rule lies in new memory, and the reader has gone on -/
theorem rule_front {rid : Nat} {ops : Array Oper} (hops : Try.f25.body.bind firstDrawn = some ops) {Q : Exit → Act → World → Prop} {a : Act} {w : World} {rb p : Nat} {ad : Option Addr} {len cap : Nat} {zs : Nat → Int} {x1 x4 : Value}
    (hJ : Jn w rb p ad len cap zs x1 x4 0 a w) (hp : p ≤ 900000) (hlt : rb < w.heap.size)
    (hend : ∀ (y : Nat → Value) (w2 : World) (q g : Nat) (x : RR), q ≤ p + 18 → Rd w2 rb q ad len cap zs → w.grownBy w2 (some rb) → g ≠ rb → w.heap.size ≤ g → w2.heap[g]? = some (.cells #[.int .i64 x.user, .string x.ref, .string x.path, .bool x.write] 25 (0, 0)) → 0 ≤ x.user → x.user ≤ 4 → x.ref.size ≤ 3 → x.path.size ≤ 3 →
      Q .normal ⟨#[.pointer (some ⟨rb, 0, none⟩), x1, y 2, y 3, x4, .pointer (some ⟨g, 0, none⟩), y 6, y 7, y 8, y 9, y 10, y 11, y 12, y 13, y 14, y 15, y 16, y 17, y 18, y 19, y 20, y 21, y 22, y 23, y 24, y 25, y 26, y 27, y 28, y 29, y 30, y 31, y 32, y 33, y 34, y 35, y 36, y 37, y 38, y 39, y 40, y 41, y 42, y 43, y 44, y 45, y 46, y 47, y 48], []⟩ w2) : (Code.region rid ops true).wp Try.prog Q a w := by
  simp only [Try.f25, Option.bind, firstDrawn, Option.orElse] at hops
  obtain rfl := Option.some.inj hops
  clear hops
  refine region_inv (In w rb w.heap.size p ad len cap zs x1 x4) (by kernel_rfl) ?_ ?_ ?_ ?_
  · clear hend
    intro i o ho e he hb
    match i with
    | 0 => obtain rfl := Option.some.inj ho; clear hb; revert e; decide
    | 1 => obtain rfl := Option.some.inj ho; clear hb; revert e; decide
    | 2 => obtain rfl := Option.some.inj ho; clear hb; revert e; decide
    | 3 => obtain rfl := Option.some.inj ho; clear hb; revert e; decide
    | 4 => obtain rfl := Option.some.inj ho; clear hb; revert e; decide
    | 5 => obtain rfl := Option.some.inj ho; clear hb; revert e; decide
    | 6 => obtain rfl := Option.some.inj ho; clear hb; revert e; decide
    | 7 => obtain rfl := Option.some.inj ho; clear hb; revert e; decide
    | 8 => obtain rfl := Option.some.inj ho; clear hb; revert e; decide
    | 9 => obtain rfl := Option.some.inj ho; clear hb; revert e; decide
    | 10 => obtain rfl := Option.some.inj ho; clear hb; revert e; decide
    | 11 => obtain rfl := Option.some.inj ho; clear hb; revert e; decide
    | 12 => obtain rfl := Option.some.inj ho; clear hb; revert e; decide
    | 13 => obtain rfl := Option.some.inj ho; clear hb; revert e; decide
    | 14 => obtain rfl := Option.some.inj ho; clear hb; revert e; decide
    | 15 => obtain rfl := Option.some.inj ho; clear hb; revert e; decide
    | 16 => obtain rfl := Option.some.inj ho; clear hb; revert e; decide
    | 17 => obtain rfl := Option.some.inj ho; clear hb; revert e; decide
    | i + 18 => cases ho
  · obtain ⟨j1, j2, j3, j4, j5, ⟨q, j6, j7⟩, j8⟩ := hJ
    exact ⟨⟨j1, j2, j3, j4, j5, ⟨q, j6, j7.drew⟩, gdrew' _⟩, fun h => h.elim, fun _ _ h => h.elim⟩
  · clear hend hJ
    intro i o ho S m a1 w1 hm hI hni _ hA hD
    match i with
    | 0 =>
      obtain rfl := Option.some.inj ho
      refine wpOp_do rfl rfl ?_
      have h17 : ¬ S 17 := fun s => hni (hD 17 _ rfl s { on := 0, ground := .phase } (by simp) rfl)
      have hm' : m < 18 := hm
      obtain ⟨j1, j2, j3, j4, j5, ⟨q, j6, j7⟩, j8⟩ := hI.1
      have hz1 := j8.size
      have hl1 : rb < w1.heap.size := by omega
      clear hD ho hA
      unfold Oper.wp
      simp [go_sem, j3]
      exact fin (a := a1) (w := w1) 0 6 (.pointer (some ⟨rb, 0, none⟩)) (by omega) rfl hI hni h17 (fun a' e => e) ⟨rfl, rfl, rfl, Nat.le_refl _, fun _ _ _ => rfl⟩ ⟨q, by omega, j7⟩
    | 1 =>
      obtain rfl := Option.some.inj ho
      refine wpOp_do rfl rfl ?_
      have h17 : ¬ S 17 := fun s => hni (hD 17 _ rfl s { on := 1, ground := .phase } (by simp) rfl)
      have hm' : m < 18 := hm
      obtain ⟨j1, j2, j3, j4, j5, ⟨q, j6, j7⟩, j8⟩ := hI.1
      have hz1 := j8.size
      have hl1 : rb < w1.heap.size := by omega
      have p0 := hI.2.2 h17 0 (hA { on := 0, ground := .data } (by simp) rfl) (by omega); simp only [rel] at p0
      clear hD ho hA
      unfold Oper.wp
      simp [go_sem, p0]
      refine (pick_any w1 rb q ad len cap 4 zs j7 (by omega) (by omega) (by omega)).mono ?_
      rintro e w2 ⟨v, hv, rfl, hR2, hg2⟩
      exact fin (a := a1) (w := w1) 1 7 (.int .i64 v) (by omega) rfl hI hni h17 (fun a' e => ⟨v, hv, e⟩) hg2 ⟨q + 1, by omega, hR2⟩
    | 2 =>
      obtain rfl := Option.some.inj ho
      refine wpOp_do rfl rfl ?_
      have h17 : ¬ S 17 := fun s => hni (hD 17 _ rfl s { on := 2, ground := .phase } (by simp) rfl)
      have hm' : m < 18 := hm
      obtain ⟨j1, j2, j3, j4, j5, ⟨q, j6, j7⟩, j8⟩ := hI.1
      have hz1 := j8.size
      have hl1 : rb < w1.heap.size := by omega
      clear hD ho hA
      unfold Oper.wp
      simp [go_sem]
      exact fin (a := a1) (w := w1) 2 8 (.slice (some ⟨w1.heap.size, 0, none⟩) 4 4) (by omega) rfl hI hni h17 (fun a' e => ⟨w1.heap.size, e, by omega, by simp, fun j u hu => (litCell (w := w1) ⟨rfl, rfl, rfl, Nat.le_refl _, fun _ _ _ => rfl⟩ hl1 j).trans hu⟩) (galloc _ _) ⟨q, by omega, j7.alloc hl1 _⟩
    | 3 =>
      obtain rfl := Option.some.inj ho
      refine wpOp_do rfl rfl ?_
      have h17 : ¬ S 17 := fun s => hni (hD 17 _ rfl s { on := 3, ground := .phase } (by simp) rfl)
      have hm' : m < 18 := hm
      obtain ⟨j1, j2, j3, j4, j5, ⟨q, j6, j7⟩, j8⟩ := hI.1
      have hz1 := j8.size
      have hl1 : rb < w1.heap.size := by omega
      clear hD ho hA
      unfold Oper.wp
      simp [go_sem, j3]
      exact fin (a := a1) (w := w1) 3 9 (.pointer (some ⟨rb, 0, none⟩)) (by omega) rfl hI hni h17 (fun a' e => e) ⟨rfl, rfl, rfl, Nat.le_refl _, fun _ _ _ => rfl⟩ ⟨q, by omega, j7⟩
    | 4 =>
      obtain rfl := Option.some.inj ho
      refine wpOp_do rfl rfl ?_
      have h17 : ¬ S 17 := fun s => hni (hD 17 _ rfl s { on := 4, ground := .phase } (by simp) rfl)
      have hm' : m < 18 := hm
      obtain ⟨j1, j2, j3, j4, j5, ⟨q, j6, j7⟩, j8⟩ := hI.1
      have hz1 := j8.size
      have hl1 : rb < w1.heap.size := by omega
      have p3 := hI.2.2 h17 3 (hA { on := 3, ground := .data } (by simp) rfl) (by omega); simp only [rel] at p3
      clear hD ho hA
      unfold Oper.wp
      simp [go_sem, p3]
      refine (pick_any w1 rb q ad len cap 4 zs j7 (by omega) (by omega) (by omega)).mono ?_
      rintro e w2 ⟨v, hv, rfl, hR2, hg2⟩
      exact fin (a := a1) (w := w1) 4 10 (.int .i64 v) (by omega) rfl hI hni h17 (fun a' e => ⟨v, hv, e⟩) hg2 ⟨q + 1, by omega, hR2⟩
    | 5 =>
      obtain rfl := Option.some.inj ho
      refine wpOp_do rfl rfl ?_
      have h17 : ¬ S 17 := fun s => hni (hD 17 _ rfl s { on := 5, ground := .phase } (by simp) rfl)
      have hm' : m < 18 := hm
      obtain ⟨j1, j2, j3, j4, j5, ⟨q, j6, j7⟩, j8⟩ := hI.1
      have hz1 := j8.size
      have hl1 : rb < w1.heap.size := by omega
      have p2 := hI.2.2 h17 2 (hA { on := 2, ground := .data } (by simp) rfl) (by omega); simp only [rel] at p2
      have p4 := hI.2.2 h17 4 (hA { on := 4, ground := .data } (by simp) rfl) (by omega); simp only [rel] at p4
      clear hD ho hA
      unfold Oper.wp
      obtain ⟨g, e1, g1, g2, g3⟩ := p2
      obtain ⟨n', hn', e2⟩ := p4
      rcases (show n' = 0 ∨ n' = 1 ∨ n' = 2 ∨ n' = 3 from by omega) with rfl | rfl | rfl | rfl
      · simp [go_sem, e1, e2]
        exact fin (a := a1) (w := w1) 5 11 (.pointer (some ⟨g, 0, none⟩)) (by omega) rfl hI hni h17 (fun a' e => ⟨g, 0, ⟨#[]⟩, e, g1, g2, g3 0 _ rfl, by decide⟩) ⟨rfl, rfl, rfl, Nat.le_refl _, fun _ _ _ => rfl⟩ ⟨q, by omega, j7⟩
      · simp [go_sem, e1, e2]
        exact fin (a := a1) (w := w1) 5 11 (.pointer (some ⟨g, 1, none⟩)) (by omega) rfl hI hni h17 (fun a' e => ⟨g, 1, ⟨#[97]⟩, e, g1, g2, g3 1 _ rfl, by decide⟩) ⟨rfl, rfl, rfl, Nat.le_refl _, fun _ _ _ => rfl⟩ ⟨q, by omega, j7⟩
      · simp [go_sem, e1, e2]
        exact fin (a := a1) (w := w1) 5 11 (.pointer (some ⟨g, 2, none⟩)) (by omega) rfl hI hni h17 (fun a' e => ⟨g, 2, ⟨#[98]⟩, e, g1, g2, g3 2 _ rfl, by decide⟩) ⟨rfl, rfl, rfl, Nat.le_refl _, fun _ _ _ => rfl⟩ ⟨q, by omega, j7⟩
      · simp [go_sem, e1, e2]
        exact fin (a := a1) (w := w1) 5 11 (.pointer (some ⟨g, 3, none⟩)) (by omega) rfl hI hni h17 (fun a' e => ⟨g, 3, ⟨#[99]⟩, e, g1, g2, g3 3 _ rfl, by decide⟩) ⟨rfl, rfl, rfl, Nat.le_refl _, fun _ _ _ => rfl⟩ ⟨q, by omega, j7⟩
    | 6 =>
      obtain rfl := Option.some.inj ho
      refine wpOp_do rfl rfl ?_
      have h17 : ¬ S 17 := fun s => hni (hD 17 _ rfl s { on := 6, ground := .phase } (by simp) rfl)
      have hm' : m < 18 := hm
      obtain ⟨j1, j2, j3, j4, j5, ⟨q, j6, j7⟩, j8⟩ := hI.1
      have hz1 := j8.size
      have hl1 : rb < w1.heap.size := by omega
      have p5 := hI.2.2 h17 5 (hA { on := 5, ground := .data } (by simp) rfl) (by omega); simp only [rel] at p5
      clear hD ho hA
      unfold Oper.wp
      obtain ⟨g, j, t, e1, g1, g2, g3, g4⟩ := p5
      simp [go_sem, e1, g3]
      exact fin (a := a1) (w := w1) 6 12 (.string t) (by omega) rfl hI hni h17 (fun a' e => ⟨t, e, g4⟩) ⟨rfl, rfl, rfl, Nat.le_refl _, fun _ _ _ => rfl⟩ ⟨q, by omega, j7⟩
    | 7 =>
      obtain rfl := Option.some.inj ho
      refine wpOp_do rfl rfl ?_
      have h17 : ¬ S 17 := fun s => hni (hD 17 _ rfl s { on := 7, ground := .phase } (by simp) rfl)
      have hm' : m < 18 := hm
      obtain ⟨j1, j2, j3, j4, j5, ⟨q, j6, j7⟩, j8⟩ := hI.1
      have hz1 := j8.size
      have hl1 : rb < w1.heap.size := by omega
      clear hD ho hA
      unfold Oper.wp
      simp [go_sem]
      exact fin (a := a1) (w := w1) 7 13 (.slice (some ⟨w1.heap.size, 0, none⟩) 5 5) (by omega) rfl hI hni h17 (fun a' e => ⟨w1.heap.size, e, by omega, by simp, fun j u hu => (litCell (w := w1) ⟨rfl, rfl, rfl, Nat.le_refl _, fun _ _ _ => rfl⟩ hl1 j).trans hu⟩) (galloc _ _) ⟨q, by omega, j7.alloc hl1 _⟩
    | 8 =>
      obtain rfl := Option.some.inj ho
      refine wpOp_do rfl rfl ?_
      have h17 : ¬ S 17 := fun s => hni (hD 17 _ rfl s { on := 8, ground := .phase } (by simp) rfl)
      have hm' : m < 18 := hm
      obtain ⟨j1, j2, j3, j4, j5, ⟨q, j6, j7⟩, j8⟩ := hI.1
      have hz1 := j8.size
      have hl1 : rb < w1.heap.size := by omega
      clear hD ho hA
      unfold Oper.wp
      simp [go_sem, j3]
      exact fin (a := a1) (w := w1) 8 14 (.pointer (some ⟨rb, 0, none⟩)) (by omega) rfl hI hni h17 (fun a' e => e) ⟨rfl, rfl, rfl, Nat.le_refl _, fun _ _ _ => rfl⟩ ⟨q, by omega, j7⟩
    | 9 =>
      obtain rfl := Option.some.inj ho
      refine wpOp_do rfl rfl ?_
      have h17 : ¬ S 17 := fun s => hni (hD 17 _ rfl s { on := 9, ground := .phase } (by simp) rfl)
      have hm' : m < 18 := hm
      obtain ⟨j1, j2, j3, j4, j5, ⟨q, j6, j7⟩, j8⟩ := hI.1
      have hz1 := j8.size
      have hl1 : rb < w1.heap.size := by omega
      have p8 := hI.2.2 h17 8 (hA { on := 8, ground := .data } (by simp) rfl) (by omega); simp only [rel] at p8
      clear hD ho hA
      unfold Oper.wp
      simp [go_sem, p8]
      refine (pick_any w1 rb q ad len cap 5 zs j7 (by omega) (by omega) (by omega)).mono ?_
      rintro e w2 ⟨v, hv, rfl, hR2, hg2⟩
      exact fin (a := a1) (w := w1) 9 15 (.int .i64 v) (by omega) rfl hI hni h17 (fun a' e => ⟨v, hv, e⟩) hg2 ⟨q + 1, by omega, hR2⟩
    | 10 =>
      obtain rfl := Option.some.inj ho
      refine wpOp_do rfl rfl ?_
      have h17 : ¬ S 17 := fun s => hni (hD 17 _ rfl s { on := 10, ground := .phase } (by simp) rfl)
      have hm' : m < 18 := hm
      obtain ⟨j1, j2, j3, j4, j5, ⟨q, j6, j7⟩, j8⟩ := hI.1
      have hz1 := j8.size
      have hl1 : rb < w1.heap.size := by omega
      have p7 := hI.2.2 h17 7 (hA { on := 7, ground := .data } (by simp) rfl) (by omega); simp only [rel] at p7
      have p9 := hI.2.2 h17 9 (hA { on := 9, ground := .data } (by simp) rfl) (by omega); simp only [rel] at p9
      clear hD ho hA
      unfold Oper.wp
      obtain ⟨g, e1, g1, g2, g3⟩ := p7
      obtain ⟨n', hn', e2⟩ := p9
      rcases (show n' = 0 ∨ n' = 1 ∨ n' = 2 ∨ n' = 3 ∨ n' = 4 from by omega) with rfl | rfl | rfl | rfl | rfl
      · simp [go_sem, e1, e2]
        exact fin (a := a1) (w := w1) 10 16 (.pointer (some ⟨g, 0, none⟩)) (by omega) rfl hI hni h17 (fun a' e => ⟨g, 0, ⟨#[]⟩, e, g1, g2, g3 0 _ rfl, by decide⟩) ⟨rfl, rfl, rfl, Nat.le_refl _, fun _ _ _ => rfl⟩ ⟨q, by omega, j7⟩
      · simp [go_sem, e1, e2]
        exact fin (a := a1) (w := w1) 10 16 (.pointer (some ⟨g, 1, none⟩)) (by omega) rfl hI hni h17 (fun a' e => ⟨g, 1, ⟨#[]⟩, e, g1, g2, g3 1 _ rfl, by decide⟩) ⟨rfl, rfl, rfl, Nat.le_refl _, fun _ _ _ => rfl⟩ ⟨q, by omega, j7⟩
      · simp [go_sem, e1, e2]
        exact fin (a := a1) (w := w1) 10 16 (.pointer (some ⟨g, 2, none⟩)) (by omega) rfl hI hni h17 (fun a' e => ⟨g, 2, ⟨#[97]⟩, e, g1, g2, g3 2 _ rfl, by decide⟩) ⟨rfl, rfl, rfl, Nat.le_refl _, fun _ _ _ => rfl⟩ ⟨q, by omega, j7⟩
      · simp [go_sem, e1, e2]
        exact fin (a := a1) (w := w1) 10 16 (.pointer (some ⟨g, 3, none⟩)) (by omega) rfl hI hni h17 (fun a' e => ⟨g, 3, ⟨#[98]⟩, e, g1, g2, g3 3 _ rfl, by decide⟩) ⟨rfl, rfl, rfl, Nat.le_refl _, fun _ _ _ => rfl⟩ ⟨q, by omega, j7⟩
      · simp [go_sem, e1, e2]
        exact fin (a := a1) (w := w1) 10 16 (.pointer (some ⟨g, 4, none⟩)) (by omega) rfl hI hni h17 (fun a' e => ⟨g, 4, ⟨#[97, 47, 98]⟩, e, g1, g2, g3 4 _ rfl, by decide⟩) ⟨rfl, rfl, rfl, Nat.le_refl _, fun _ _ _ => rfl⟩ ⟨q, by omega, j7⟩
    | 11 =>
      obtain rfl := Option.some.inj ho
      refine wpOp_do rfl rfl ?_
      have h17 : ¬ S 17 := fun s => hni (hD 17 _ rfl s { on := 11, ground := .phase } (by simp) rfl)
      have hm' : m < 18 := hm
      obtain ⟨j1, j2, j3, j4, j5, ⟨q, j6, j7⟩, j8⟩ := hI.1
      have hz1 := j8.size
      have hl1 : rb < w1.heap.size := by omega
      have p10 := hI.2.2 h17 10 (hA { on := 10, ground := .data } (by simp) rfl) (by omega); simp only [rel] at p10
      clear hD ho hA
      unfold Oper.wp
      obtain ⟨g, j, t, e1, g1, g2, g3, g4⟩ := p10
      simp [go_sem, e1, g3]
      exact fin (a := a1) (w := w1) 11 17 (.string t) (by omega) rfl hI hni h17 (fun a' e => ⟨t, e, g4⟩) ⟨rfl, rfl, rfl, Nat.le_refl _, fun _ _ _ => rfl⟩ ⟨q, by omega, j7⟩
    | 12 =>
      obtain rfl := Option.some.inj ho
      refine wpOp_do rfl rfl ?_
      have h17 : ¬ S 17 := fun s => hni (hD 17 _ rfl s { on := 12, ground := .phase } (by simp) rfl)
      have hm' : m < 18 := hm
      obtain ⟨j1, j2, j3, j4, j5, ⟨q, j6, j7⟩, j8⟩ := hI.1
      have hz1 := j8.size
      have hl1 : rb < w1.heap.size := by omega
      clear hD ho hA
      unfold Oper.wp
      simp [go_sem, j3]
      exact fin (a := a1) (w := w1) 12 18 (.pointer (some ⟨rb, 0, none⟩)) (by omega) rfl hI hni h17 (fun a' e => e) ⟨rfl, rfl, rfl, Nat.le_refl _, fun _ _ _ => rfl⟩ ⟨q, by omega, j7⟩
    | 13 =>
      obtain rfl := Option.some.inj ho
      refine wpOp_do rfl rfl ?_
      have h17 : ¬ S 17 := fun s => hni (hD 17 _ rfl s { on := 13, ground := .phase } (by simp) rfl)
      have hm' : m < 18 := hm
      obtain ⟨j1, j2, j3, j4, j5, ⟨q, j6, j7⟩, j8⟩ := hI.1
      have hz1 := j8.size
      have hl1 : rb < w1.heap.size := by omega
      have p12 := hI.2.2 h17 12 (hA { on := 12, ground := .data } (by simp) rfl) (by omega); simp only [rel] at p12
      clear hD ho hA
      unfold Oper.wp
      simp [go_sem, p12]
      refine (pick_any w1 rb q ad len cap 2 zs j7 (by omega) (by omega) (by omega)).mono ?_
      rintro e w2 ⟨v, hv, rfl, hR2, hg2⟩
      exact fin (a := a1) (w := w1) 13 19 (.int .i64 v) (by omega) rfl hI hni h17 (fun a' e => ⟨v, hv, e⟩) hg2 ⟨q + 1, by omega, hR2⟩
    | 14 =>
      obtain rfl := Option.some.inj ho
      refine wpOp_do rfl rfl ?_
      have h17 : ¬ S 17 := fun s => hni (hD 17 _ rfl s { on := 14, ground := .phase } (by simp) rfl)
      have hm' : m < 18 := hm
      obtain ⟨j1, j2, j3, j4, j5, ⟨q, j6, j7⟩, j8⟩ := hI.1
      have hz1 := j8.size
      have hl1 : rb < w1.heap.size := by omega
      have p13 := hI.2.2 h17 13 (hA { on := 13, ground := .data } (by simp) rfl) (by omega); simp only [rel] at p13
      clear hD ho hA
      unfold Oper.wp
      obtain ⟨n', hn', e2⟩ := p13
      rcases (show n' = 0 ∨ n' = 1 from by omega) with rfl | rfl
      · simp [go_sem, e2]
        exact fin (a := a1) (w := w1) 14 20 (.bool true) (by omega) rfl hI hni h17 (fun a' e => ⟨true, e⟩) ⟨rfl, rfl, rfl, Nat.le_refl _, fun _ _ _ => rfl⟩ ⟨q, by omega, j7⟩
      · simp [go_sem, e2]
        exact fin (a := a1) (w := w1) 14 20 (.bool false) (by omega) rfl hI hni h17 (fun a' e => ⟨false, e⟩) ⟨rfl, rfl, rfl, Nat.le_refl _, fun _ _ _ => rfl⟩ ⟨q, by omega, j7⟩
    | 15 =>
      obtain rfl := Option.some.inj ho
      refine wpOp_do rfl rfl ?_
      have h17 : ¬ S 17 := fun s => hni (hD 17 _ rfl s { on := 15, ground := .phase } (by simp) rfl)
      have hm' : m < 18 := hm
      obtain ⟨j1, j2, j3, j4, j5, ⟨q, j6, j7⟩, j8⟩ := hI.1
      have hz1 := j8.size
      have hl1 : rb < w1.heap.size := by omega
      have p1 := hI.2.2 h17 1 (hA { on := 1, ground := .data } (by simp) rfl) (by omega); simp only [rel] at p1
      have p6 := hI.2.2 h17 6 (hA { on := 6, ground := .data } (by simp) rfl) (by omega); simp only [rel] at p6
      have p11 := hI.2.2 h17 11 (hA { on := 11, ground := .data } (by simp) rfl) (by omega); simp only [rel] at p11
      have p14 := hI.2.2 h17 14 (hA { on := 14, ground := .data } (by simp) rfl) (by omega); simp only [rel] at p14
      clear hD ho hA
      unfold Oper.wp
      obtain ⟨n', hn', e1⟩ := p1
      obtain ⟨t1, e2, z2⟩ := p6
      obtain ⟨t2, e3, z3⟩ := p11
      obtain ⟨b', e4⟩ := p14
      simp [go_sem, e1, e2, e3, e4]
      exact fin (a := a1) (w := w1) 15 21 (.agg #[.int .i64 n', .string t1, .string t2, .bool b']) (by omega) rfl hI hni h17 (fun a' e => ⟨⟨n', t1, t2, b'⟩, e, by show (0 : Int) ≤ (n' : Int); omega, by show (n' : Int) ≤ 4; omega, z2, z3⟩) ⟨rfl, rfl, rfl, Nat.le_refl _, fun _ _ _ => rfl⟩ ⟨q, by omega, j7⟩
    | 16 =>
      obtain rfl := Option.some.inj ho
      refine wpOp_do rfl rfl ?_
      have h17 : ¬ S 17 := fun s => hni (hD 17 _ rfl s { on := 16, ground := .phase } (by simp) rfl)
      have hm' : m < 18 := hm
      obtain ⟨j1, j2, j3, j4, j5, ⟨q, j6, j7⟩, j8⟩ := hI.1
      have hz1 := j8.size
      have hl1 : rb < w1.heap.size := by omega
      clear hD ho hA
      unfold Oper.wp
      simp [go_sem]
      exact fin (a := a1) (w := w1) 16 5 (.pointer (some ⟨w1.heap.size, 0, none⟩)) (by omega) rfl hI hni h17 (fun a' e => ⟨w1.heap.size, e, by omega, by omega, blk_new _ _⟩) (galloc _ _) ⟨q, by omega, j7.alloc hl1 _⟩
    | 17 =>
      obtain rfl := Option.some.inj ho
      refine wpOp_do rfl rfl ?_
      have h17 : ¬ S 17 := hni
      have hm' : m < 18 := hm
      obtain ⟨j1, j2, j3, j4, j5, ⟨q, j6, j7⟩, j8⟩ := hI.1
      have hz1 := j8.size
      have hl1 : rb < w1.heap.size := by omega
      have p16 := hI.2.2 h17 16 (hA { on := 16, ground := .data } (by simp) rfl) (by omega); simp only [rel] at p16
      have p15 := hI.2.2 h17 15 (hA { on := 15, ground := .data } (by simp) rfl) (by omega); simp only [rel] at p15
      clear hD ho hA
      unfold Oper.wp
      obtain ⟨g, e1, g1, g2, b0⟩ := p16
      obtain ⟨x, e2, z1, z2, z3, z4⟩ := p15
      have b1 := blk_set (k := 0) (v := .int .i64 x.user) b0
      have b2 := blk_set (k := 1) (v := .string x.ref) b1
      have b3 := blk_set (k := 2) (v := .string x.path) b2
      have b4 := blk_set (k := 3) (v := .bool x.write) b3
      have c0 := blk_cell (k := 0) b0 rfl; have f0 := blk_frozen (k := 0) b0
      have c1 := blk_cell (k := 1) b1 rfl; have f1 := blk_frozen (k := 1) b1
      have c2 := blk_cell (k := 2) b2 rfl; have f2 := blk_frozen (k := 2) b2
      have c3 := blk_cell (k := 3) b3 rfl; have f3 := blk_frozen (k := 3) b3
      simp [go_sem, e1, e2, c0, c1, c2, c3, f0, f1, f2, f3]
      have G := gtrans (gtrans (gtrans (gset w1 g 0 (.int .i64 x.user)) (gset _ g 1 (.string x.ref))) (gset _ g 2 (.string x.path))) (gset _ g 3 (.bool x.write))
      exact ⟨⟨j1, j2, j3, j4, j5, ⟨q, by omega, j7.kept G (fun r e => by cases e; omega) hl1⟩, G.os.trans j8.os, G.tape.trans j8.tape, G.output.trans j8.output, Nat.le_trans j8.size G.size, fun j hj hne => (G.block j (Nat.lt_of_lt_of_le hj j8.size) (fun e => by cases e; omega)).trans (j8.block j hj hne)⟩, fun _ => ⟨g, x, e1, g1, g2, b4, z1, z2, z3, z4⟩, fun h => absurd (.inr rfl) h⟩
    | i + 18 => cases ho
  · intro S m a2 w2 hm hI hall
    have hm' : m ≤ 18 := hm
    obtain ⟨⟨j1, j2, j3, j4, j5, ⟨q, j6, j7⟩, j8⟩, h17, _⟩ := hI
    have r17 := h17 (hall 17 (show 17 < 18 by omega))
    simp only [rel] at r17
    obtain ⟨g, x, e5, g1, g2, g3, z1, z2, z3, z4⟩ := r17
    obtain ⟨tm, df⟩ := a2
    simp only at j1 j2 j3 j4 j5 e5
    subst j2
    have ht : tm = #[tm[0]?.getD undef, tm[1]?.getD undef, tm[2]?.getD undef, tm[3]?.getD undef, tm[4]?.getD undef, tm[5]?.getD undef, tm[6]?.getD undef, tm[7]?.getD undef, tm[8]?.getD undef, tm[9]?.getD undef, tm[10]?.getD undef, tm[11]?.getD undef, tm[12]?.getD undef, tm[13]?.getD undef, tm[14]?.getD undef, tm[15]?.getD undef, tm[16]?.getD undef, tm[17]?.getD undef, tm[18]?.getD undef, tm[19]?.getD undef, tm[20]?.getD undef, tm[21]?.getD undef, tm[22]?.getD undef, tm[23]?.getD undef, tm[24]?.getD undef, tm[25]?.getD undef, tm[26]?.getD undef, tm[27]?.getD undef, tm[28]?.getD undef, tm[29]?.getD undef, tm[30]?.getD undef, tm[31]?.getD undef, tm[32]?.getD undef, tm[33]?.getD undef, tm[34]?.getD undef, tm[35]?.getD undef, tm[36]?.getD undef, tm[37]?.getD undef, tm[38]?.getD undef, tm[39]?.getD undef, tm[40]?.getD undef, tm[41]?.getD undef, tm[42]?.getD undef, tm[43]?.getD undef, tm[44]?.getD undef, tm[45]?.getD undef, tm[46]?.getD undef, tm[47]?.getD undef, tm[48]?.getD undef] := act_lit (a := ⟨tm, []⟩) j1
    rw [j3, j4, j5, e5] at ht
    have F := hend (fun k => tm[k]?.getD undef) w2 q g x (by omega) j7 j8 g1 g2 g3 z1 z2 z3 z4
    rw [ht]
    exact F
end Go.Proofs.Ytcdkjlbpcihcjaa.W
