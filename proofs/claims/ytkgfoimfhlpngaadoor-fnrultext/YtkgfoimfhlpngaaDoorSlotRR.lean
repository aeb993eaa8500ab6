
/-
  Four words are read into a rule, in a new block: the regions of RulRead, of the specification and of the program, that draw their order. (Written by genslote.py.) No condition but those named.
-/
import Derived.Test.YtkgfoimfhlpngaaDoorMathSlotE
import Derived.Test.YtkgfoimfhlpngaaDoorMathAt
import Derived.Test.YtkgfoimfhlpngaaDoorMathRulR
namespace Go.Proofs.YtkgfoimfhlpngaaDoor.W
open Go.RowKit Go.Proofs.YtkgfoimfhlpngaaDoor.M
set_option linter.unusedVariables false

/-- the first region that draws -/
def drawnE : Code → Option (Array Oper)
  | .region _ ops true => some ops
  | .seq a b => (drawnE a).orElse fun _ => drawnE b
  | .cond _ a b => (drawnE a).orElse fun _ => drawnE b
  | _ => none
theorem isWrite (l : List UInt8) : (l == [119, 114, 105, 116, 101]) = decide (l = writeL) := by
  show (l == writeL) = _
  by_cases h : l = writeL
  · subst h; decide
  · rw [decide_eq_false h, beq_eq_false_iff_ne]; exact h
/-- what each operation leaves -/
def TSR (base g c : Nat) (N : Int → Prop) (wa wb wc wd : List UInt8) : Nat → Value → World → Prop
  | 0 => fun v _ => v = .slice (some ⟨g, 0, none⟩) 4 c
  | 1 => fun v _ => v = .pointer (some ⟨g, 0, none⟩)
  | 2 => fun v _ => v = .string ⟨wa.toArray⟩
  | 3 => fun v _ => ∃ n, N n ∧ v = .int .i64 n
  | 4 => fun v _ => v = .slice (some ⟨g, 0, none⟩) 4 c
  | 5 => fun v _ => v = .pointer (some ⟨g, 1, none⟩)
  | 6 => fun v _ => v = .string ⟨wb.toArray⟩
  | 7 => fun v _ => v = .string (noneB ⟨wb.toArray⟩)
  | 8 => fun v _ => v = .slice (some ⟨g, 0, none⟩) 4 c
  | 9 => fun v _ => v = .pointer (some ⟨g, 2, none⟩)
  | 10 => fun v _ => v = .string ⟨wc.toArray⟩
  | 11 => fun v _ => v = .string (noneB ⟨wc.toArray⟩)
  | 12 => fun v _ => v = .slice (some ⟨g, 0, none⟩) 4 c
  | 13 => fun v _ => v = .pointer (some ⟨g, 3, none⟩)
  | 14 => fun v _ => v = .string ⟨wd.toArray⟩
  | 15 => fun v _ => v = .bool (decide (wd = writeL))
  | 16 => fun v _ => ∃ n, N n ∧ v = .agg #[.int .i64 n, .string (noneB ⟨wb.toArray⟩), .string (noneB ⟨wc.toArray⟩), .bool (decide (wd = writeL))]
  | 17 => fun v W => ∃ k, v = .pointer (some ⟨k, 0, none⟩) ∧ base ≤ k ∧ k < W.heap.size ∧ AtC W k #[.int .i64 0, .string ⟨#[]⟩, .string ⟨#[]⟩, .bool false]
  | _ => fun _ _ => True
/-- its slot -/
def slotSR : Nat → Nat
  | 0 => 12
  | 1 => 13
  | 2 => 14
  | 3 => 15
  | 4 => 16
  | 5 => 17
  | 6 => 18
  | 7 => 19
  | 8 => 20
  | 9 => 21
  | 10 => 22
  | 11 => 23
  | 12 => 24
  | 13 => 25
  | 14 => 26
  | 15 => 27
  | 16 => 28
  | 17 => 5
  | _ => 999
set_option maxRecDepth 100000 in
set_option maxHeartbeats 4000000 in
theorem frontSR {rid : Nat} {ops : Array Oper} (hops : Tryd.f5.body.bind drawnE = some ops) {Q : Exit → Act → World → Prop} {a : Act} {w : World} {g c R : Nat} {s : ByteArray} {wa wb wc wd : List UInt8} {N : Int → Prop}
    (hsz : a.tmps.size = 40) (hdf : a.defers = []) (hf0 : a.tmps[0]?.getD undef = .string s) (hf2 : a.tmps[2]?.getD undef = .pointer (some ⟨R, 0, none⟩)) (hf4 : a.tmps[4]?.getD undef = .slice (some ⟨g, 0, none⟩) 4 c)
    (hO : ∀ s w1, Calls Tryd.prog 15 #[.string s] w1 fun e w' => e = .returned (.string (noneB s)) ∧ w1 = w')
    (hN : ∀ w1, Calls Tryd.prog 14 #[.string ⟨wa.toArray⟩] w1 fun e w' => (∃ n : Int, e = .returned (.int .i64 n) ∧ N n) ∧ w1 = w')
    (hlt : g < w.heap.size) (hc0 : w.cell? ⟨g, 0, none⟩ = some (.string ⟨wa.toArray⟩)) (hc1 : w.cell? ⟨g, 1, none⟩ = some (.string ⟨wb.toArray⟩)) (hc2 : w.cell? ⟨g, 2, none⟩ = some (.string ⟨wc.toArray⟩)) (hc3 : w.cell? ⟨g, 3, none⟩ = some (.string ⟨wd.toArray⟩))
    (hend : ∀ (y : Nat → Value) (w2 : World) (k : Nat) (n : Int), N n → Below w.heap.size w w2 → w.heap.size ≤ k → k < w2.heap.size → AtC w2 k #[.int .i64 n, .string (noneB ⟨wb.toArray⟩), .string (noneB ⟨wc.toArray⟩), .bool (decide (wd = writeL))] →
      Q .normal ⟨#[.string s, y 1, .pointer (some ⟨R, 0, none⟩), y 3, y 4, .pointer (some ⟨k, 0, none⟩), y 6, y 7, y 8, y 9, y 10, y 11, y 12, y 13, y 14, y 15, y 16, y 17, y 18, y 19, y 20, y 21, y 22, y 23, y 24, y 25, y 26, y 27, y 28, y 29, y 30, y 31, y 32, y 33, y 34, y 35, y 36, y 37, y 38, y 39], []⟩ w2) : (Code.region rid ops true).wp Tryd.prog Q a w := by
  simp only [Tryd.f5, Option.bind, drawnE, Option.orElse] at hops
  obtain rfl := Option.some.inj hops
  clear hops
  refine region_ext_last 18 40 slotSR [0, 2, 4] (TSR w.heap.size g c N wa wb wc wd) rfl (by kernel_rfl) ?_ hsz hdf ?_ ?_ ?_ ?_ ?_ ?_
  · clear hend
    intro i o ho e he hb
    match i with
    | 0 => obtain rfl := Option.some.inj ho; revert hb; revert e; decide
    | 1 => obtain rfl := Option.some.inj ho; revert hb; revert e; decide
    | 2 => obtain rfl := Option.some.inj ho; revert hb; revert e; decide
    | 3 => obtain rfl := Option.some.inj ho; revert hb; revert e; decide
    | 4 => obtain rfl := Option.some.inj ho; revert hb; revert e; decide
    | 5 => obtain rfl := Option.some.inj ho; revert hb; revert e; decide
    | 6 => obtain rfl := Option.some.inj ho; revert hb; revert e; decide
    | 7 => obtain rfl := Option.some.inj ho; revert hb; revert e; decide
    | 8 => obtain rfl := Option.some.inj ho; revert hb; revert e; decide
    | 9 => obtain rfl := Option.some.inj ho; revert hb; revert e; decide
    | 10 => obtain rfl := Option.some.inj ho; revert hb; revert e; decide
    | 11 => obtain rfl := Option.some.inj ho; revert hb; revert e; decide
    | 12 => obtain rfl := Option.some.inj ho; revert hb; revert e; decide
    | 13 => obtain rfl := Option.some.inj ho; revert hb; revert e; decide
    | 14 => obtain rfl := Option.some.inj ho; revert hb; revert e; decide
    | 15 => obtain rfl := Option.some.inj ho; revert hb; revert e; decide
    | 16 => obtain rfl := Option.some.inj ho; revert hb; revert e; decide
    | 17 => obtain rfl := Option.some.inj ho; revert hb; revert e; decide
    | 18 => obtain rfl := Option.some.inj ho; revert hb; revert e; decide
    | i + 19 => cases ho
  · intro i v w1 w2 hi h hb
    match i, hi with
    | 0, _ => exact h
    | 1, _ => exact h
    | 2, _ => exact h
    | 3, _ => exact h
    | 4, _ => exact h
    | 5, _ => exact h
    | 6, _ => exact h
    | 7, _ => exact h
    | 8, _ => exact h
    | 9, _ => exact h
    | 10, _ => exact h
    | 11, _ => exact h
    | 12, _ => exact h
    | 13, _ => exact h
    | 14, _ => exact h
    | 15, _ => exact h
    | 16, _ => exact h
    | 17, _ =>
      obtain ⟨k, h1, h2, h3, h4⟩ := h
      exact ⟨k, h1, h2, Nat.lt_of_lt_of_le h3 hb.size, h4.up hb h3⟩
    | m + 18, hk => exact absurd hk (by omega)
  · decide
  · decide
  · intro ol ho
    obtain rfl := Option.some.inj ho
    decide
  · clear hend
    intro i o ho hi a1 w1 hF hA hb1
    have hz1 := hb1.size
    have f0 := hF 0 (by simp)
    rw [hf0] at f0
    have f2 := hF 2 (by simp)
    rw [hf2] at f2
    have f4 := hF 4 (by simp)
    rw [hf4] at f4
    have c0 : w1.cell? ⟨g, 0, none⟩ = some (.string ⟨wa.toArray⟩) := (hb1.cell (p := ⟨g, 0, none⟩) hlt).trans hc0
    have c1 : w1.cell? ⟨g, 1, none⟩ = some (.string ⟨wb.toArray⟩) := (hb1.cell (p := ⟨g, 1, none⟩) hlt).trans hc1
    have c2 : w1.cell? ⟨g, 2, none⟩ = some (.string ⟨wc.toArray⟩) := (hb1.cell (p := ⟨g, 2, none⟩) hlt).trans hc2
    have c3 : w1.cell? ⟨g, 3, none⟩ = some (.string ⟨wd.toArray⟩) := (hb1.cell (p := ⟨g, 3, none⟩) hlt).trans hc3
    clear hF hc0 hc1 hc2 hc3
    match i with
    | 0 =>
      obtain rfl := Option.some.inj ho
      refine wpOp_do rfl rfl ?_
      clear hA ho
      unfold Oper.wp
      simp [go_sem, f4]
      exact ⟨_, rfl, rfl, Below.refl _ _⟩
    | 1 =>
      obtain rfl := Option.some.inj ho
      refine wpOp_do rfl rfl ?_
      have p0 := hA { on := 0, ground := .data } (by simp) rfl; simp only [TSR, slotSR] at p0
      clear hA ho
      unfold Oper.wp
      simp [go_sem, p0]
      exact ⟨_, rfl, rfl, Below.refl _ _⟩
    | 2 =>
      obtain rfl := Option.some.inj ho
      refine wpOp_do rfl rfl ?_
      have p1 := hA { on := 1, ground := .data } (by simp) rfl; simp only [TSR, slotSR] at p1
      clear hA ho
      unfold Oper.wp
      simp [go_sem, p1, c0]
      exact ⟨_, rfl, rfl, Below.refl _ _⟩
    | 3 =>
      obtain rfl := Option.some.inj ho
      refine wpOp_do rfl rfl ?_
      have p2 := hA { on := 2, ground := .data } (by simp) rfl; simp only [TSR, slotSR] at p2
      clear hA ho
      unfold Oper.wp
      simp [go_sem, p2]
      refine (hN _).mono ?_
      rintro e w2 ⟨⟨n, rfl, hn⟩, rfl⟩
      exact ⟨_, rfl, ⟨n, hn, rfl⟩, Below.refl _ _⟩
    | 4 =>
      obtain rfl := Option.some.inj ho
      refine wpOp_do rfl rfl ?_
      clear hA ho
      unfold Oper.wp
      simp [go_sem, f4]
      exact ⟨_, rfl, rfl, Below.refl _ _⟩
    | 5 =>
      obtain rfl := Option.some.inj ho
      refine wpOp_do rfl rfl ?_
      have p4 := hA { on := 4, ground := .data } (by simp) rfl; simp only [TSR, slotSR] at p4
      clear hA ho
      unfold Oper.wp
      simp [go_sem, p4]
      exact ⟨_, rfl, rfl, Below.refl _ _⟩
    | 6 =>
      obtain rfl := Option.some.inj ho
      refine wpOp_do rfl rfl ?_
      have p5 := hA { on := 5, ground := .data } (by simp) rfl; simp only [TSR, slotSR] at p5
      clear hA ho
      unfold Oper.wp
      simp [go_sem, p5, c1]
      exact ⟨_, rfl, rfl, Below.refl _ _⟩
    | 7 =>
      obtain rfl := Option.some.inj ho
      refine wpOp_do rfl rfl ?_
      have p6 := hA { on := 6, ground := .data } (by simp) rfl; simp only [TSR, slotSR] at p6
      clear hA ho
      unfold Oper.wp
      simp [go_sem, p6]
      refine (hO _ _).mono ?_
      rintro e w2 ⟨rfl, rfl⟩
      exact ⟨_, rfl, rfl, Below.refl _ _⟩
    | 8 =>
      obtain rfl := Option.some.inj ho
      refine wpOp_do rfl rfl ?_
      clear hA ho
      unfold Oper.wp
      simp [go_sem, f4]
      exact ⟨_, rfl, rfl, Below.refl _ _⟩
    | 9 =>
      obtain rfl := Option.some.inj ho
      refine wpOp_do rfl rfl ?_
      have p8 := hA { on := 8, ground := .data } (by simp) rfl; simp only [TSR, slotSR] at p8
      clear hA ho
      unfold Oper.wp
      simp [go_sem, p8]
      exact ⟨_, rfl, rfl, Below.refl _ _⟩
    | 10 =>
      obtain rfl := Option.some.inj ho
      refine wpOp_do rfl rfl ?_
      have p9 := hA { on := 9, ground := .data } (by simp) rfl; simp only [TSR, slotSR] at p9
      clear hA ho
      unfold Oper.wp
      simp [go_sem, p9, c2]
      exact ⟨_, rfl, rfl, Below.refl _ _⟩
    | 11 =>
      obtain rfl := Option.some.inj ho
      refine wpOp_do rfl rfl ?_
      have p10 := hA { on := 10, ground := .data } (by simp) rfl; simp only [TSR, slotSR] at p10
      clear hA ho
      unfold Oper.wp
      simp [go_sem, p10]
      refine (hO _ _).mono ?_
      rintro e w2 ⟨rfl, rfl⟩
      exact ⟨_, rfl, rfl, Below.refl _ _⟩
    | 12 =>
      obtain rfl := Option.some.inj ho
      refine wpOp_do rfl rfl ?_
      clear hA ho
      unfold Oper.wp
      simp [go_sem, f4]
      exact ⟨_, rfl, rfl, Below.refl _ _⟩
    | 13 =>
      obtain rfl := Option.some.inj ho
      refine wpOp_do rfl rfl ?_
      have p12 := hA { on := 12, ground := .data } (by simp) rfl; simp only [TSR, slotSR] at p12
      clear hA ho
      unfold Oper.wp
      simp [go_sem, p12]
      exact ⟨_, rfl, rfl, Below.refl _ _⟩
    | 14 =>
      obtain rfl := Option.some.inj ho
      refine wpOp_do rfl rfl ?_
      have p13 := hA { on := 13, ground := .data } (by simp) rfl; simp only [TSR, slotSR] at p13
      clear hA ho
      unfold Oper.wp
      simp [go_sem, p13, c3]
      exact ⟨_, rfl, rfl, Below.refl _ _⟩
    | 15 =>
      obtain rfl := Option.some.inj ho
      refine wpOp_do rfl rfl ?_
      have p14 := hA { on := 14, ground := .data } (by simp) rfl; simp only [TSR, slotSR] at p14
      clear hA ho
      unfold Oper.wp
      simp [go_sem, p14]
      exact ⟨_, rfl, congrArg Value.bool (isWrite wd), Below.refl _ _⟩
    | 16 =>
      obtain rfl := Option.some.inj ho
      refine wpOp_do rfl rfl ?_
      have p3 := hA { on := 3, ground := .data } (by simp) rfl; simp only [TSR, slotSR] at p3
      have p7 := hA { on := 7, ground := .data } (by simp) rfl; simp only [TSR, slotSR] at p7
      have p11 := hA { on := 11, ground := .data } (by simp) rfl; simp only [TSR, slotSR] at p11
      have p15 := hA { on := 15, ground := .data } (by simp) rfl; simp only [TSR, slotSR] at p15
      clear hA ho
      unfold Oper.wp
      obtain ⟨n, hn, e3⟩ := p3
      simp [go_sem, e3, p7, p11, p15]
      exact ⟨_, rfl, ⟨n, hn, rfl⟩, Below.refl _ _⟩
    | 17 =>
      obtain rfl := Option.some.inj ho
      refine wpOp_do rfl rfl ?_
      clear hA ho
      unfold Oper.wp
      simp [go_sem]
      exact ⟨_, rfl, ⟨w1.heap.size, rfl, hz1, by simp, atC_new _ _ _⟩, (Below.refl _ _).alloc (Nat.le_refl _) _⟩
    | m + 18 => exact absurd hi (by omega)
  · intro ol ho y w2 hb2 hall hF
    obtain rfl := Option.some.inj ho
    refine wpOp_do rfl rfl ?_
    clear ho
    obtain ⟨n, hn, eA⟩ := hall 16 (by omega)
    obtain ⟨k, eP, hk1, hk2, K0⟩ := hall 17 (by omega)
    simp only [slotSR] at eA eP
    have e0 := (hF 0 (by simp)).trans hf0
    have e2 := (hF 2 (by simp)).trans hf2
    have e4 := (hF 4 (by simp)).trans hf4
    have K1 := K0.own 0 (.int .i64 n)
    have K2 := K1.own 1 (.string (noneB ⟨wb.toArray⟩))
    have K3 := K2.own 2 (.string (noneB ⟨wc.toArray⟩))
    have K4 := K3.own 3 (.bool (decide (wd = writeL)))
    have c0 := K0.1 0 _ rfl; have g0 := K0.2 0
    have c1 := K1.1 1 _ rfl; have g1 := K1.2 1
    have c2 := K2.1 2 _ rfl; have g2 := K2.2 2
    have c3 := K3.1 3 _ rfl; have g3 := K3.2 3
    have K : AtC ((((w2.setCell ⟨k, 0, none⟩ (.int .i64 n)).setCell ⟨k, 1, none⟩ (.string (noneB ⟨wb.toArray⟩))).setCell ⟨k, 2, none⟩ (.string (noneB ⟨wc.toArray⟩))).setCell ⟨k, 3, none⟩ (.bool (decide (wd = writeL)))) k #[.int .i64 n, .string (noneB ⟨wb.toArray⟩), .string (noneB ⟨wc.toArray⟩), .bool (decide (wd = writeL))] := K4
    have F := hend y _ k n hn ((((hb2.setCell (p := ⟨k, 0, none⟩) hk1 _).setCell (p := ⟨k, 1, none⟩) hk1 _).setCell (p := ⟨k, 2, none⟩) hk1 _).setCell (p := ⟨k, 3, none⟩) hk1 _) hk1 (by simpa [World.setCell] using hk2) K
    clear hend hall hF K K1 K2 K3 K4 K0
    rw [e4, eA] at F
    rw [show ((List.range 40).map y).toArray = #[y 0, y 1, y 2, y 3, y 4, y 5, y 6, y 7, y 8, y 9, y 10, y 11, y 12, y 13, y 14, y 15, y 16, y 17, y 18, y 19, y 20, y 21, y 22, y 23, y 24, y 25, y 26, y 27, y 28, y 29, y 30, y 31, y 32, y 33, y 34, y 35, y 36, y 37, y 38, y 39] from rfl]
    rw [e0, e2, e4, eA, eP]
    unfold Oper.wp
    simp [go_sem, c0, c1, c2, c3, g0, g1, g2, g3]
    exact F
/-- what each operation leaves -/
def TIR (base g c : Nat) (n0 : Int) (wa wb wc wd : List UInt8) : Nat → Value → World → Prop
  | 0 => fun v _ => v = .int .i64 n0
  | 1 => fun v _ => v = .slice (some ⟨g, 0, none⟩) 4 c
  | 2 => fun v _ => v = .pointer (some ⟨g, 1, none⟩)
  | 3 => fun v _ => v = .string ⟨wb.toArray⟩
  | 4 => fun v _ => v = .string (noneB ⟨wb.toArray⟩)
  | 5 => fun v _ => v = .slice (some ⟨g, 0, none⟩) 4 c
  | 6 => fun v _ => v = .pointer (some ⟨g, 2, none⟩)
  | 7 => fun v _ => v = .string ⟨wc.toArray⟩
  | 8 => fun v _ => v = .string (noneB ⟨wc.toArray⟩)
  | 9 => fun v _ => v = .slice (some ⟨g, 0, none⟩) 4 c
  | 10 => fun v _ => v = .pointer (some ⟨g, 3, none⟩)
  | 11 => fun v _ => v = .string ⟨wd.toArray⟩
  | 12 => fun v _ => v = .bool (decide (wd = writeL))
  | 13 => fun v _ => v = .agg #[.int .i64 n0, .string (noneB ⟨wb.toArray⟩), .string (noneB ⟨wc.toArray⟩), .bool (decide (wd = writeL))]
  | 14 => fun v W => ∃ k, v = .pointer (some ⟨k, 0, none⟩) ∧ base ≤ k ∧ k < W.heap.size ∧ AtC W k #[.int .i64 0, .string ⟨#[]⟩, .string ⟨#[]⟩, .bool false]
  | _ => fun _ _ => True
/-- its slot -/
def slotIR : Nat → Nat
  | 0 => 28
  | 1 => 29
  | 2 => 30
  | 3 => 31
  | 4 => 32
  | 5 => 33
  | 6 => 34
  | 7 => 35
  | 8 => 36
  | 9 => 37
  | 10 => 38
  | 11 => 39
  | 12 => 40
  | 13 => 41
  | 14 => 7
  | _ => 999
set_option maxRecDepth 100000 in
set_option maxHeartbeats 4000000 in
theorem frontIR {rid : Nat} {ops : Array Oper} (hops : Tryd.f6.body.bind drawnE = some ops) {Q : Exit → Act → World → Prop} {a : Act} {w : World} {g c R : Nat} {s : ByteArray} {wa wb wc wd : List UInt8} {N : Int → Prop} {n0 : Int}
    (hsz : a.tmps.size = 48) (hdf : a.defers = []) (hf0 : a.tmps[0]?.getD undef = .string s) (hf2 : a.tmps[2]?.getD undef = .pointer (some ⟨R, 0, none⟩)) (hf4 : a.tmps[4]?.getD undef = .slice (some ⟨g, 0, none⟩) 4 c) (hf5 : a.tmps[5]?.getD undef = .int .i64 n0)
    (hO : ∀ s w1, Calls Tryd.prog 18 #[.string s] w1 fun e w' => e = .returned (.string (noneB s)) ∧ w1 = w') (hN : N n0)
    (hlt : g < w.heap.size) (hc0 : w.cell? ⟨g, 0, none⟩ = some (.string ⟨wa.toArray⟩)) (hc1 : w.cell? ⟨g, 1, none⟩ = some (.string ⟨wb.toArray⟩)) (hc2 : w.cell? ⟨g, 2, none⟩ = some (.string ⟨wc.toArray⟩)) (hc3 : w.cell? ⟨g, 3, none⟩ = some (.string ⟨wd.toArray⟩))
    (hend : ∀ (y : Nat → Value) (w2 : World) (k : Nat) (n : Int), N n → Below w.heap.size w w2 → w.heap.size ≤ k → k < w2.heap.size → AtC w2 k #[.int .i64 n, .string (noneB ⟨wb.toArray⟩), .string (noneB ⟨wc.toArray⟩), .bool (decide (wd = writeL))] →
      Q .normal ⟨#[.string s, y 1, .pointer (some ⟨R, 0, none⟩), y 3, y 4, y 5, y 6, .pointer (some ⟨k, 0, none⟩), y 8, y 9, y 10, y 11, y 12, y 13, y 14, y 15, y 16, y 17, y 18, y 19, y 20, y 21, y 22, y 23, y 24, y 25, y 26, y 27, y 28, y 29, y 30, y 31, y 32, y 33, y 34, y 35, y 36, y 37, y 38, y 39, y 40, y 41, y 42, y 43, y 44, y 45, y 46, y 47], []⟩ w2) : (Code.region rid ops true).wp Tryd.prog Q a w := by
  simp only [Tryd.f6, Option.bind, drawnE, Option.orElse] at hops
  obtain rfl := Option.some.inj hops
  clear hops
  refine region_ext_last 15 48 slotIR [0, 2, 4, 5] (TIR w.heap.size g c n0 wa wb wc wd) rfl (by kernel_rfl) ?_ hsz hdf ?_ ?_ ?_ ?_ ?_ ?_
  · clear hend
    intro i o ho e he hb
    match i with
    | 0 => obtain rfl := Option.some.inj ho; revert hb; revert e; decide
    | 1 => obtain rfl := Option.some.inj ho; revert hb; revert e; decide
    | 2 => obtain rfl := Option.some.inj ho; revert hb; revert e; decide
    | 3 => obtain rfl := Option.some.inj ho; revert hb; revert e; decide
    | 4 => obtain rfl := Option.some.inj ho; revert hb; revert e; decide
    | 5 => obtain rfl := Option.some.inj ho; revert hb; revert e; decide
    | 6 => obtain rfl := Option.some.inj ho; revert hb; revert e; decide
    | 7 => obtain rfl := Option.some.inj ho; revert hb; revert e; decide
    | 8 => obtain rfl := Option.some.inj ho; revert hb; revert e; decide
    | 9 => obtain rfl := Option.some.inj ho; revert hb; revert e; decide
    | 10 => obtain rfl := Option.some.inj ho; revert hb; revert e; decide
    | 11 => obtain rfl := Option.some.inj ho; revert hb; revert e; decide
    | 12 => obtain rfl := Option.some.inj ho; revert hb; revert e; decide
    | 13 => obtain rfl := Option.some.inj ho; revert hb; revert e; decide
    | 14 => obtain rfl := Option.some.inj ho; revert hb; revert e; decide
    | 15 => obtain rfl := Option.some.inj ho; revert hb; revert e; decide
    | i + 16 => cases ho
  · intro i v w1 w2 hi h hb
    match i, hi with
    | 0, _ => exact h
    | 1, _ => exact h
    | 2, _ => exact h
    | 3, _ => exact h
    | 4, _ => exact h
    | 5, _ => exact h
    | 6, _ => exact h
    | 7, _ => exact h
    | 8, _ => exact h
    | 9, _ => exact h
    | 10, _ => exact h
    | 11, _ => exact h
    | 12, _ => exact h
    | 13, _ => exact h
    | 14, _ =>
      obtain ⟨k, h1, h2, h3, h4⟩ := h
      exact ⟨k, h1, h2, Nat.lt_of_lt_of_le h3 hb.size, h4.up hb h3⟩
    | m + 15, hk => exact absurd hk (by omega)
  · decide
  · decide
  · intro ol ho
    obtain rfl := Option.some.inj ho
    decide
  · clear hend
    intro i o ho hi a1 w1 hF hA hb1
    have hz1 := hb1.size
    have f0 := hF 0 (by simp)
    rw [hf0] at f0
    have f2 := hF 2 (by simp)
    rw [hf2] at f2
    have f4 := hF 4 (by simp)
    rw [hf4] at f4
    have f5 := hF 5 (by simp)
    rw [hf5] at f5
    have c0 : w1.cell? ⟨g, 0, none⟩ = some (.string ⟨wa.toArray⟩) := (hb1.cell (p := ⟨g, 0, none⟩) hlt).trans hc0
    have c1 : w1.cell? ⟨g, 1, none⟩ = some (.string ⟨wb.toArray⟩) := (hb1.cell (p := ⟨g, 1, none⟩) hlt).trans hc1
    have c2 : w1.cell? ⟨g, 2, none⟩ = some (.string ⟨wc.toArray⟩) := (hb1.cell (p := ⟨g, 2, none⟩) hlt).trans hc2
    have c3 : w1.cell? ⟨g, 3, none⟩ = some (.string ⟨wd.toArray⟩) := (hb1.cell (p := ⟨g, 3, none⟩) hlt).trans hc3
    clear hF hc0 hc1 hc2 hc3
    match i with
    | 0 =>
      obtain rfl := Option.some.inj ho
      refine wpOp_do rfl rfl ?_
      clear hA ho
      unfold Oper.wp
      simp [go_sem, f5]
      exact ⟨_, rfl, rfl, Below.refl _ _⟩
    | 1 =>
      obtain rfl := Option.some.inj ho
      refine wpOp_do rfl rfl ?_
      clear hA ho
      unfold Oper.wp
      simp [go_sem, f4]
      exact ⟨_, rfl, rfl, Below.refl _ _⟩
    | 2 =>
      obtain rfl := Option.some.inj ho
      refine wpOp_do rfl rfl ?_
      have p1 := hA { on := 1, ground := .data } (by simp) rfl; simp only [TIR, slotIR] at p1
      clear hA ho
      unfold Oper.wp
      simp [go_sem, p1]
      exact ⟨_, rfl, rfl, Below.refl _ _⟩
    | 3 =>
      obtain rfl := Option.some.inj ho
      refine wpOp_do rfl rfl ?_
      have p2 := hA { on := 2, ground := .data } (by simp) rfl; simp only [TIR, slotIR] at p2
      clear hA ho
      unfold Oper.wp
      simp [go_sem, p2, c1]
      exact ⟨_, rfl, rfl, Below.refl _ _⟩
    | 4 =>
      obtain rfl := Option.some.inj ho
      refine wpOp_do rfl rfl ?_
      have p3 := hA { on := 3, ground := .data } (by simp) rfl; simp only [TIR, slotIR] at p3
      clear hA ho
      unfold Oper.wp
      simp [go_sem, p3]
      refine (hO _ _).mono ?_
      rintro e w2 ⟨rfl, rfl⟩
      exact ⟨_, rfl, rfl, Below.refl _ _⟩
    | 5 =>
      obtain rfl := Option.some.inj ho
      refine wpOp_do rfl rfl ?_
      clear hA ho
      unfold Oper.wp
      simp [go_sem, f4]
      exact ⟨_, rfl, rfl, Below.refl _ _⟩
    | 6 =>
      obtain rfl := Option.some.inj ho
      refine wpOp_do rfl rfl ?_
      have p5 := hA { on := 5, ground := .data } (by simp) rfl; simp only [TIR, slotIR] at p5
      clear hA ho
      unfold Oper.wp
      simp [go_sem, p5]
      exact ⟨_, rfl, rfl, Below.refl _ _⟩
    | 7 =>
      obtain rfl := Option.some.inj ho
      refine wpOp_do rfl rfl ?_
      have p6 := hA { on := 6, ground := .data } (by simp) rfl; simp only [TIR, slotIR] at p6
      clear hA ho
      unfold Oper.wp
      simp [go_sem, p6, c2]
      exact ⟨_, rfl, rfl, Below.refl _ _⟩
    | 8 =>
      obtain rfl := Option.some.inj ho
      refine wpOp_do rfl rfl ?_
      have p7 := hA { on := 7, ground := .data } (by simp) rfl; simp only [TIR, slotIR] at p7
      clear hA ho
      unfold Oper.wp
      simp [go_sem, p7]
      refine (hO _ _).mono ?_
      rintro e w2 ⟨rfl, rfl⟩
      exact ⟨_, rfl, rfl, Below.refl _ _⟩
    | 9 =>
      obtain rfl := Option.some.inj ho
      refine wpOp_do rfl rfl ?_
      clear hA ho
      unfold Oper.wp
      simp [go_sem, f4]
      exact ⟨_, rfl, rfl, Below.refl _ _⟩
    | 10 =>
      obtain rfl := Option.some.inj ho
      refine wpOp_do rfl rfl ?_
      have p9 := hA { on := 9, ground := .data } (by simp) rfl; simp only [TIR, slotIR] at p9
      clear hA ho
      unfold Oper.wp
      simp [go_sem, p9]
      exact ⟨_, rfl, rfl, Below.refl _ _⟩
    | 11 =>
      obtain rfl := Option.some.inj ho
      refine wpOp_do rfl rfl ?_
      have p10 := hA { on := 10, ground := .data } (by simp) rfl; simp only [TIR, slotIR] at p10
      clear hA ho
      unfold Oper.wp
      simp [go_sem, p10, c3]
      exact ⟨_, rfl, rfl, Below.refl _ _⟩
    | 12 =>
      obtain rfl := Option.some.inj ho
      refine wpOp_do rfl rfl ?_
      have p11 := hA { on := 11, ground := .data } (by simp) rfl; simp only [TIR, slotIR] at p11
      clear hA ho
      unfold Oper.wp
      simp [go_sem, p11]
      exact ⟨_, rfl, congrArg Value.bool (isWrite wd), Below.refl _ _⟩
    | 13 =>
      obtain rfl := Option.some.inj ho
      refine wpOp_do rfl rfl ?_
      have p0 := hA { on := 0, ground := .data } (by simp) rfl; simp only [TIR, slotIR] at p0
      have p4 := hA { on := 4, ground := .data } (by simp) rfl; simp only [TIR, slotIR] at p4
      have p8 := hA { on := 8, ground := .data } (by simp) rfl; simp only [TIR, slotIR] at p8
      have p12 := hA { on := 12, ground := .data } (by simp) rfl; simp only [TIR, slotIR] at p12
      clear hA ho
      unfold Oper.wp
      simp [go_sem, p0, p4, p8, p12]
      exact ⟨_, rfl, rfl, Below.refl _ _⟩
    | 14 =>
      obtain rfl := Option.some.inj ho
      refine wpOp_do rfl rfl ?_
      clear hA ho
      unfold Oper.wp
      simp [go_sem]
      exact ⟨_, rfl, ⟨w1.heap.size, rfl, hz1, by simp, atC_new _ _ _⟩, (Below.refl _ _).alloc (Nat.le_refl _) _⟩
    | m + 15 => exact absurd hi (by omega)
  · intro ol ho y w2 hb2 hall hF
    obtain rfl := Option.some.inj ho
    refine wpOp_do rfl rfl ?_
    clear ho
    have eA : y (slotIR 13) = .agg #[.int .i64 n0, .string (noneB ⟨wb.toArray⟩), .string (noneB ⟨wc.toArray⟩), .bool (decide (wd = writeL))] := hall 13 (by omega)
    have hn : N n0 := hN
    obtain ⟨k, eP, hk1, hk2, K0⟩ := hall 14 (by omega)
    simp only [slotIR] at eA eP
    have e0 := (hF 0 (by simp)).trans hf0
    have e2 := (hF 2 (by simp)).trans hf2
    have e4 := (hF 4 (by simp)).trans hf4
    have e5 := (hF 5 (by simp)).trans hf5
    have K1 := K0.own 0 (.int .i64 n0)
    have K2 := K1.own 1 (.string (noneB ⟨wb.toArray⟩))
    have K3 := K2.own 2 (.string (noneB ⟨wc.toArray⟩))
    have K4 := K3.own 3 (.bool (decide (wd = writeL)))
    have c0 := K0.1 0 _ rfl; have g0 := K0.2 0
    have c1 := K1.1 1 _ rfl; have g1 := K1.2 1
    have c2 := K2.1 2 _ rfl; have g2 := K2.2 2
    have c3 := K3.1 3 _ rfl; have g3 := K3.2 3
    have K : AtC ((((w2.setCell ⟨k, 0, none⟩ (.int .i64 n0)).setCell ⟨k, 1, none⟩ (.string (noneB ⟨wb.toArray⟩))).setCell ⟨k, 2, none⟩ (.string (noneB ⟨wc.toArray⟩))).setCell ⟨k, 3, none⟩ (.bool (decide (wd = writeL)))) k #[.int .i64 n0, .string (noneB ⟨wb.toArray⟩), .string (noneB ⟨wc.toArray⟩), .bool (decide (wd = writeL))] := K4
    have F := hend y _ k n0 hn ((((hb2.setCell (p := ⟨k, 0, none⟩) hk1 _).setCell (p := ⟨k, 1, none⟩) hk1 _).setCell (p := ⟨k, 2, none⟩) hk1 _).setCell (p := ⟨k, 3, none⟩) hk1 _) hk1 (by simpa [World.setCell] using hk2) K
    clear hend hall hF K K1 K2 K3 K4 K0
    rw [e4, e5, eA] at F
    rw [show ((List.range 48).map y).toArray = #[y 0, y 1, y 2, y 3, y 4, y 5, y 6, y 7, y 8, y 9, y 10, y 11, y 12, y 13, y 14, y 15, y 16, y 17, y 18, y 19, y 20, y 21, y 22, y 23, y 24, y 25, y 26, y 27, y 28, y 29, y 30, y 31, y 32, y 33, y 34, y 35, y 36, y 37, y 38, y 39, y 40, y 41, y 42, y 43, y 44, y 45, y 46, y 47] from rfl]
    rw [e0, e2, e4, e5, eA, eP]
    unfold Oper.wp
    simp [go_sem, c0, c1, c2, c3, g0, g1, g2, g3]
    exact F
end Go.Proofs.YtkgfoimfhlpngaaDoor.W
