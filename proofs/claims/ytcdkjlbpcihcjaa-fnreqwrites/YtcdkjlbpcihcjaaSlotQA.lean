
/-
  A request is begun: user, repo, kind and ref are drawn: the first region of the specification's l21Req that draws its order. (Written by genslotq.py.) No condition but that the reader is open.
-/
import Derived.Test.YtcdkjlbpcihcjaaMathSlot4
import Derived.Test.YtcdkjlbpcihcjaaMathBlk
import Derived.Test.YtcdkjlbpcihcjaaMathAt
namespace Go.Proofs.Ytcdkjlbpcihcjaa.W
open Go.RowKit Go.Proofs.Ytcdkjlbpcihcjaa.M
set_option linter.unusedVariables false

theorem kd_any (k : Nat) (h : k < 20) : ∃ d : Int, (#[.int .i64 1, .int .i64 1, .int .i64 1, .int .i64 1, .int .i64 1, .int .i64 1, .int .i64 2, .int .i64 2, .int .i64 3, .int .i64 4, .int .i64 4, .int .i64 5, .int .i64 6, .int .i64 7, .int .i64 8, .int .i64 9, .int .i64 9, .int .i64 10, .int .i64 10, .int .i64 11] : Array Value)[k]? = some (.int .i64 d) ∧ 1 ≤ d ∧ d ≤ 11 := by
  rcases (show k = 0 ∨ k = 1 ∨ k = 2 ∨ k = 3 ∨ k = 4 ∨ k = 5 ∨ k = 6 ∨ k = 7 ∨ k = 8 ∨ k = 9 ∨ k = 10 ∨ k = 11 ∨ k = 12 ∨ k = 13 ∨ k = 14 ∨ k = 15 ∨ k = 16 ∨ k = 17 ∨ k = 18 ∨ k = 19 from by omega) with rfl | rfl | rfl | rfl | rfl | rfl | rfl | rfl | rfl | rfl | rfl | rfl | rfl | rfl | rfl | rfl | rfl | rfl | rfl | rfl <;> exact ⟨_, rfl, by decide, by decide⟩
theorem rf_any (k : Nat) (h : k < 4) : ∃ s : ByteArray, (#[.string ⟨#[97]⟩, .string ⟨#[97]⟩, .string ⟨#[98]⟩, .string ⟨#[99]⟩] : Array Value)[k]? = some (.string s) ∧ s.size ≤ 64 := by
  rcases (show k = 0 ∨ k = 1 ∨ k = 2 ∨ k = 3 from by omega) with rfl | rfl | rfl | rfl <;> exact ⟨_, rfl, by decide⟩
/-- the first region that draws -/
def drawnQ : Code → Option (Array Oper)
  | .region _ ops true => some ops
  | .seq a b => (drawnQ a).orElse fun _ => drawnQ b
  | _ => none
/-- what each operation leaves -/
def TQA (rb base : Nat) : Nat → Value → World → Prop
  | 0 => fun v _ => v = .pointer (some ⟨rb, 0, none⟩)
  | 1 => fun v _ => ∃ k : Nat, k < 3 ∧ v = .int .i64 k
  | 2 => fun v _ => ∃ k : Nat, k < 3 ∧ v = .int .i64 (1 + (k : Int))
  | 3 => fun v _ => v = .pointer (some ⟨rb, 0, none⟩)
  | 4 => fun v _ => ∃ k : Nat, k < 2 ∧ v = .int .i64 k
  | 5 => fun v W => ∃ g, v = .slice (some ⟨g, 0, none⟩) 20 20 ∧ g ≠ rb ∧ W.heap[g]? = some (.cells #[.int .i64 1, .int .i64 1, .int .i64 1, .int .i64 1, .int .i64 1, .int .i64 1, .int .i64 2, .int .i64 2, .int .i64 3, .int .i64 4, .int .i64 4, .int .i64 5, .int .i64 6, .int .i64 7, .int .i64 8, .int .i64 9, .int .i64 9, .int .i64 10, .int .i64 10, .int .i64 11] 3 (0, 0))
  | 6 => fun v _ => v = .pointer (some ⟨rb, 0, none⟩)
  | 7 => fun v _ => ∃ k : Nat, k < 20 ∧ v = .int .i64 k
  | 8 => fun v W => ∃ g k : Nat, v = .pointer (some ⟨g, k, none⟩) ∧ k < 20 ∧ g ≠ rb ∧ W.heap[g]? = some (.cells #[.int .i64 1, .int .i64 1, .int .i64 1, .int .i64 1, .int .i64 1, .int .i64 1, .int .i64 2, .int .i64 2, .int .i64 3, .int .i64 4, .int .i64 4, .int .i64 5, .int .i64 6, .int .i64 7, .int .i64 8, .int .i64 9, .int .i64 9, .int .i64 10, .int .i64 10, .int .i64 11] 3 (0, 0))
  | 9 => fun v _ => ∃ d : Int, v = .int .i64 d ∧ 1 ≤ d ∧ d ≤ 11
  | 10 => fun v W => ∃ g, v = .slice (some ⟨g, 0, none⟩) 4 4 ∧ g ≠ rb ∧ W.heap[g]? = some (.cells #[.string ⟨#[97]⟩, .string ⟨#[97]⟩, .string ⟨#[98]⟩, .string ⟨#[99]⟩] 9 (0, 0))
  | 11 => fun v _ => v = .pointer (some ⟨rb, 0, none⟩)
  | 12 => fun v _ => ∃ k : Nat, k < 4 ∧ v = .int .i64 k
  | 13 => fun v W => ∃ g k : Nat, v = .pointer (some ⟨g, k, none⟩) ∧ k < 4 ∧ g ≠ rb ∧ W.heap[g]? = some (.cells #[.string ⟨#[97]⟩, .string ⟨#[97]⟩, .string ⟨#[98]⟩, .string ⟨#[99]⟩] 9 (0, 0))
  | 14 => fun v _ => ∃ s : ByteArray, v = .string s ∧ s.size ≤ 64
  | 15 => fun v _ => ∃ (u p d : Int) (s : ByteArray), v = .agg #[.int .i64 u, .int .i64 0, .int .i64 p, .int .i64 d, .string s, .string ⟨#[]⟩, .int .i64 0, .int .i64 0, .slice none 0 0, .int .i64 0, .string ⟨#[]⟩, .string ⟨#[]⟩, .bool false, .int .i64 0, .string ⟨#[]⟩] ∧ 1 ≤ u ∧ u ≤ 3 ∧ 0 ≤ p ∧ p ≤ 1 ∧ 1 ≤ d ∧ d ≤ 11 ∧ s.size ≤ 64
  | 16 => fun v W => ∃ k, v = .pointer (some ⟨k, 0, none⟩) ∧ base ≤ k ∧ k ≠ rb ∧ W.heap[k]? = some (.cells #[.int .i64 0, .int .i64 0, .int .i64 0, .int .i64 0, .string ⟨#[]⟩, .string ⟨#[]⟩, .int .i64 0, .int .i64 0, .slice none 0 0, .int .i64 0, .string ⟨#[]⟩, .string ⟨#[]⟩, .bool false, .int .i64 0, .string ⟨#[]⟩] 27 (0, 0))
  | _ => fun _ _ => True
/-- its slot -/
def slotQA : Nat → Nat
  | 0 => 8
  | 1 => 9
  | 2 => 10
  | 3 => 11
  | 4 => 12
  | 5 => 13
  | 6 => 14
  | 7 => 15
  | 8 => 16
  | 9 => 17
  | 10 => 18
  | 11 => 19
  | 12 => 20
  | 13 => 21
  | 14 => 22
  | 15 => 23
  | 16 => 5
  | _ => 999
set_option maxRecDepth 100000 in
set_option maxHeartbeats 8000000 in
theorem frontQA {rid : Nat} {ops : Array Oper} (hops : Try.f21.body.bind drawnQ = some ops) {Q : Exit → Act → World → Prop} {a : Act} {w : World} {rb p : Nat} {ad : Option Addr} {len cap : Nat} {zs : Nat → Int}
    (hsz : a.tmps.size = 250) (hdf : a.defers = []) (hf0 : a.tmps[0]?.getD undef = .pointer (some ⟨rb, 0, none⟩)) (hRd : Rd w rb p ad len cap zs) (hp : p ≤ 500000) (hlt : rb < w.heap.size)
    (hend : ∀ (y : Nat → Value) (w2 : World) (q k : Nat) (u r d : Int) (s : ByteArray), 1 ≤ u → u ≤ 3 → 0 ≤ r → r ≤ 1 → 1 ≤ d → d ≤ 11 → s.size ≤ 64 → q ≤ p + 40 → Rd w2 rb q ad len cap zs → w.grownBy w2 (some rb) → w.heap.size ≤ k → k < w2.heap.size → w2.heap[k]? = some (.cells #[.int .i64 u, .int .i64 0, .int .i64 r, .int .i64 d, .string s, .string ⟨#[]⟩, .int .i64 0, .int .i64 0, .slice none 0 0, .int .i64 0, .string ⟨#[]⟩, .string ⟨#[]⟩, .bool false, .int .i64 0, .string ⟨#[]⟩] 27 (0, 0)) →
      Q .normal ⟨#[.pointer (some ⟨rb, 0, none⟩), y 1, y 2, a.tmps[3]?.getD undef, a.tmps[4]?.getD undef, .pointer (some ⟨k, 0, none⟩), y 6, y 7, y 8, y 9, y 10, y 11, y 12, y 13, y 14, y 15, y 16, y 17, y 18, y 19, y 20, y 21, y 22, y 23, y 24, y 25, y 26, y 27, y 28, y 29, y 30, y 31, y 32, y 33, y 34, y 35, y 36, y 37, y 38, y 39, y 40, y 41, y 42, y 43, y 44, y 45, y 46, y 47, y 48, y 49, y 50, y 51, y 52, y 53, y 54, y 55, y 56, y 57, y 58, y 59, y 60, y 61, y 62, y 63, y 64, y 65, y 66, y 67, y 68, y 69, y 70, y 71, y 72, y 73, y 74, y 75, y 76, y 77, y 78, y 79, y 80, y 81, y 82, y 83, y 84, y 85, y 86, y 87, y 88, y 89, y 90, y 91, y 92, y 93, y 94, y 95, y 96, y 97, y 98, y 99, y 100, y 101, y 102, y 103, y 104, y 105, y 106, y 107, y 108, y 109, y 110, y 111, y 112, y 113, y 114, y 115, y 116, y 117, y 118, y 119, y 120, y 121, y 122, y 123, y 124, y 125, y 126, y 127, y 128, y 129, y 130, y 131, y 132, y 133, y 134, y 135, y 136, y 137, y 138, y 139, y 140, y 141, y 142, y 143, y 144, y 145, y 146, y 147, y 148, y 149, y 150, y 151, y 152, y 153, y 154, y 155, y 156, y 157, y 158, y 159, y 160, y 161, y 162, y 163, y 164, y 165, y 166, y 167, y 168, y 169, y 170, y 171, y 172, y 173, y 174, y 175, y 176, y 177, y 178, y 179, y 180, y 181, y 182, y 183, y 184, y 185, y 186, y 187, y 188, y 189, y 190, y 191, y 192, y 193, y 194, y 195, y 196, y 197, y 198, y 199, y 200, y 201, y 202, y 203, y 204, y 205, y 206, y 207, y 208, y 209, y 210, y 211, y 212, y 213, y 214, y 215, y 216, y 217, y 218, y 219, y 220, y 221, y 222, y 223, y 224, y 225, y 226, y 227, y 228, y 229, y 230, y 231, y 232, y 233, y 234, y 235, y 236, y 237, y 238, y 239, y 240, y 241, y 242, y 243, y 244, y 245, y 246, y 247, y 248, y 249], []⟩ w2) : (Code.region rid ops true).wp Try.prog Q a w := by
  simp only [Try.f21, Option.bind, drawnQ, Option.orElse] at hops
  obtain rfl := Option.some.inj hops
  clear hops
  refine region_slots_last4 (p := p) 17 2 250 slotQA [0, 3, 4] (TQA rb w.heap.size) rfl (by kernel_rfl) ?_ hsz hdf hRd ?_ ?_ ?_ ?_ ?_ ?_
  · clear hend
    intro i o ho e he hb
    match i with
    | 0 => obtain rfl := Option.some.inj ho; revert hb; revert e; decide
    | 1 => obtain rfl := Option.some.inj ho; revert hb; revert e; decide
    | 2 => obtain rfl := Option.some.inj ho; revert hb; revert e; decide
    | 3 => obtain rfl := Option.some.inj ho; revert hb; revert e; decide
    | 4 => obtain rfl := Option.some.inj ho; revert hb; revert e; decide
    | 5 => obtain rfl := Option.some.inj ho; revert hb; revert e; decide
    | 6 => obtain rfl := Option.some.inj ho; revert hb; revert e; decide
    | 7 => obtain rfl := Option.some.inj ho; revert hb; revert e; decide
    | 8 => obtain rfl := Option.some.inj ho; revert hb; revert e; decide
    | 9 => obtain rfl := Option.some.inj ho; revert hb; revert e; decide
    | 10 => obtain rfl := Option.some.inj ho; revert hb; revert e; decide
    | 11 => obtain rfl := Option.some.inj ho; revert hb; revert e; decide
    | 12 => obtain rfl := Option.some.inj ho; revert hb; revert e; decide
    | 13 => obtain rfl := Option.some.inj ho; revert hb; revert e; decide
    | 14 => obtain rfl := Option.some.inj ho; revert hb; revert e; decide
    | 15 => obtain rfl := Option.some.inj ho; revert hb; revert e; decide
    | 16 => obtain rfl := Option.some.inj ho; revert hb; revert e; decide
    | 17 => obtain rfl := Option.some.inj ho; revert hb; revert e; decide
    | i + 18 => cases ho
  · intro i v w1 w2 hi h hg
    match i, hi with
    | 0, _ => exact h
    | 1, _ => exact h
    | 2, _ => exact h
    | 3, _ => exact h
    | 4, _ => exact h
    | 5, _ => obtain ⟨g, h1, h2, h3⟩ := h; exact ⟨g, h1, h2, bkKept h3 hg h2⟩
    | 6, _ => exact h
    | 7, _ => exact h
    | 8, _ => obtain ⟨g, k, h1, h2, h3, h4⟩ := h; exact ⟨g, k, h1, h2, h3, bkKept h4 hg h3⟩
    | 9, _ => exact h
    | 10, _ => obtain ⟨g, h1, h2, h3⟩ := h; exact ⟨g, h1, h2, bkKept h3 hg h2⟩
    | 11, _ => exact h
    | 12, _ => exact h
    | 13, _ => obtain ⟨g, k, h1, h2, h3, h4⟩ := h; exact ⟨g, k, h1, h2, h3, bkKept h4 hg h3⟩
    | 14, _ => exact h
    | 15, _ => exact h
    | 16, _ => obtain ⟨g, h1, h2, h3, h4⟩ := h; exact ⟨g, h1, h2, h3, bkKept h4 hg h3⟩
    | m + 17, hk => exact absurd hk (by omega)
  · decide
  · decide
  · intro ol ho
    obtain rfl := Option.some.inj ho
    decide
  · clear hend
    intro i o ho hi a1 w1 q hF hA hq hR1 hg1
    have hq' : q + 2 ≤ p + 2 * 18 := hq
    clear hq
    have hz1 := hg1.size
    have hl1 : rb < w1.heap.size := by omega
    have f0 := (hF 0 (by simp)).trans hf0
    clear hF
    match i with
    | 0 =>
      obtain rfl := Option.some.inj ho
      refine wpOp_do rfl rfl ?_
      clear hA ho
      unfold Oper.wp
      simp [go_sem, f0]
      exact ⟨_, q, rfl, rfl, ⟨rfl, rfl, rfl, Nat.le_refl _, fun _ _ _ => rfl⟩, by omega, hR1⟩
    | 1 =>
      obtain rfl := Option.some.inj ho
      refine wpOp_do rfl rfl ?_
      have p0 := hA { on := 0, ground := .data } (by simp) rfl; simp only [TQA, slotQA] at p0
      clear hA ho
      unfold Oper.wp
      simp [go_sem, p0]
      refine (pick_any w1 rb q ad len cap 3 zs hR1 (by omega) (by omega) (by omega)).mono ?_
      rintro e w2 ⟨v, hv, rfl, hR2, hg2⟩
      exact ⟨.int .i64 v, q + 1, rfl, ⟨v, hv, rfl⟩, hg2, by omega, hR2⟩
    | 2 =>
      obtain rfl := Option.some.inj ho
      refine wpOp_do rfl rfl ?_
      have p1 := hA { on := 1, ground := .data } (by simp) rfl; simp only [TQA, slotQA] at p1
      clear hA ho
      unfold Oper.wp
      obtain ⟨k', hk', e2⟩ := p1
      have hw : IntKind.i64.wrap (1 + (k' : Int)) = 1 + (k' : Int) := by rw [IntKind.wrap_i64]; omega
      simp [go_sem, e2, hw]
      exact ⟨_, q, rfl, ⟨k', hk', rfl⟩, ⟨rfl, rfl, rfl, Nat.le_refl _, fun _ _ _ => rfl⟩, by omega, hR1⟩
    | 3 =>
      obtain rfl := Option.some.inj ho
      refine wpOp_do rfl rfl ?_
      clear hA ho
      unfold Oper.wp
      simp [go_sem, f0]
      exact ⟨_, q, rfl, rfl, ⟨rfl, rfl, rfl, Nat.le_refl _, fun _ _ _ => rfl⟩, by omega, hR1⟩
    | 4 =>
      obtain rfl := Option.some.inj ho
      refine wpOp_do rfl rfl ?_
      have p3 := hA { on := 3, ground := .data } (by simp) rfl; simp only [TQA, slotQA] at p3
      clear hA ho
      unfold Oper.wp
      simp [go_sem, p3]
      refine (pick_any w1 rb q ad len cap 2 zs hR1 (by omega) (by omega) (by omega)).mono ?_
      rintro e w2 ⟨v, hv, rfl, hR2, hg2⟩
      exact ⟨.int .i64 v, q + 1, rfl, ⟨v, hv, rfl⟩, hg2, by omega, hR2⟩
    | 5 =>
      obtain rfl := Option.some.inj ho
      refine wpOp_do rfl rfl ?_
      clear hA ho
      unfold Oper.wp
      simp [go_sem]
      exact ⟨_, q, rfl, ⟨w1.heap.size, rfl, by omega, bkNew _ _⟩, galloc _ _, by omega, hR1.alloc hl1 _⟩
    | 6 =>
      obtain rfl := Option.some.inj ho
      refine wpOp_do rfl rfl ?_
      clear hA ho
      unfold Oper.wp
      simp [go_sem, f0]
      exact ⟨_, q, rfl, rfl, ⟨rfl, rfl, rfl, Nat.le_refl _, fun _ _ _ => rfl⟩, by omega, hR1⟩
    | 7 =>
      obtain rfl := Option.some.inj ho
      refine wpOp_do rfl rfl ?_
      have p6 := hA { on := 6, ground := .data } (by simp) rfl; simp only [TQA, slotQA] at p6
      clear hA ho
      unfold Oper.wp
      simp [go_sem, p6]
      refine (pick_any w1 rb q ad len cap 20 zs hR1 (by omega) (by omega) (by omega)).mono ?_
      rintro e w2 ⟨v, hv, rfl, hR2, hg2⟩
      exact ⟨.int .i64 v, q + 1, rfl, ⟨v, hv, rfl⟩, hg2, by omega, hR2⟩
    | 8 =>
      obtain rfl := Option.some.inj ho
      refine wpOp_do rfl rfl ?_
      have p5 := hA { on := 5, ground := .data } (by simp) rfl; simp only [TQA, slotQA] at p5
      have p7 := hA { on := 7, ground := .data } (by simp) rfl; simp only [TQA, slotQA] at p7
      clear hA ho
      unfold Oper.wp
      obtain ⟨g', e5, hg', hb'⟩ := p5
      obtain ⟨k', hk', e7⟩ := p7
      have hk2 : (k' : Int) < 20 := by omega
      simp [go_sem, e5, e7, hk2]
      exact ⟨_, q, rfl, ⟨g', k', rfl, hk', hg', hb'⟩, ⟨rfl, rfl, rfl, Nat.le_refl _, fun _ _ _ => rfl⟩, by omega, hR1⟩
    | 9 =>
      obtain rfl := Option.some.inj ho
      refine wpOp_do rfl rfl ?_
      have p8 := hA { on := 8, ground := .data } (by simp) rfl; simp only [TQA, slotQA] at p8
      clear hA ho
      unfold Oper.wp
      obtain ⟨g', k', e8, hk', hg', hb'⟩ := p8
      obtain ⟨d, hd, hd1, hd2⟩ := kd_any k' hk'
      have hc := bkCell hb' hd
      simp [go_sem, e8, hc]
      exact ⟨_, q, rfl, ⟨d, rfl, hd1, hd2⟩, ⟨rfl, rfl, rfl, Nat.le_refl _, fun _ _ _ => rfl⟩, by omega, hR1⟩
    | 10 =>
      obtain rfl := Option.some.inj ho
      refine wpOp_do rfl rfl ?_
      clear hA ho
      unfold Oper.wp
      simp [go_sem]
      exact ⟨_, q, rfl, ⟨w1.heap.size, rfl, by omega, bkNew _ _⟩, galloc _ _, by omega, hR1.alloc hl1 _⟩
    | 11 =>
      obtain rfl := Option.some.inj ho
      refine wpOp_do rfl rfl ?_
      clear hA ho
      unfold Oper.wp
      simp [go_sem, f0]
      exact ⟨_, q, rfl, rfl, ⟨rfl, rfl, rfl, Nat.le_refl _, fun _ _ _ => rfl⟩, by omega, hR1⟩
    | 12 =>
      obtain rfl := Option.some.inj ho
      refine wpOp_do rfl rfl ?_
      have p11 := hA { on := 11, ground := .data } (by simp) rfl; simp only [TQA, slotQA] at p11
      clear hA ho
      unfold Oper.wp
      simp [go_sem, p11]
      refine (pick_any w1 rb q ad len cap 4 zs hR1 (by omega) (by omega) (by omega)).mono ?_
      rintro e w2 ⟨v, hv, rfl, hR2, hg2⟩
      exact ⟨.int .i64 v, q + 1, rfl, ⟨v, hv, rfl⟩, hg2, by omega, hR2⟩
    | 13 =>
      obtain rfl := Option.some.inj ho
      refine wpOp_do rfl rfl ?_
      have p10 := hA { on := 10, ground := .data } (by simp) rfl; simp only [TQA, slotQA] at p10
      have p12 := hA { on := 12, ground := .data } (by simp) rfl; simp only [TQA, slotQA] at p12
      clear hA ho
      unfold Oper.wp
      obtain ⟨g', e5, hg', hb'⟩ := p10
      obtain ⟨k', hk', e7⟩ := p12
      have hk2 : (k' : Int) < 4 := by omega
      simp [go_sem, e5, e7, hk2]
      exact ⟨_, q, rfl, ⟨g', k', rfl, hk', hg', hb'⟩, ⟨rfl, rfl, rfl, Nat.le_refl _, fun _ _ _ => rfl⟩, by omega, hR1⟩
    | 14 =>
      obtain rfl := Option.some.inj ho
      refine wpOp_do rfl rfl ?_
      have p13 := hA { on := 13, ground := .data } (by simp) rfl; simp only [TQA, slotQA] at p13
      clear hA ho
      unfold Oper.wp
      obtain ⟨g', k', e8, hk', hg', hb'⟩ := p13
      obtain ⟨s, hd, hd1⟩ := rf_any k' hk'
      have hc := bkCell hb' hd
      simp [go_sem, e8, hc]
      exact ⟨_, q, rfl, ⟨s, rfl, hd1⟩, ⟨rfl, rfl, rfl, Nat.le_refl _, fun _ _ _ => rfl⟩, by omega, hR1⟩
    | 15 =>
      obtain rfl := Option.some.inj ho
      refine wpOp_do rfl rfl ?_
      have p2 := hA { on := 2, ground := .data } (by simp) rfl; simp only [TQA, slotQA] at p2
      have p4 := hA { on := 4, ground := .data } (by simp) rfl; simp only [TQA, slotQA] at p4
      have p9 := hA { on := 9, ground := .data } (by simp) rfl; simp only [TQA, slotQA] at p9
      have p14 := hA { on := 14, ground := .data } (by simp) rfl; simp only [TQA, slotQA] at p14
      clear hA ho
      unfold Oper.wp
      obtain ⟨u', hu', e2⟩ := p2
      obtain ⟨r', hr', e4⟩ := p4
      obtain ⟨d', e9, hd1, hd2⟩ := p9
      obtain ⟨s', e14, hs'⟩ := p14
      simp [go_sem, e2, e4, e9, e14]
      exact ⟨_, q, rfl, ⟨1 + (u' : Int), r', d', s', rfl, by omega, by omega, by omega, by omega, hd1, hd2, hs'⟩, ⟨rfl, rfl, rfl, Nat.le_refl _, fun _ _ _ => rfl⟩, by omega, hR1⟩
    | 16 =>
      obtain rfl := Option.some.inj ho
      refine wpOp_do rfl rfl ?_
      clear hA ho
      unfold Oper.wp
      simp [go_sem]
      exact ⟨_, q, rfl, ⟨w1.heap.size, rfl, by omega, by omega, bkNew _ _⟩, galloc _ _, by omega, hR1.alloc hl1 _⟩
    | m + 17 => exact absurd hi (by omega)
  · intro ol ho y w2 q hq hR2 hg2 hall hF
    have hq2 : q ≤ p + 40 := by have : q ≤ p + 2 * (17 + 1) := hq; omega
    obtain rfl := Option.some.inj ho
    refine wpOp_do rfl rfl ?_
    clear ho
    obtain ⟨u, r, d, s, eA, h1, h2, h3, h4, h5, h6, h7⟩ := hall 15 (by omega)
    obtain ⟨k, eP, hk1, hkn, K0⟩ := hall 16 (by omega)
    simp only [slotQA] at eA eP
    have e0 := (hF 0 (by simp)).trans hf0
    have e3 := hF 3 (by simp)
    have e4 := hF 4 (by simp)
    have hl2 : rb < w2.heap.size := Nat.lt_of_lt_of_le hlt hg2.size
    have hk2 : k < w2.heap.size := (Array.getElem?_eq_some_iff.1 K0).1
    have c0' := bkCell (k := 0) K0 rfl; have g0' := bkFrozen (k := 0) K0
    have S0 : (w2.setCell ⟨k, 0, none⟩ (.int .i64 u)).heap[k]? = some (.cells #[.int .i64 u, .int .i64 0, .int .i64 0, .int .i64 0, .string ⟨#[]⟩, .string ⟨#[]⟩, .int .i64 0, .int .i64 0, .slice none 0 0, .int .i64 0, .string ⟨#[]⟩, .string ⟨#[]⟩, .bool false, .int .i64 0, .string ⟨#[]⟩] 27 (0, 0)) := bkSet (k := 0) (v := .int .i64 u) K0
    have G0 : w2.grownBy (w2.setCell ⟨k, 0, none⟩ (.int .i64 u)) (some k) := gSet w2 k 0 _
    have c1' := bkCell (k := 1) S0 rfl; have g1' := bkFrozen (k := 1) S0
    have S1 : ((w2.setCell ⟨k, 0, none⟩ (.int .i64 u)).setCell ⟨k, 1, none⟩ (.int .i64 0)).heap[k]? = some (.cells #[.int .i64 u, .int .i64 0, .int .i64 0, .int .i64 0, .string ⟨#[]⟩, .string ⟨#[]⟩, .int .i64 0, .int .i64 0, .slice none 0 0, .int .i64 0, .string ⟨#[]⟩, .string ⟨#[]⟩, .bool false, .int .i64 0, .string ⟨#[]⟩] 27 (0, 0)) := bkSet (k := 1) (v := .int .i64 0) S0
    have G1 : w2.grownBy ((w2.setCell ⟨k, 0, none⟩ (.int .i64 u)).setCell ⟨k, 1, none⟩ (.int .i64 0)) (some k) := gtrans G0 (gSet _ k 1 _)
    have c2' := bkCell (k := 2) S1 rfl; have g2' := bkFrozen (k := 2) S1
    have S2 : (((w2.setCell ⟨k, 0, none⟩ (.int .i64 u)).setCell ⟨k, 1, none⟩ (.int .i64 0)).setCell ⟨k, 2, none⟩ (.int .i64 r)).heap[k]? = some (.cells #[.int .i64 u, .int .i64 0, .int .i64 r, .int .i64 0, .string ⟨#[]⟩, .string ⟨#[]⟩, .int .i64 0, .int .i64 0, .slice none 0 0, .int .i64 0, .string ⟨#[]⟩, .string ⟨#[]⟩, .bool false, .int .i64 0, .string ⟨#[]⟩] 27 (0, 0)) := bkSet (k := 2) (v := .int .i64 r) S1
    have G2 : w2.grownBy (((w2.setCell ⟨k, 0, none⟩ (.int .i64 u)).setCell ⟨k, 1, none⟩ (.int .i64 0)).setCell ⟨k, 2, none⟩ (.int .i64 r)) (some k) := gtrans G1 (gSet _ k 2 _)
    have c3' := bkCell (k := 3) S2 rfl; have g3' := bkFrozen (k := 3) S2
    have S3 : ((((w2.setCell ⟨k, 0, none⟩ (.int .i64 u)).setCell ⟨k, 1, none⟩ (.int .i64 0)).setCell ⟨k, 2, none⟩ (.int .i64 r)).setCell ⟨k, 3, none⟩ (.int .i64 d)).heap[k]? = some (.cells #[.int .i64 u, .int .i64 0, .int .i64 r, .int .i64 d, .string ⟨#[]⟩, .string ⟨#[]⟩, .int .i64 0, .int .i64 0, .slice none 0 0, .int .i64 0, .string ⟨#[]⟩, .string ⟨#[]⟩, .bool false, .int .i64 0, .string ⟨#[]⟩] 27 (0, 0)) := bkSet (k := 3) (v := .int .i64 d) S2
    have G3 : w2.grownBy ((((w2.setCell ⟨k, 0, none⟩ (.int .i64 u)).setCell ⟨k, 1, none⟩ (.int .i64 0)).setCell ⟨k, 2, none⟩ (.int .i64 r)).setCell ⟨k, 3, none⟩ (.int .i64 d)) (some k) := gtrans G2 (gSet _ k 3 _)
    have c4' := bkCell (k := 4) S3 rfl; have g4' := bkFrozen (k := 4) S3
    have S4 : (((((w2.setCell ⟨k, 0, none⟩ (.int .i64 u)).setCell ⟨k, 1, none⟩ (.int .i64 0)).setCell ⟨k, 2, none⟩ (.int .i64 r)).setCell ⟨k, 3, none⟩ (.int .i64 d)).setCell ⟨k, 4, none⟩ (.string s)).heap[k]? = some (.cells #[.int .i64 u, .int .i64 0, .int .i64 r, .int .i64 d, .string s, .string ⟨#[]⟩, .int .i64 0, .int .i64 0, .slice none 0 0, .int .i64 0, .string ⟨#[]⟩, .string ⟨#[]⟩, .bool false, .int .i64 0, .string ⟨#[]⟩] 27 (0, 0)) := bkSet (k := 4) (v := .string s) S3
    have G4 : w2.grownBy (((((w2.setCell ⟨k, 0, none⟩ (.int .i64 u)).setCell ⟨k, 1, none⟩ (.int .i64 0)).setCell ⟨k, 2, none⟩ (.int .i64 r)).setCell ⟨k, 3, none⟩ (.int .i64 d)).setCell ⟨k, 4, none⟩ (.string s)) (some k) := gtrans G3 (gSet _ k 4 _)
    have c5' := bkCell (k := 5) S4 rfl; have g5' := bkFrozen (k := 5) S4
    have S5 : ((((((w2.setCell ⟨k, 0, none⟩ (.int .i64 u)).setCell ⟨k, 1, none⟩ (.int .i64 0)).setCell ⟨k, 2, none⟩ (.int .i64 r)).setCell ⟨k, 3, none⟩ (.int .i64 d)).setCell ⟨k, 4, none⟩ (.string s)).setCell ⟨k, 5, none⟩ (.string ⟨#[]⟩)).heap[k]? = some (.cells #[.int .i64 u, .int .i64 0, .int .i64 r, .int .i64 d, .string s, .string ⟨#[]⟩, .int .i64 0, .int .i64 0, .slice none 0 0, .int .i64 0, .string ⟨#[]⟩, .string ⟨#[]⟩, .bool false, .int .i64 0, .string ⟨#[]⟩] 27 (0, 0)) := bkSet (k := 5) (v := .string ⟨#[]⟩) S4
    have G5 : w2.grownBy ((((((w2.setCell ⟨k, 0, none⟩ (.int .i64 u)).setCell ⟨k, 1, none⟩ (.int .i64 0)).setCell ⟨k, 2, none⟩ (.int .i64 r)).setCell ⟨k, 3, none⟩ (.int .i64 d)).setCell ⟨k, 4, none⟩ (.string s)).setCell ⟨k, 5, none⟩ (.string ⟨#[]⟩)) (some k) := gtrans G4 (gSet _ k 5 _)
    have c6' := bkCell (k := 6) S5 rfl; have g6' := bkFrozen (k := 6) S5
    have S6 : (((((((w2.setCell ⟨k, 0, none⟩ (.int .i64 u)).setCell ⟨k, 1, none⟩ (.int .i64 0)).setCell ⟨k, 2, none⟩ (.int .i64 r)).setCell ⟨k, 3, none⟩ (.int .i64 d)).setCell ⟨k, 4, none⟩ (.string s)).setCell ⟨k, 5, none⟩ (.string ⟨#[]⟩)).setCell ⟨k, 6, none⟩ (.int .i64 0)).heap[k]? = some (.cells #[.int .i64 u, .int .i64 0, .int .i64 r, .int .i64 d, .string s, .string ⟨#[]⟩, .int .i64 0, .int .i64 0, .slice none 0 0, .int .i64 0, .string ⟨#[]⟩, .string ⟨#[]⟩, .bool false, .int .i64 0, .string ⟨#[]⟩] 27 (0, 0)) := bkSet (k := 6) (v := .int .i64 0) S5
    have G6 : w2.grownBy (((((((w2.setCell ⟨k, 0, none⟩ (.int .i64 u)).setCell ⟨k, 1, none⟩ (.int .i64 0)).setCell ⟨k, 2, none⟩ (.int .i64 r)).setCell ⟨k, 3, none⟩ (.int .i64 d)).setCell ⟨k, 4, none⟩ (.string s)).setCell ⟨k, 5, none⟩ (.string ⟨#[]⟩)).setCell ⟨k, 6, none⟩ (.int .i64 0)) (some k) := gtrans G5 (gSet _ k 6 _)
    have c7' := bkCell (k := 7) S6 rfl; have g7' := bkFrozen (k := 7) S6
    have S7 : ((((((((w2.setCell ⟨k, 0, none⟩ (.int .i64 u)).setCell ⟨k, 1, none⟩ (.int .i64 0)).setCell ⟨k, 2, none⟩ (.int .i64 r)).setCell ⟨k, 3, none⟩ (.int .i64 d)).setCell ⟨k, 4, none⟩ (.string s)).setCell ⟨k, 5, none⟩ (.string ⟨#[]⟩)).setCell ⟨k, 6, none⟩ (.int .i64 0)).setCell ⟨k, 7, none⟩ (.int .i64 0)).heap[k]? = some (.cells #[.int .i64 u, .int .i64 0, .int .i64 r, .int .i64 d, .string s, .string ⟨#[]⟩, .int .i64 0, .int .i64 0, .slice none 0 0, .int .i64 0, .string ⟨#[]⟩, .string ⟨#[]⟩, .bool false, .int .i64 0, .string ⟨#[]⟩] 27 (0, 0)) := bkSet (k := 7) (v := .int .i64 0) S6
    have G7 : w2.grownBy ((((((((w2.setCell ⟨k, 0, none⟩ (.int .i64 u)).setCell ⟨k, 1, none⟩ (.int .i64 0)).setCell ⟨k, 2, none⟩ (.int .i64 r)).setCell ⟨k, 3, none⟩ (.int .i64 d)).setCell ⟨k, 4, none⟩ (.string s)).setCell ⟨k, 5, none⟩ (.string ⟨#[]⟩)).setCell ⟨k, 6, none⟩ (.int .i64 0)).setCell ⟨k, 7, none⟩ (.int .i64 0)) (some k) := gtrans G6 (gSet _ k 7 _)
    have c8' := bkCell (k := 8) S7 rfl; have g8' := bkFrozen (k := 8) S7
    have S8 : (((((((((w2.setCell ⟨k, 0, none⟩ (.int .i64 u)).setCell ⟨k, 1, none⟩ (.int .i64 0)).setCell ⟨k, 2, none⟩ (.int .i64 r)).setCell ⟨k, 3, none⟩ (.int .i64 d)).setCell ⟨k, 4, none⟩ (.string s)).setCell ⟨k, 5, none⟩ (.string ⟨#[]⟩)).setCell ⟨k, 6, none⟩ (.int .i64 0)).setCell ⟨k, 7, none⟩ (.int .i64 0)).setCell ⟨k, 8, none⟩ (.slice none 0 0)).heap[k]? = some (.cells #[.int .i64 u, .int .i64 0, .int .i64 r, .int .i64 d, .string s, .string ⟨#[]⟩, .int .i64 0, .int .i64 0, .slice none 0 0, .int .i64 0, .string ⟨#[]⟩, .string ⟨#[]⟩, .bool false, .int .i64 0, .string ⟨#[]⟩] 27 (0, 0)) := bkSet (k := 8) (v := .slice none 0 0) S7
    have G8 : w2.grownBy (((((((((w2.setCell ⟨k, 0, none⟩ (.int .i64 u)).setCell ⟨k, 1, none⟩ (.int .i64 0)).setCell ⟨k, 2, none⟩ (.int .i64 r)).setCell ⟨k, 3, none⟩ (.int .i64 d)).setCell ⟨k, 4, none⟩ (.string s)).setCell ⟨k, 5, none⟩ (.string ⟨#[]⟩)).setCell ⟨k, 6, none⟩ (.int .i64 0)).setCell ⟨k, 7, none⟩ (.int .i64 0)).setCell ⟨k, 8, none⟩ (.slice none 0 0)) (some k) := gtrans G7 (gSet _ k 8 _)
    have c9' := bkCell (k := 9) S8 rfl; have g9' := bkFrozen (k := 9) S8
    have S9 : ((((((((((w2.setCell ⟨k, 0, none⟩ (.int .i64 u)).setCell ⟨k, 1, none⟩ (.int .i64 0)).setCell ⟨k, 2, none⟩ (.int .i64 r)).setCell ⟨k, 3, none⟩ (.int .i64 d)).setCell ⟨k, 4, none⟩ (.string s)).setCell ⟨k, 5, none⟩ (.string ⟨#[]⟩)).setCell ⟨k, 6, none⟩ (.int .i64 0)).setCell ⟨k, 7, none⟩ (.int .i64 0)).setCell ⟨k, 8, none⟩ (.slice none 0 0)).setCell ⟨k, 9, none⟩ (.int .i64 0)).heap[k]? = some (.cells #[.int .i64 u, .int .i64 0, .int .i64 r, .int .i64 d, .string s, .string ⟨#[]⟩, .int .i64 0, .int .i64 0, .slice none 0 0, .int .i64 0, .string ⟨#[]⟩, .string ⟨#[]⟩, .bool false, .int .i64 0, .string ⟨#[]⟩] 27 (0, 0)) := bkSet (k := 9) (v := .int .i64 0) S8
    have G9 : w2.grownBy ((((((((((w2.setCell ⟨k, 0, none⟩ (.int .i64 u)).setCell ⟨k, 1, none⟩ (.int .i64 0)).setCell ⟨k, 2, none⟩ (.int .i64 r)).setCell ⟨k, 3, none⟩ (.int .i64 d)).setCell ⟨k, 4, none⟩ (.string s)).setCell ⟨k, 5, none⟩ (.string ⟨#[]⟩)).setCell ⟨k, 6, none⟩ (.int .i64 0)).setCell ⟨k, 7, none⟩ (.int .i64 0)).setCell ⟨k, 8, none⟩ (.slice none 0 0)).setCell ⟨k, 9, none⟩ (.int .i64 0)) (some k) := gtrans G8 (gSet _ k 9 _)
    have c10' := bkCell (k := 10) S9 rfl; have g10' := bkFrozen (k := 10) S9
    have S10 : (((((((((((w2.setCell ⟨k, 0, none⟩ (.int .i64 u)).setCell ⟨k, 1, none⟩ (.int .i64 0)).setCell ⟨k, 2, none⟩ (.int .i64 r)).setCell ⟨k, 3, none⟩ (.int .i64 d)).setCell ⟨k, 4, none⟩ (.string s)).setCell ⟨k, 5, none⟩ (.string ⟨#[]⟩)).setCell ⟨k, 6, none⟩ (.int .i64 0)).setCell ⟨k, 7, none⟩ (.int .i64 0)).setCell ⟨k, 8, none⟩ (.slice none 0 0)).setCell ⟨k, 9, none⟩ (.int .i64 0)).setCell ⟨k, 10, none⟩ (.string ⟨#[]⟩)).heap[k]? = some (.cells #[.int .i64 u, .int .i64 0, .int .i64 r, .int .i64 d, .string s, .string ⟨#[]⟩, .int .i64 0, .int .i64 0, .slice none 0 0, .int .i64 0, .string ⟨#[]⟩, .string ⟨#[]⟩, .bool false, .int .i64 0, .string ⟨#[]⟩] 27 (0, 0)) := bkSet (k := 10) (v := .string ⟨#[]⟩) S9
    have G10 : w2.grownBy (((((((((((w2.setCell ⟨k, 0, none⟩ (.int .i64 u)).setCell ⟨k, 1, none⟩ (.int .i64 0)).setCell ⟨k, 2, none⟩ (.int .i64 r)).setCell ⟨k, 3, none⟩ (.int .i64 d)).setCell ⟨k, 4, none⟩ (.string s)).setCell ⟨k, 5, none⟩ (.string ⟨#[]⟩)).setCell ⟨k, 6, none⟩ (.int .i64 0)).setCell ⟨k, 7, none⟩ (.int .i64 0)).setCell ⟨k, 8, none⟩ (.slice none 0 0)).setCell ⟨k, 9, none⟩ (.int .i64 0)).setCell ⟨k, 10, none⟩ (.string ⟨#[]⟩)) (some k) := gtrans G9 (gSet _ k 10 _)
    have c11' := bkCell (k := 11) S10 rfl; have g11' := bkFrozen (k := 11) S10
    have S11 : ((((((((((((w2.setCell ⟨k, 0, none⟩ (.int .i64 u)).setCell ⟨k, 1, none⟩ (.int .i64 0)).setCell ⟨k, 2, none⟩ (.int .i64 r)).setCell ⟨k, 3, none⟩ (.int .i64 d)).setCell ⟨k, 4, none⟩ (.string s)).setCell ⟨k, 5, none⟩ (.string ⟨#[]⟩)).setCell ⟨k, 6, none⟩ (.int .i64 0)).setCell ⟨k, 7, none⟩ (.int .i64 0)).setCell ⟨k, 8, none⟩ (.slice none 0 0)).setCell ⟨k, 9, none⟩ (.int .i64 0)).setCell ⟨k, 10, none⟩ (.string ⟨#[]⟩)).setCell ⟨k, 11, none⟩ (.string ⟨#[]⟩)).heap[k]? = some (.cells #[.int .i64 u, .int .i64 0, .int .i64 r, .int .i64 d, .string s, .string ⟨#[]⟩, .int .i64 0, .int .i64 0, .slice none 0 0, .int .i64 0, .string ⟨#[]⟩, .string ⟨#[]⟩, .bool false, .int .i64 0, .string ⟨#[]⟩] 27 (0, 0)) := bkSet (k := 11) (v := .string ⟨#[]⟩) S10
    have G11 : w2.grownBy ((((((((((((w2.setCell ⟨k, 0, none⟩ (.int .i64 u)).setCell ⟨k, 1, none⟩ (.int .i64 0)).setCell ⟨k, 2, none⟩ (.int .i64 r)).setCell ⟨k, 3, none⟩ (.int .i64 d)).setCell ⟨k, 4, none⟩ (.string s)).setCell ⟨k, 5, none⟩ (.string ⟨#[]⟩)).setCell ⟨k, 6, none⟩ (.int .i64 0)).setCell ⟨k, 7, none⟩ (.int .i64 0)).setCell ⟨k, 8, none⟩ (.slice none 0 0)).setCell ⟨k, 9, none⟩ (.int .i64 0)).setCell ⟨k, 10, none⟩ (.string ⟨#[]⟩)).setCell ⟨k, 11, none⟩ (.string ⟨#[]⟩)) (some k) := gtrans G10 (gSet _ k 11 _)
    have c12' := bkCell (k := 12) S11 rfl; have g12' := bkFrozen (k := 12) S11
    have S12 : (((((((((((((w2.setCell ⟨k, 0, none⟩ (.int .i64 u)).setCell ⟨k, 1, none⟩ (.int .i64 0)).setCell ⟨k, 2, none⟩ (.int .i64 r)).setCell ⟨k, 3, none⟩ (.int .i64 d)).setCell ⟨k, 4, none⟩ (.string s)).setCell ⟨k, 5, none⟩ (.string ⟨#[]⟩)).setCell ⟨k, 6, none⟩ (.int .i64 0)).setCell ⟨k, 7, none⟩ (.int .i64 0)).setCell ⟨k, 8, none⟩ (.slice none 0 0)).setCell ⟨k, 9, none⟩ (.int .i64 0)).setCell ⟨k, 10, none⟩ (.string ⟨#[]⟩)).setCell ⟨k, 11, none⟩ (.string ⟨#[]⟩)).setCell ⟨k, 12, none⟩ (.bool false)).heap[k]? = some (.cells #[.int .i64 u, .int .i64 0, .int .i64 r, .int .i64 d, .string s, .string ⟨#[]⟩, .int .i64 0, .int .i64 0, .slice none 0 0, .int .i64 0, .string ⟨#[]⟩, .string ⟨#[]⟩, .bool false, .int .i64 0, .string ⟨#[]⟩] 27 (0, 0)) := bkSet (k := 12) (v := .bool false) S11
    have G12 : w2.grownBy (((((((((((((w2.setCell ⟨k, 0, none⟩ (.int .i64 u)).setCell ⟨k, 1, none⟩ (.int .i64 0)).setCell ⟨k, 2, none⟩ (.int .i64 r)).setCell ⟨k, 3, none⟩ (.int .i64 d)).setCell ⟨k, 4, none⟩ (.string s)).setCell ⟨k, 5, none⟩ (.string ⟨#[]⟩)).setCell ⟨k, 6, none⟩ (.int .i64 0)).setCell ⟨k, 7, none⟩ (.int .i64 0)).setCell ⟨k, 8, none⟩ (.slice none 0 0)).setCell ⟨k, 9, none⟩ (.int .i64 0)).setCell ⟨k, 10, none⟩ (.string ⟨#[]⟩)).setCell ⟨k, 11, none⟩ (.string ⟨#[]⟩)).setCell ⟨k, 12, none⟩ (.bool false)) (some k) := gtrans G11 (gSet _ k 12 _)
    have c13' := bkCell (k := 13) S12 rfl; have g13' := bkFrozen (k := 13) S12
    have S13 : ((((((((((((((w2.setCell ⟨k, 0, none⟩ (.int .i64 u)).setCell ⟨k, 1, none⟩ (.int .i64 0)).setCell ⟨k, 2, none⟩ (.int .i64 r)).setCell ⟨k, 3, none⟩ (.int .i64 d)).setCell ⟨k, 4, none⟩ (.string s)).setCell ⟨k, 5, none⟩ (.string ⟨#[]⟩)).setCell ⟨k, 6, none⟩ (.int .i64 0)).setCell ⟨k, 7, none⟩ (.int .i64 0)).setCell ⟨k, 8, none⟩ (.slice none 0 0)).setCell ⟨k, 9, none⟩ (.int .i64 0)).setCell ⟨k, 10, none⟩ (.string ⟨#[]⟩)).setCell ⟨k, 11, none⟩ (.string ⟨#[]⟩)).setCell ⟨k, 12, none⟩ (.bool false)).setCell ⟨k, 13, none⟩ (.int .i64 0)).heap[k]? = some (.cells #[.int .i64 u, .int .i64 0, .int .i64 r, .int .i64 d, .string s, .string ⟨#[]⟩, .int .i64 0, .int .i64 0, .slice none 0 0, .int .i64 0, .string ⟨#[]⟩, .string ⟨#[]⟩, .bool false, .int .i64 0, .string ⟨#[]⟩] 27 (0, 0)) := bkSet (k := 13) (v := .int .i64 0) S12
    have G13 : w2.grownBy ((((((((((((((w2.setCell ⟨k, 0, none⟩ (.int .i64 u)).setCell ⟨k, 1, none⟩ (.int .i64 0)).setCell ⟨k, 2, none⟩ (.int .i64 r)).setCell ⟨k, 3, none⟩ (.int .i64 d)).setCell ⟨k, 4, none⟩ (.string s)).setCell ⟨k, 5, none⟩ (.string ⟨#[]⟩)).setCell ⟨k, 6, none⟩ (.int .i64 0)).setCell ⟨k, 7, none⟩ (.int .i64 0)).setCell ⟨k, 8, none⟩ (.slice none 0 0)).setCell ⟨k, 9, none⟩ (.int .i64 0)).setCell ⟨k, 10, none⟩ (.string ⟨#[]⟩)).setCell ⟨k, 11, none⟩ (.string ⟨#[]⟩)).setCell ⟨k, 12, none⟩ (.bool false)).setCell ⟨k, 13, none⟩ (.int .i64 0)) (some k) := gtrans G12 (gSet _ k 13 _)
    have c14' := bkCell (k := 14) S13 rfl; have g14' := bkFrozen (k := 14) S13
    have S14 : (((((((((((((((w2.setCell ⟨k, 0, none⟩ (.int .i64 u)).setCell ⟨k, 1, none⟩ (.int .i64 0)).setCell ⟨k, 2, none⟩ (.int .i64 r)).setCell ⟨k, 3, none⟩ (.int .i64 d)).setCell ⟨k, 4, none⟩ (.string s)).setCell ⟨k, 5, none⟩ (.string ⟨#[]⟩)).setCell ⟨k, 6, none⟩ (.int .i64 0)).setCell ⟨k, 7, none⟩ (.int .i64 0)).setCell ⟨k, 8, none⟩ (.slice none 0 0)).setCell ⟨k, 9, none⟩ (.int .i64 0)).setCell ⟨k, 10, none⟩ (.string ⟨#[]⟩)).setCell ⟨k, 11, none⟩ (.string ⟨#[]⟩)).setCell ⟨k, 12, none⟩ (.bool false)).setCell ⟨k, 13, none⟩ (.int .i64 0)).setCell ⟨k, 14, none⟩ (.string ⟨#[]⟩)).heap[k]? = some (.cells #[.int .i64 u, .int .i64 0, .int .i64 r, .int .i64 d, .string s, .string ⟨#[]⟩, .int .i64 0, .int .i64 0, .slice none 0 0, .int .i64 0, .string ⟨#[]⟩, .string ⟨#[]⟩, .bool false, .int .i64 0, .string ⟨#[]⟩] 27 (0, 0)) := bkSet (k := 14) (v := .string ⟨#[]⟩) S13
    have G14 : w2.grownBy (((((((((((((((w2.setCell ⟨k, 0, none⟩ (.int .i64 u)).setCell ⟨k, 1, none⟩ (.int .i64 0)).setCell ⟨k, 2, none⟩ (.int .i64 r)).setCell ⟨k, 3, none⟩ (.int .i64 d)).setCell ⟨k, 4, none⟩ (.string s)).setCell ⟨k, 5, none⟩ (.string ⟨#[]⟩)).setCell ⟨k, 6, none⟩ (.int .i64 0)).setCell ⟨k, 7, none⟩ (.int .i64 0)).setCell ⟨k, 8, none⟩ (.slice none 0 0)).setCell ⟨k, 9, none⟩ (.int .i64 0)).setCell ⟨k, 10, none⟩ (.string ⟨#[]⟩)).setCell ⟨k, 11, none⟩ (.string ⟨#[]⟩)).setCell ⟨k, 12, none⟩ (.bool false)).setCell ⟨k, 13, none⟩ (.int .i64 0)).setCell ⟨k, 14, none⟩ (.string ⟨#[]⟩)) (some k) := gtrans G13 (gSet _ k 14 _)
    have F := hend y _ q k u r d s h1 h2 h3 h4 h5 h6 h7 hq2 (hR2.kept G14 (fun x e => by cases e; omega) hl2) (gNew hg2 G14 hk1) hk1 (by simpa [World.setCell] using hk2) S14
    clear hend hall hF G14 S0 S1 S2 S3 S4 S5 S6 S7 S8 S9 S10 S11 S12 S13 S14 G0 G1 G2 G3 G4 G5 G6 G7 G8 G9 G10 G11 G12 G13
    rw [show ((List.range 250).map y).toArray = #[y 0, y 1, y 2, y 3, y 4, y 5, y 6, y 7, y 8, y 9, y 10, y 11, y 12, y 13, y 14, y 15, y 16, y 17, y 18, y 19, y 20, y 21, y 22, y 23, y 24, y 25, y 26, y 27, y 28, y 29, y 30, y 31, y 32, y 33, y 34, y 35, y 36, y 37, y 38, y 39, y 40, y 41, y 42, y 43, y 44, y 45, y 46, y 47, y 48, y 49, y 50, y 51, y 52, y 53, y 54, y 55, y 56, y 57, y 58, y 59, y 60, y 61, y 62, y 63, y 64, y 65, y 66, y 67, y 68, y 69, y 70, y 71, y 72, y 73, y 74, y 75, y 76, y 77, y 78, y 79, y 80, y 81, y 82, y 83, y 84, y 85, y 86, y 87, y 88, y 89, y 90, y 91, y 92, y 93, y 94, y 95, y 96, y 97, y 98, y 99, y 100, y 101, y 102, y 103, y 104, y 105, y 106, y 107, y 108, y 109, y 110, y 111, y 112, y 113, y 114, y 115, y 116, y 117, y 118, y 119, y 120, y 121, y 122, y 123, y 124, y 125, y 126, y 127, y 128, y 129, y 130, y 131, y 132, y 133, y 134, y 135, y 136, y 137, y 138, y 139, y 140, y 141, y 142, y 143, y 144, y 145, y 146, y 147, y 148, y 149, y 150, y 151, y 152, y 153, y 154, y 155, y 156, y 157, y 158, y 159, y 160, y 161, y 162, y 163, y 164, y 165, y 166, y 167, y 168, y 169, y 170, y 171, y 172, y 173, y 174, y 175, y 176, y 177, y 178, y 179, y 180, y 181, y 182, y 183, y 184, y 185, y 186, y 187, y 188, y 189, y 190, y 191, y 192, y 193, y 194, y 195, y 196, y 197, y 198, y 199, y 200, y 201, y 202, y 203, y 204, y 205, y 206, y 207, y 208, y 209, y 210, y 211, y 212, y 213, y 214, y 215, y 216, y 217, y 218, y 219, y 220, y 221, y 222, y 223, y 224, y 225, y 226, y 227, y 228, y 229, y 230, y 231, y 232, y 233, y 234, y 235, y 236, y 237, y 238, y 239, y 240, y 241, y 242, y 243, y 244, y 245, y 246, y 247, y 248, y 249] from rfl]
    rw [e0, e3, e4, eA, eP]
    rw [eA] at F
    unfold Oper.wp
    simp [go_sem, c0', c1', c2', c3', c4', c5', c6', c7', c8', c9', c10', c11', c12', c13', c14', g0', g1', g2', g3', g4', g5', g6', g7', g8', g9', g10', g11', g12', g13', g14']
    exact F
end Go.Proofs.Ytcdkjlbpcihcjaa.W
