
/-
  One edit of a request is drawn: the second region of the specification's l21Req that draws its order. (Written by genslotq2.py.) No condition but that the reader is open.
-/
import Derived.Test.YtcdkjlbpcihcjaaMathSlot3
import Derived.Test.YtcdkjlbpcihcjaaMathBlk
namespace Go.Proofs.Ytcdkjlbpcihcjaa.W
open Go.RowKit Go.Proofs.Ytcdkjlbpcihcjaa.M
set_option linter.unusedVariables false

theorem pb_any (k : Nat) (h : k < 4) : ∃ s : ByteArray, (#[.string ⟨#[97, 47, 98]⟩, .string ⟨#[97, 47, 99]⟩, .string ⟨#[97]⟩, .string ⟨#[97, 47, 98, 47, 99]⟩] : Array Value)[k]? = some (.string s) ∧ s.size ≤ 64 := by
  rcases (show k = 0 ∨ k = 1 ∨ k = 2 ∨ k = 3 from by omega) with rfl | rfl | rfl | rfl <;> exact ⟨_, rfl, by decide⟩
/-- the regions that draw -/
def drawnM : Code → List (Array Oper)
  | .region _ ops true => [ops]
  | .seq a b => drawnM a ++ drawnM b
  | .cond _ a b => drawnM a ++ drawnM b
  | .block _ a => drawnM a
  | .loop a => drawnM a
  | _ => []
/-- what each operation leaves -/
def TQB (rb base : Nat) : Nat → Value → World → Prop
  | 0 => fun v W => ∃ g, v = .slice (some ⟨g, 0, none⟩) 4 4 ∧ g ≠ rb ∧ W.heap[g]? = some (.cells #[.string ⟨#[97, 47, 98]⟩, .string ⟨#[97, 47, 99]⟩, .string ⟨#[97]⟩, .string ⟨#[97, 47, 98, 47, 99]⟩] 9 (0, 0))
  | 1 => fun v _ => v = .pointer (some ⟨rb, 0, none⟩)
  | 2 => fun v _ => ∃ k : Nat, k < 4 ∧ v = .int .i64 k
  | 3 => fun v W => ∃ g k : Nat, v = .pointer (some ⟨g, k, none⟩) ∧ k < 4 ∧ g ≠ rb ∧ W.heap[g]? = some (.cells #[.string ⟨#[97, 47, 98]⟩, .string ⟨#[97, 47, 99]⟩, .string ⟨#[97]⟩, .string ⟨#[97, 47, 98, 47, 99]⟩] 9 (0, 0))
  | 4 => fun v _ => ∃ s : ByteArray, v = .string s ∧ s.size ≤ 64
  | 5 => fun v _ => v = .pointer (some ⟨rb, 0, none⟩)
  | 6 => fun v _ => ∃ s : ByteArray, v = .string s ∧ s.size ≤ 64
  | 7 => fun v _ => ∃ s b : ByteArray, v = .agg #[.string s, .string b, .bool false] ∧ s.size ≤ 64 ∧ b.size ≤ 64
  | 8 => fun v W => ∃ (g : Nat) (s b : ByteArray), v = .slice (some ⟨g, 0, none⟩) 1 1 ∧ base ≤ g ∧ g ≠ rb ∧ W.heap[g]? = some (.cells #[.string s, .string b, .bool false] 41 (0, 0)) ∧ s.size ≤ 64 ∧ b.size ≤ 64
  | _ => fun _ _ => True
/-- its slot -/
def slotQB : Nat → Nat
  | 0 => 116
  | 1 => 117
  | 2 => 118
  | 3 => 119
  | 4 => 120
  | 5 => 121
  | 6 => 122
  | 7 => 123
  | 8 => 124
  | _ => 999
set_option maxRecDepth 100000 in
set_option maxHeartbeats 8000000 in
theorem frontQB {rid : Nat} {ops : Array Oper} (hops : ((Try.f21.body.map drawnM).getD [])[1]? = some ops) {Q : Exit → Act → World → Prop} {a : Act} {w : World} {rb p m : Nat} {ad : Option Addr} {len cap : Nat} {zs : Nat → Int} {cs : Array Value} {u8 : Value} {tm : TypeId}
    (hsz : a.tmps.size = 250) (hdf : a.defers = []) (hf0 : a.tmps[0]?.getD undef = .pointer (some ⟨rb, 0, none⟩)) (hf5 : a.tmps[5]?.getD undef = .pointer (some ⟨m, 0, none⟩)) (hRd : Rd w rb p ad len cap zs) (hp : p ≤ 500000) (hlt : rb < w.heap.size)
    (hm : w.heap[m]? = some (.cells cs tm (0, 0))) (hm8 : cs[8]? = some u8) (hmr : m ≠ rb)
    (hend : ∀ (y : Nat → Value) (w2 : World) (q g : Nat) (s b : ByteArray), s.size ≤ 64 → b.size ≤ 64 → q ≤ p + 22 → Rd w2 rb q ad len cap zs → w.grownBy w2 (some rb) → w.heap.size ≤ g → w2.heap[g]? = some (.cells #[.string s, .string b, .bool false] 41 (0, 0)) →
      Q .normal ⟨#[.pointer (some ⟨rb, 0, none⟩), y 1, y 2, a.tmps[3]?.getD undef, a.tmps[4]?.getD undef, .pointer (some ⟨m, 0, none⟩), y 6, y 7, y 8, y 9, y 10, y 11, y 12, y 13, y 14, y 15, y 16, y 17, y 18, y 19, y 20, y 21, y 22, y 23, y 24, y 25, y 26, y 27, y 28, y 29, y 30, y 31, y 32, y 33, y 34, y 35, y 36, y 37, y 38, y 39, y 40, y 41, y 42, y 43, y 44, y 45, y 46, y 47, y 48, y 49, y 50, y 51, y 52, y 53, y 54, y 55, y 56, y 57, y 58, y 59, y 60, y 61, y 62, y 63, y 64, y 65, y 66, y 67, y 68, y 69, y 70, y 71, y 72, y 73, y 74, y 75, y 76, y 77, y 78, y 79, y 80, y 81, y 82, y 83, y 84, y 85, y 86, y 87, y 88, y 89, y 90, y 91, y 92, y 93, y 94, y 95, y 96, y 97, y 98, y 99, y 100, y 101, y 102, y 103, y 104, y 105, y 106, y 107, y 108, y 109, y 110, y 111, y 112, y 113, y 114, y 115, y 116, y 117, y 118, y 119, y 120, y 121, y 122, y 123, .slice (some ⟨g, 0, none⟩) 1 1, .pointer (some ⟨m, 8, none⟩), y 126, y 127, y 128, y 129, y 130, y 131, y 132, y 133, y 134, y 135, y 136, y 137, y 138, y 139, y 140, y 141, y 142, y 143, y 144, y 145, y 146, y 147, y 148, y 149, y 150, y 151, y 152, y 153, y 154, y 155, y 156, y 157, y 158, y 159, y 160, y 161, y 162, y 163, y 164, y 165, y 166, y 167, y 168, y 169, y 170, y 171, y 172, y 173, y 174, y 175, y 176, y 177, y 178, y 179, y 180, y 181, y 182, y 183, y 184, y 185, y 186, y 187, y 188, y 189, y 190, y 191, y 192, y 193, y 194, y 195, y 196, y 197, y 198, y 199, y 200, y 201, y 202, y 203, y 204, y 205, y 206, y 207, y 208, y 209, y 210, y 211, y 212, y 213, y 214, y 215, y 216, y 217, y 218, y 219, y 220, y 221, y 222, y 223, y 224, y 225, y 226, y 227, y 228, y 229, y 230, y 231, y 232, y 233, y 234, y 235, y 236, y 237, y 238, y 239, y 240, y 241, y 242, y 243, y 244, y 245, y 246, y 247, y 248, y 249], []⟩ (w2.setCell ⟨m, 8, none⟩ (.slice (some ⟨g, 0, none⟩) 1 1))) : (Code.region rid ops true).wp Try.prog Q a w := by
  simp only [Try.f21, Option.map_some, Option.getD_some, drawnM, List.nil_append, List.append_nil, List.cons_append, List.getElem?_cons_zero, List.getElem?_cons_succ] at hops
  obtain rfl := Option.some.inj hops
  clear hops
  refine region_slots_last2 (p := p) 9 2 250 slotQB [0, 3, 4, 5] (TQB rb w.heap.size) rfl (by kernel_rfl) ?_ hsz hdf hRd ?_ ?_ ?_ ?_ ?_ ?_ ?_
  · clear hend
    intro i o ho e he hb
    match i with
    | 0 => obtain rfl := Option.some.inj ho; revert hb; revert e; decide
    | 1 => obtain rfl := Option.some.inj ho; revert hb; revert e; decide
    | 2 => obtain rfl := Option.some.inj ho; revert hb; revert e; decide
    | 3 => obtain rfl := Option.some.inj ho; revert hb; revert e; decide
    | 4 => obtain rfl := Option.some.inj ho; revert hb; revert e; decide
    | 5 => obtain rfl := Option.some.inj ho; revert hb; revert e; decide
    | 6 => obtain rfl := Option.some.inj ho; revert hb; revert e; decide
    | 7 => obtain rfl := Option.some.inj ho; revert hb; revert e; decide
    | 8 => obtain rfl := Option.some.inj ho; revert hb; revert e; decide
    | 9 => obtain rfl := Option.some.inj ho; revert hb; revert e; decide
    | 10 => obtain rfl := Option.some.inj ho; revert hb; revert e; decide
    | i + 11 => cases ho
  · intro i v w1 w2 hi h hg
    match i, hi with
    | 0, _ => obtain ⟨g, h1, h2, h3⟩ := h; exact ⟨g, h1, h2, bkKept h3 hg h2⟩
    | 1, _ => exact h
    | 2, _ => exact h
    | 3, _ => obtain ⟨g, k, h1, h2, h3, h4⟩ := h; exact ⟨g, k, h1, h2, h3, bkKept h4 hg h3⟩
    | 4, _ => exact h
    | 5, _ => exact h
    | 6, _ => exact h
    | 7, _ => exact h
    | 8, _ => obtain ⟨g, s, b, h1, h2, h3, h4, h5⟩ := h; exact ⟨g, s, b, h1, h2, h3, bkKept h4 hg h3, h5⟩
    | k + 9, hk => exact absurd hk (by omega)
  · decide
  · decide
  · clear hend
    intro S hD h9 i hi
    have s0 := h9 _ rfl { on := 0, ground := .phase } (by simp) rfl
    have s1 := h9 _ rfl { on := 1, ground := .phase } (by simp) rfl
    have s2 := h9 _ rfl { on := 2, ground := .phase } (by simp) rfl
    have s3 := h9 _ rfl { on := 3, ground := .phase } (by simp) rfl
    have s4 := h9 _ rfl { on := 4, ground := .phase } (by simp) rfl
    have s5 := h9 _ rfl { on := 5, ground := .phase } (by simp) rfl
    have s6 := h9 _ rfl { on := 6, ground := .phase } (by simp) rfl
    have s7 := h9 _ rfl { on := 7, ground := .phase } (by simp) rfl
    have s8 := h9 _ rfl { on := 8, ground := .phase } (by simp) rfl
    match i, hi with
    | 0, _ => exact s0
    | 1, _ => exact s1
    | 2, _ => exact s2
    | 3, _ => exact s3
    | 4, _ => exact s4
    | 5, _ => exact s5
    | 6, _ => exact s6
    | 7, _ => exact s7
    | 8, _ => exact s8
    | k + 9, hk => exact absurd hk (by omega)
  · intro ol ho
    obtain rfl := Option.some.inj ho
    decide
  · clear hend
    intro i o ho hi a1 w1 q hF hA hq hR1 hg1
    have hq' : q + 2 ≤ p + 2 * 11 := hq
    clear hq
    have hz1 := hg1.size
    have hl1 : rb < w1.heap.size := by omega
    have f0 := (hF 0 (by simp)).trans hf0
    clear hF
    match i with
    | 0 =>
      obtain rfl := Option.some.inj ho
      refine wpOp_do rfl rfl ?_
      clear hA ho
      unfold Oper.wp
      simp [go_sem]
      exact ⟨_, q, rfl, ⟨w1.heap.size, rfl, by omega, bkNew _ _⟩, galloc _ _, by omega, hR1.alloc hl1 _⟩
    | 1 =>
      obtain rfl := Option.some.inj ho
      refine wpOp_do rfl rfl ?_
      clear hA ho
      unfold Oper.wp
      simp [go_sem, f0]
      exact ⟨_, q, rfl, rfl, ⟨rfl, rfl, rfl, Nat.le_refl _, fun _ _ _ => rfl⟩, by omega, hR1⟩
    | 2 =>
      obtain rfl := Option.some.inj ho
      refine wpOp_do rfl rfl ?_
      have p1 := hA { on := 1, ground := .data } (by simp) rfl; simp only [TQB, slotQB] at p1
      clear hA ho
      unfold Oper.wp
      simp [go_sem, p1]
      refine (pick_any w1 rb q ad len cap 4 zs hR1 (by omega) (by omega) (by omega)).mono ?_
      rintro e w2 ⟨v, hv, rfl, hR2, hg2⟩
      exact ⟨.int .i64 v, q + 1, rfl, ⟨v, hv, rfl⟩, hg2, by omega, hR2⟩
    | 3 =>
      obtain rfl := Option.some.inj ho
      refine wpOp_do rfl rfl ?_
      have p0 := hA { on := 0, ground := .data } (by simp) rfl; simp only [TQB, slotQB] at p0
      have p2 := hA { on := 2, ground := .data } (by simp) rfl; simp only [TQB, slotQB] at p2
      clear hA ho
      unfold Oper.wp
      obtain ⟨g', e5, hg', hb'⟩ := p0
      obtain ⟨k', hk', e7⟩ := p2
      have hk2 : (k' : Int) < 4 := by omega
      simp [go_sem, e5, e7, hk2]
      exact ⟨_, q, rfl, ⟨g', k', rfl, hk', hg', hb'⟩, ⟨rfl, rfl, rfl, Nat.le_refl _, fun _ _ _ => rfl⟩, by omega, hR1⟩
    | 4 =>
      obtain rfl := Option.some.inj ho
      refine wpOp_do rfl rfl ?_
      have p3 := hA { on := 3, ground := .data } (by simp) rfl; simp only [TQB, slotQB] at p3
      clear hA ho
      unfold Oper.wp
      obtain ⟨g', k', e8, hk', hg', hb'⟩ := p3
      obtain ⟨s, hd, hd1⟩ := pb_any k' hk'
      have hc := bkCell hb' hd
      simp [go_sem, e8, hc]
      exact ⟨_, q, rfl, ⟨s, rfl, hd1⟩, ⟨rfl, rfl, rfl, Nat.le_refl _, fun _ _ _ => rfl⟩, by omega, hR1⟩
    | 5 =>
      obtain rfl := Option.some.inj ho
      refine wpOp_do rfl rfl ?_
      clear hA ho
      unfold Oper.wp
      simp [go_sem, f0]
      exact ⟨_, q, rfl, rfl, ⟨rfl, rfl, rfl, Nat.le_refl _, fun _ _ _ => rfl⟩, by omega, hR1⟩
    | 6 =>
      obtain rfl := Option.some.inj ho
      refine wpOp_do rfl rfl ?_
      have p5 := hA { on := 5, ground := .data } (by simp) rfl; simp only [TQB, slotQB] at p5
      clear hA ho
      unfold Oper.wp
      simp [go_sem, p5]
      refine (bytes_any w1 rb q ad len cap zs hR1 (by omega) (by omega)).mono ?_
      rintro e w2 ⟨b, p2, rfl, hb, hp2, hR2, hg2⟩
      exact ⟨.string b, p2, rfl, ⟨b, rfl, by omega⟩, hg2, by omega, hR2⟩
    | 7 =>
      obtain rfl := Option.some.inj ho
      refine wpOp_do rfl rfl ?_
      have p4 := hA { on := 4, ground := .data } (by simp) rfl; simp only [TQB, slotQB] at p4
      have p6 := hA { on := 6, ground := .data } (by simp) rfl; simp only [TQB, slotQB] at p6
      clear hA ho
      unfold Oper.wp
      obtain ⟨s', e4, hs'⟩ := p4
      obtain ⟨b', e6, hb'⟩ := p6
      simp [go_sem, e4, e6]
      exact ⟨_, q, rfl, ⟨s', b', rfl, hs', hb'⟩, ⟨rfl, rfl, rfl, Nat.le_refl _, fun _ _ _ => rfl⟩, by omega, hR1⟩
    | 8 =>
      obtain rfl := Option.some.inj ho
      refine wpOp_do rfl rfl ?_
      have p7 := hA { on := 7, ground := .data } (by simp) rfl; simp only [TQB, slotQB] at p7
      clear hA ho
      unfold Oper.wp
      obtain ⟨s', b', e7, hs', hb'⟩ := p7
      simp [go_sem, e7]
      exact ⟨_, q, rfl, ⟨w1.heap.size, s', b', rfl, by omega, by omega, bkNew _ _, hs', hb'⟩, galloc _ _, by omega, hR1.alloc hl1 _⟩
    | k + 9 => exact absurd hi (by omega)
  · intro ol ho y w2 q hq hR2 hg2 hall hF
    obtain rfl := Option.some.inj ho
    refine wpOp_do rfl rfl ?_
    clear ho
    obtain ⟨g, s, b, e124, hg1, hgr, hblk, hs, hb⟩ := hall 8 (by omega)
    simp only [slotQB] at e124
    have e0 := (hF 0 (by simp)).trans hf0
    have e5 := (hF 5 (by simp)).trans hf5
    have e3 := hF 3 (by simp)
    have e4 := hF 4 (by simp)
    have hq2 : q ≤ p + 22 := by have : q ≤ p + 2 * (9 + 2) := hq; omega
    have m2 := bkKept hm hg2 hmr
    have c8 := bkCell (k := 8) m2 hm8
    have f8 := bkFrozen (k := 8) m2
    have F := hend y w2 q g s b hs hb hq2 hR2 hg2 hg1 hblk
    clear hend hall hF
    rw [show ((List.range 250).map y).toArray = #[y 0, y 1, y 2, y 3, y 4, y 5, y 6, y 7, y 8, y 9, y 10, y 11, y 12, y 13, y 14, y 15, y 16, y 17, y 18, y 19, y 20, y 21, y 22, y 23, y 24, y 25, y 26, y 27, y 28, y 29, y 30, y 31, y 32, y 33, y 34, y 35, y 36, y 37, y 38, y 39, y 40, y 41, y 42, y 43, y 44, y 45, y 46, y 47, y 48, y 49, y 50, y 51, y 52, y 53, y 54, y 55, y 56, y 57, y 58, y 59, y 60, y 61, y 62, y 63, y 64, y 65, y 66, y 67, y 68, y 69, y 70, y 71, y 72, y 73, y 74, y 75, y 76, y 77, y 78, y 79, y 80, y 81, y 82, y 83, y 84, y 85, y 86, y 87, y 88, y 89, y 90, y 91, y 92, y 93, y 94, y 95, y 96, y 97, y 98, y 99, y 100, y 101, y 102, y 103, y 104, y 105, y 106, y 107, y 108, y 109, y 110, y 111, y 112, y 113, y 114, y 115, y 116, y 117, y 118, y 119, y 120, y 121, y 122, y 123, y 124, y 125, y 126, y 127, y 128, y 129, y 130, y 131, y 132, y 133, y 134, y 135, y 136, y 137, y 138, y 139, y 140, y 141, y 142, y 143, y 144, y 145, y 146, y 147, y 148, y 149, y 150, y 151, y 152, y 153, y 154, y 155, y 156, y 157, y 158, y 159, y 160, y 161, y 162, y 163, y 164, y 165, y 166, y 167, y 168, y 169, y 170, y 171, y 172, y 173, y 174, y 175, y 176, y 177, y 178, y 179, y 180, y 181, y 182, y 183, y 184, y 185, y 186, y 187, y 188, y 189, y 190, y 191, y 192, y 193, y 194, y 195, y 196, y 197, y 198, y 199, y 200, y 201, y 202, y 203, y 204, y 205, y 206, y 207, y 208, y 209, y 210, y 211, y 212, y 213, y 214, y 215, y 216, y 217, y 218, y 219, y 220, y 221, y 222, y 223, y 224, y 225, y 226, y 227, y 228, y 229, y 230, y 231, y 232, y 233, y 234, y 235, y 236, y 237, y 238, y 239, y 240, y 241, y 242, y 243, y 244, y 245, y 246, y 247, y 248, y 249] from rfl]
    rw [e0, e3, e4, e5, e124]
    unfold Oper.wp
    simp [go_sem]
    refine wpOp_do rfl rfl ?_
    unfold Oper.wp
    simp [go_sem, c8, f8]
    exact F
end Go.Proofs.Ytcdkjlbpcihcjaa.W
