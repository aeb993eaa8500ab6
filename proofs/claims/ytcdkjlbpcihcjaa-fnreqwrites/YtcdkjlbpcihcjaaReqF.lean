/-
  Another Old is drawn: the first region of the specification's l21AnyReq that draws its order. (Written by genslotq4.py.) No condition but that the reader is open.
  One edit more of a request is drawn and appended: the second region of the specification's l21AnyReq that draws its order. (Written by genslotq5.py.) No condition but that the reader is open.
  A drawn request that is spoilt: where it lies, what is known of it, and what each step keeps. (Written by genreqf.py.) No condition.
-/
import Derived.Test.YtcdkjlbpcihcjaaMathSlot3
import Derived.Test.YtcdkjlbpcihcjaaMathBlk
import Derived.Test.YtcdkjlbpcihcjaaMathSlot5
import Derived.Test.YtcdkjlbpcihcjaaRowE
import Derived.Test.YtcdkjlbpcihcjaaMathNew
import Derived.Test.YtcdkjlbpcihcjaaReqC
namespace Go.Proofs.Ytcdkjlbpcihcjaa.W
open Go.RowKit Go.Proofs.Ytcdkjlbpcihcjaa.M
set_option linter.unusedVariables false

theorem pd_any (d : Int) (k : Nat) (h : k < 4) : ∃ u : Int, (#[.int .i64 d, .int .i64 (-1), .int .i64 99, .int .i64 100] : Array Value)[k]? = some (.int .i64 u) := by
  rcases (show k = 0 ∨ k = 1 ∨ k = 2 ∨ k = 3 from by omega) with rfl | rfl | rfl | rfl <;> exact ⟨_, rfl⟩
/-- the regions that draw -/
def drawnP : Code → List (Array Oper)
  | .region _ ops true => [ops]
  | .seq a b => drawnP a ++ drawnP b
  | .cond _ a b => drawnP a ++ drawnP b
  | .block _ a => drawnP a
  | .loop a => drawnP a
  | _ => []
/-- what each operation leaves -/
def TQD (rb m : Nat) (o : Int) : Nat → Value → World → Prop
  | 0 => fun v _ => v = .pointer (some ⟨m, 6, none⟩)
  | 1 => fun v _ => v = .int .i64 o
  | 2 => fun v _ => ∃ d : Int, v = .int .i64 d
  | 3 => fun v W => ∃ (g : Nat) (d : Int), v = .slice (some ⟨g, 0, none⟩) 4 4 ∧ g ≠ rb ∧ W.heap[g]? = some (.cells #[.int .i64 d, .int .i64 (-1), .int .i64 99, .int .i64 100] 3 (0, 0))
  | 4 => fun v _ => v = .pointer (some ⟨rb, 0, none⟩)
  | 5 => fun v _ => ∃ k : Nat, k < 4 ∧ v = .int .i64 k
  | 6 => fun v W => ∃ (g k : Nat) (d : Int), v = .pointer (some ⟨g, k, none⟩) ∧ k < 4 ∧ g ≠ rb ∧ W.heap[g]? = some (.cells #[.int .i64 d, .int .i64 (-1), .int .i64 99, .int .i64 100] 3 (0, 0))
  | 7 => fun v _ => ∃ d : Int, v = .int .i64 d
  | _ => fun _ _ => True
/-- its slot -/
def slotQD : Nat → Nat
  | 0 => 63
  | 1 => 64
  | 2 => 65
  | 3 => 66
  | 4 => 67
  | 5 => 68
  | 6 => 69
  | 7 => 70
  | _ => 999
set_option maxRecDepth 100000 in
set_option maxHeartbeats 8000000 in
theorem frontQD {rid : Nat} {ops : Array Oper} (hops : ((Try.f10.body.map drawnP).getD [])[0]? = some ops) {Q : Exit → Act → World → Prop} {a : Act} {w : World} {rb p m : Nat} {ad : Option Addr} {len cap : Nat} {zs : Nat → Int} {cs : Array Value} {o : Int} {tm : TypeId}
    (hsz : a.tmps.size = 101) (hdf : a.defers = []) (hf0 : a.tmps[0]?.getD undef = .pointer (some ⟨rb, 0, none⟩)) (hf7 : a.tmps[7]?.getD undef = .pointer (some ⟨m, 0, none⟩)) (hRd : Rd w rb p ad len cap zs) (hp : p ≤ 500000) (hlt : rb < w.heap.size)
    (hm : w.heap[m]? = some (.cells cs tm (0, 0))) (hm6 : cs[6]? = some (.int .i64 o)) (hmr : m ≠ rb)
    (hend : ∀ (y : Nat → Value) (w2 : World) (q : Nat) (d : Int), q ≤ p + 20 → Rd w2 rb q ad len cap zs → w.grownBy w2 (some rb) →
      Q .normal ⟨#[.pointer (some ⟨rb, 0, none⟩), y 1, y 2, y 3, y 4, y 5, a.tmps[6]?.getD undef, .pointer (some ⟨m, 0, none⟩), y 8, y 9, y 10, y 11, y 12, y 13, y 14, y 15, y 16, y 17, y 18, y 19, y 20, y 21, y 22, y 23, y 24, y 25, y 26, y 27, y 28, y 29, y 30, y 31, y 32, y 33, y 34, y 35, y 36, y 37, y 38, y 39, y 40, y 41, y 42, y 43, y 44, y 45, y 46, y 47, y 48, y 49, y 50, y 51, y 52, y 53, y 54, y 55, y 56, y 57, y 58, y 59, y 60, y 61, y 62, y 63, y 64, y 65, y 66, y 67, y 68, y 69, .int .i64 d, .pointer (some ⟨m, 6, none⟩), y 72, y 73, y 74, y 75, y 76, y 77, y 78, y 79, y 80, y 81, y 82, y 83, y 84, y 85, y 86, y 87, y 88, y 89, y 90, y 91, y 92, y 93, y 94, y 95, y 96, y 97, y 98, y 99, y 100], []⟩ (w2.setCell ⟨m, 6, none⟩ (.int .i64 d))) : (Code.region rid ops true).wp Try.prog Q a w := by
  simp only [Try.f10, Option.map_some, Option.getD_some, drawnP, List.nil_append, List.append_nil, List.cons_append, List.getElem?_cons_zero] at hops
  obtain rfl := Option.some.inj hops
  clear hops
  refine region_slots_last2 (p := p) 8 2 101 slotQD [0, 6, 7] (TQD rb m o) rfl (by kernel_rfl) ?_ hsz hdf hRd ?_ ?_ ?_ ?_ ?_ ?_ ?_
  · clear hend
    intro i o ho e he hb
    match i with
    | 0 => obtain rfl := Option.some.inj ho; revert hb; revert e; decide
    | 1 => obtain rfl := Option.some.inj ho; revert hb; revert e; decide
    | 2 => obtain rfl := Option.some.inj ho; revert hb; revert e; decide
    | 3 => obtain rfl := Option.some.inj ho; revert hb; revert e; decide
    | 4 => obtain rfl := Option.some.inj ho; revert hb; revert e; decide
    | 5 => obtain rfl := Option.some.inj ho; revert hb; revert e; decide
    | 6 => obtain rfl := Option.some.inj ho; revert hb; revert e; decide
    | 7 => obtain rfl := Option.some.inj ho; revert hb; revert e; decide
    | 8 => obtain rfl := Option.some.inj ho; revert hb; revert e; decide
    | 9 => obtain rfl := Option.some.inj ho; revert hb; revert e; decide
    | i + 10 => cases ho
  · intro i v w1 w2 hi h hg
    match i, hi with
    | 0, _ => exact h
    | 1, _ => exact h
    | 2, _ => exact h
    | 3, _ => obtain ⟨g, d, h1, h2, h3⟩ := h; exact ⟨g, d, h1, h2, bkKept h3 hg h2⟩
    | 4, _ => exact h
    | 5, _ => exact h
    | 6, _ => obtain ⟨g, k, d, h1, h2, h3, h4⟩ := h; exact ⟨g, k, d, h1, h2, h3, bkKept h4 hg h3⟩
    | 7, _ => exact h
    | k + 8, hk => exact absurd hk (by omega)
  · decide
  · decide
  · clear hend
    intro S hD h8 i hi
    have s0 := h8 _ rfl { on := 0, ground := .phase } (by simp) rfl
    have s1 := h8 _ rfl { on := 1, ground := .phase } (by simp) rfl
    have s2 := h8 _ rfl { on := 2, ground := .phase } (by simp) rfl
    have s3 := h8 _ rfl { on := 3, ground := .phase } (by simp) rfl
    have s4 := h8 _ rfl { on := 4, ground := .phase } (by simp) rfl
    have s5 := h8 _ rfl { on := 5, ground := .phase } (by simp) rfl
    have s6 := h8 _ rfl { on := 6, ground := .phase } (by simp) rfl
    have s7 := h8 _ rfl { on := 7, ground := .phase } (by simp) rfl
    match i, hi with
    | 0, _ => exact s0
    | 1, _ => exact s1
    | 2, _ => exact s2
    | 3, _ => exact s3
    | 4, _ => exact s4
    | 5, _ => exact s5
    | 6, _ => exact s6
    | 7, _ => exact s7
    | k + 8, hk => exact absurd hk (by omega)
  · intro ol ho
    obtain rfl := Option.some.inj ho
    decide
  · clear hend
    intro i o ho hi a1 w1 q hF hA hq hR1 hg1
    have hq' : q + 2 ≤ p + 2 * 10 := hq
    clear hq
    have hz1 := hg1.size
    have hl1 : rb < w1.heap.size := by omega
    have f0 := (hF 0 (by simp)).trans hf0
    have f7 := (hF 7 (by simp)).trans hf7
    have hc6 := bkCell (k := 6) (bkKept hm hg1 hmr) hm6
    clear hF
    match i with
    | 0 =>
      obtain rfl := Option.some.inj ho
      refine wpOp_do rfl rfl ?_
      clear hA ho
      unfold Oper.wp
      simp [go_sem, f7]
      exact ⟨_, q, rfl, rfl, ⟨rfl, rfl, rfl, Nat.le_refl _, fun _ _ _ => rfl⟩, by omega, hR1⟩
    | 1 =>
      obtain rfl := Option.some.inj ho
      refine wpOp_do rfl rfl ?_
      have p0 := hA { on := 0, ground := .data } (by simp) rfl; simp only [TQD, slotQD] at p0
      clear hA ho
      unfold Oper.wp
      simp [go_sem, p0, hc6]
      exact ⟨_, q, rfl, rfl, ⟨rfl, rfl, rfl, Nat.le_refl _, fun _ _ _ => rfl⟩, by omega, hR1⟩
    | 2 =>
      obtain rfl := Option.some.inj ho
      refine wpOp_do rfl rfl ?_
      have p1 := hA { on := 1, ground := .data } (by simp) rfl; simp only [TQD, slotQD] at p1
      clear hA ho
      unfold Oper.wp
      simp [go_sem, p1]
      exact ⟨_, q, rfl, ⟨_, rfl⟩, ⟨rfl, rfl, rfl, Nat.le_refl _, fun _ _ _ => rfl⟩, by omega, hR1⟩
    | 3 =>
      obtain rfl := Option.some.inj ho
      refine wpOp_do rfl rfl ?_
      have p2 := hA { on := 2, ground := .data } (by simp) rfl; simp only [TQD, slotQD] at p2
      clear hA ho
      unfold Oper.wp
      obtain ⟨d', e2⟩ := p2
      simp [go_sem, e2]
      exact ⟨_, q, rfl, ⟨w1.heap.size, d', rfl, by omega, bkNew _ _⟩, galloc _ _, by omega, hR1.alloc hl1 _⟩
    | 4 =>
      obtain rfl := Option.some.inj ho
      refine wpOp_do rfl rfl ?_
      clear hA ho
      unfold Oper.wp
      simp [go_sem, f0]
      exact ⟨_, q, rfl, rfl, ⟨rfl, rfl, rfl, Nat.le_refl _, fun _ _ _ => rfl⟩, by omega, hR1⟩
    | 5 =>
      obtain rfl := Option.some.inj ho
      refine wpOp_do rfl rfl ?_
      have p4 := hA { on := 4, ground := .data } (by simp) rfl; simp only [TQD, slotQD] at p4
      clear hA ho
      unfold Oper.wp
      simp [go_sem, p4]
      refine (pick_any w1 rb q ad len cap 4 zs hR1 (by omega) (by omega) (by omega)).mono ?_
      rintro e w2 ⟨v, hv, rfl, hR2, hg2⟩
      exact ⟨.int .i64 v, q + 1, rfl, ⟨v, hv, rfl⟩, hg2, by omega, hR2⟩
    | 6 =>
      obtain rfl := Option.some.inj ho
      refine wpOp_do rfl rfl ?_
      have p3 := hA { on := 3, ground := .data } (by simp) rfl; simp only [TQD, slotQD] at p3
      have p5 := hA { on := 5, ground := .data } (by simp) rfl; simp only [TQD, slotQD] at p5
      clear hA ho
      unfold Oper.wp
      obtain ⟨g', d', e5, hg', hb'⟩ := p3
      obtain ⟨k', hk', e7⟩ := p5
      have hk2 : (k' : Int) < 4 := by omega
      simp [go_sem, e5, e7, hk2]
      exact ⟨_, q, rfl, ⟨g', k', d', rfl, hk', hg', hb'⟩, ⟨rfl, rfl, rfl, Nat.le_refl _, fun _ _ _ => rfl⟩, by omega, hR1⟩
    | 7 =>
      obtain rfl := Option.some.inj ho
      refine wpOp_do rfl rfl ?_
      have p6 := hA { on := 6, ground := .data } (by simp) rfl; simp only [TQD, slotQD] at p6
      clear hA ho
      unfold Oper.wp
      obtain ⟨g', k', d', e8, hk', hg', hb'⟩ := p6
      obtain ⟨u, hd⟩ := pd_any d' k' hk'
      have hc := bkCell hb' hd
      simp [go_sem, e8, hc]
      exact ⟨_, q, rfl, ⟨u, rfl⟩, ⟨rfl, rfl, rfl, Nat.le_refl _, fun _ _ _ => rfl⟩, by omega, hR1⟩
    | k + 8 => exact absurd hi (by omega)
  · intro ol ho y w2 q hq hR2 hg2 hall hF
    obtain rfl := Option.some.inj ho
    refine wpOp_do rfl rfl ?_
    clear ho
    obtain ⟨d, e70⟩ := hall 7 (by omega)
    simp only [slotQD] at e70
    have e0 := (hF 0 (by simp)).trans hf0
    have e7 := (hF 7 (by simp)).trans hf7
    have e6 := hF 6 (by simp)
    have hq2 : q ≤ p + 20 := by have : q ≤ p + 2 * (8 + 2) := hq; omega
    have m2 := bkKept hm hg2 hmr
    have c6 := bkCell (k := 6) m2 hm6
    have f6 := bkFrozen (k := 6) m2
    have F := hend y w2 q d hq2 hR2 hg2
    clear hend hall hF
    rw [show ((List.range 101).map y).toArray = #[y 0, y 1, y 2, y 3, y 4, y 5, y 6, y 7, y 8, y 9, y 10, y 11, y 12, y 13, y 14, y 15, y 16, y 17, y 18, y 19, y 20, y 21, y 22, y 23, y 24, y 25, y 26, y 27, y 28, y 29, y 30, y 31, y 32, y 33, y 34, y 35, y 36, y 37, y 38, y 39, y 40, y 41, y 42, y 43, y 44, y 45, y 46, y 47, y 48, y 49, y 50, y 51, y 52, y 53, y 54, y 55, y 56, y 57, y 58, y 59, y 60, y 61, y 62, y 63, y 64, y 65, y 66, y 67, y 68, y 69, y 70, y 71, y 72, y 73, y 74, y 75, y 76, y 77, y 78, y 79, y 80, y 81, y 82, y 83, y 84, y 85, y 86, y 87, y 88, y 89, y 90, y 91, y 92, y 93, y 94, y 95, y 96, y 97, y 98, y 99, y 100] from rfl]
    rw [e0, e6, e7, e70]
    unfold Oper.wp
    simp [go_sem]
    refine wpOp_do rfl rfl ?_
    unfold Oper.wp
    simp [go_sem, c6, f6]
    exact F
end Go.Proofs.Ytcdkjlbpcihcjaa.W
namespace Go.Proofs.Ytcdkjlbpcihcjaa.W
open Go.RowKit Go.Proofs.Ytcdkjlbpcihcjaa.M
set_option linter.unusedVariables false

/-- the regions that draw -/
def drawnR : Code → List (Array Oper)
  | .region _ ops true => [ops]
  | .seq a b => drawnR a ++ drawnR b
  | .cond _ a b => drawnR a ++ drawnR b
  | .block _ a => drawnR a
  | .loop a => drawnR a
  | _ => []
/-- what each operation leaves -/
def TQE (rb base m : Nat) (v0 : Value) : Nat → Value → World → Prop
  | 0 => fun v _ => v = .pointer (some ⟨m, 8, none⟩)
  | 1 => fun v _ => v = v0
  | 2 => fun v _ => v = .pointer (some ⟨rb, 0, none⟩)
  | 3 => fun v _ => ∃ s : ByteArray, v = .string s ∧ s.size ≤ 64
  | 4 => fun v _ => v = .pointer (some ⟨rb, 0, none⟩)
  | 5 => fun v _ => ∃ s : ByteArray, v = .string s ∧ s.size ≤ 64
  | 6 => fun v _ => v = .pointer (some ⟨rb, 0, none⟩)
  | 7 => fun v _ => ∃ k : Nat, k < 2 ∧ v = .int .i64 k
  | 8 => fun v _ => ∃ z : Bool, v = .bool z
  | 9 => fun v _ => ∃ (s b : ByteArray) (z : Bool), v = .agg #[.string s, .string b, .bool z] ∧ s.size ≤ 64 ∧ b.size ≤ 64
  | 10 => fun v W => ∃ (g : Nat) (s b : ByteArray) (z : Bool), v = .slice (some ⟨g, 0, none⟩) 1 1 ∧ base ≤ g ∧ g ≠ rb ∧ W.heap[g]? = some (.cells #[.string s, .string b, .bool z] 41 (0, 0)) ∧ s.size ≤ 64 ∧ b.size ≤ 64
  | _ => fun _ _ => True
/-- its slot -/
def slotQE : Nat → Nat
  | 0 => 82
  | 1 => 83
  | 2 => 84
  | 3 => 85
  | 4 => 86
  | 5 => 87
  | 6 => 88
  | 7 => 89
  | 8 => 90
  | 9 => 91
  | 10 => 92
  | _ => 999
set_option maxRecDepth 100000 in
set_option maxHeartbeats 8000000 in
theorem frontQE {rid : Nat} {ops : Array Oper} (hops : ((Try.f10.body.map drawnR).getD [])[1]? = some ops) {Q : Exit → Act → World → Prop} {a : Act} {w : World} {rb p m : Nat} {ad : Option Addr} {len cap : Nat} {zs : Nat → Int} {cs : Array Value} {v0 : Value} {tm : TypeId} {base k : Nat} {xs : List Value}
    (hsz : a.tmps.size = 101) (hdf : a.defers = []) (hf0 : a.tmps[0]?.getD undef = .pointer (some ⟨rb, 0, none⟩)) (hf7 : a.tmps[7]?.getD undef = .pointer (some ⟨m, 0, none⟩)) (hRd : Rd w rb p ad len cap zs) (hp : p ≤ 500000) (hlt : rb < w.heap.size)
    (hm : w.heap[m]? = some (.cells cs tm (0, 0))) (hm8 : cs[8]? = some v0) (hmr : m ≠ rb) (hk : k ≤ 100) (hbase : base ≤ w.heap.size) (hO : w.ownsRow base 41 3 v0 k xs) (hnr : v0.ownBlock ≠ some rb) (hnm : v0.ownBlock ≠ some m)
    (hend : ∀ (y : Nat → Value) (w2 w3 : World) (q : Nat) (s b : ByteArray) (z : Bool) (v' : Value), s.size ≤ 64 → b.size ≤ 64 → q ≤ p + 70 → Rd w2 rb q ad len cap zs → w.grownBy w2 (some rb) → w3.ownsRow base 41 3 v' (k + 1) (xs ++ [.string s, .string b, .bool z]) → w2.grownBy w3 v0.ownBlock →
      Q .normal ⟨#[.pointer (some ⟨rb, 0, none⟩), y 1, y 2, y 3, y 4, y 5, a.tmps[6]?.getD undef, .pointer (some ⟨m, 0, none⟩), y 8, y 9, y 10, y 11, y 12, y 13, y 14, y 15, y 16, y 17, y 18, y 19, y 20, y 21, y 22, y 23, y 24, y 25, y 26, y 27, y 28, y 29, y 30, y 31, y 32, y 33, y 34, y 35, y 36, y 37, y 38, y 39, y 40, y 41, y 42, y 43, y 44, y 45, y 46, y 47, y 48, y 49, y 50, y 51, y 52, y 53, y 54, y 55, y 56, y 57, y 58, y 59, y 60, y 61, y 62, y 63, y 64, y 65, y 66, y 67, y 68, y 69, y 70, y 71, y 72, y 73, y 74, y 75, y 76, y 77, y 78, y 79, y 80, y 81, y 82, y 83, y 84, y 85, y 86, y 87, y 88, y 89, y 90, y 91, y 92, v', .pointer (some ⟨m, 8, none⟩), y 95, y 96, y 97, y 98, y 99, y 100], []⟩ (w3.setCell ⟨m, 8, none⟩ v')) : (Code.region rid ops true).wp Try.prog Q a w := by
  simp only [Try.f10, Option.map_some, Option.getD_some, drawnR, List.nil_append, List.append_nil, List.cons_append, List.getElem?_cons_zero, List.getElem?_cons_succ] at hops
  obtain rfl := Option.some.inj hops
  clear hops
  obtain ⟨i0, hii, hz0, hz1', hz2⟩ := info_parts infoE
  refine region_slots_tail3 (p := p) 11 5 101 slotQE [0, 6, 7] (TQE rb w.heap.size m v0) rfl (by kernel_rfl) ?_ hsz hdf hRd ?_ ?_ ?_ ?_ ?_ ?_ ?_ ?_
  · clear hend
    intro i o ho e he hb
    match i with
    | 0 => obtain rfl := Option.some.inj ho; revert hb; revert e; decide
    | 1 => obtain rfl := Option.some.inj ho; revert hb; revert e; decide
    | 2 => obtain rfl := Option.some.inj ho; revert hb; revert e; decide
    | 3 => obtain rfl := Option.some.inj ho; revert hb; revert e; decide
    | 4 => obtain rfl := Option.some.inj ho; revert hb; revert e; decide
    | 5 => obtain rfl := Option.some.inj ho; revert hb; revert e; decide
    | 6 => obtain rfl := Option.some.inj ho; revert hb; revert e; decide
    | 7 => obtain rfl := Option.some.inj ho; revert hb; revert e; decide
    | 8 => obtain rfl := Option.some.inj ho; revert hb; revert e; decide
    | 9 => obtain rfl := Option.some.inj ho; revert hb; revert e; decide
    | 10 => obtain rfl := Option.some.inj ho; revert hb; revert e; decide
    | 11 => obtain rfl := Option.some.inj ho; revert hb; revert e; decide
    | 12 => obtain rfl := Option.some.inj ho; revert hb; revert e; decide
    | 13 => obtain rfl := Option.some.inj ho; revert hb; revert e; decide
    | i + 14 => cases ho
  · intro i v w1 w2 hi h hg
    match i, hi with
    | 0, _ => exact h
    | 1, _ => exact h
    | 2, _ => exact h
    | 3, _ => exact h
    | 4, _ => exact h
    | 5, _ => exact h
    | 6, _ => exact h
    | 7, _ => exact h
    | 8, _ => exact h
    | 9, _ => exact h
    | 10, _ => obtain ⟨g, s, b, z, h1, h2, h3, h4, h5⟩ := h; exact ⟨g, s, b, z, h1, h2, h3, bkKept h4 hg h3, h5⟩
    | k + 11, hk => exact absurd hk (by omega)
  · decide
  · decide
  · clear hend
    intro S hD h11 i hi
    have s1 := h11 _ rfl { on := 1, ground := .data } (by simp) rfl
    have s10 := h11 _ rfl { on := 10, ground := .data } (by simp) rfl
    have s0 := hD 1 _ rfl s1 { on := 0, ground := .data } (by simp) rfl
    have s9 := hD 10 _ rfl s10 { on := 9, ground := .data } (by simp) rfl
    have s3 := hD 9 _ rfl s9 { on := 3, ground := .data } (by simp) rfl
    have s5 := hD 9 _ rfl s9 { on := 5, ground := .data } (by simp) rfl
    have s8 := hD 9 _ rfl s9 { on := 8, ground := .data } (by simp) rfl
    have s2 := hD 3 _ rfl s3 { on := 2, ground := .data } (by simp) rfl
    have s4 := hD 5 _ rfl s5 { on := 4, ground := .data } (by simp) rfl
    have s7 := hD 8 _ rfl s8 { on := 7, ground := .data } (by simp) rfl
    have s6 := hD 7 _ rfl s7 { on := 6, ground := .data } (by simp) rfl
    match i, hi with
    | 0, _ => exact s0
    | 1, _ => exact s1
    | 2, _ => exact s2
    | 3, _ => exact s3
    | 4, _ => exact s4
    | 5, _ => exact s5
    | 6, _ => exact s6
    | 7, _ => exact s7
    | 8, _ => exact s8
    | 9, _ => exact s9
    | 10, _ => exact s10
    | k + 11, hk => exact absurd hk (by omega)
  · intro ol ho
    obtain rfl := Option.some.inj ho
    decide
  · intro ol ho
    obtain rfl := Option.some.inj ho
    decide
  · clear hend
    intro i o ho hi a1 w1 q hF hA hq hR1 hg1
    have hq' : q + 5 ≤ p + 5 * 14 := hq
    clear hq
    have hz1 := hg1.size
    have hl1 : rb < w1.heap.size := by omega
    have f0 := (hF 0 (by simp)).trans hf0
    have f7 := (hF 7 (by simp)).trans hf7
    have hc8 := bkCell (k := 8) (bkKept hm hg1 hmr) hm8
    clear hF
    match i with
    | 0 =>
      obtain rfl := Option.some.inj ho
      refine wpOp_do rfl rfl ?_
      clear hA ho
      unfold Oper.wp
      simp [go_sem, f7]
      exact ⟨_, q, rfl, rfl, ⟨rfl, rfl, rfl, Nat.le_refl _, fun _ _ _ => rfl⟩, by omega, hR1⟩
    | 1 =>
      obtain rfl := Option.some.inj ho
      refine wpOp_do rfl rfl ?_
      have p0 := hA { on := 0, ground := .data } (by simp) rfl; simp only [TQE, slotQE] at p0
      clear hA ho
      unfold Oper.wp
      simp [go_sem, p0, hc8]
      exact ⟨_, q, rfl, rfl, ⟨rfl, rfl, rfl, Nat.le_refl _, fun _ _ _ => rfl⟩, by omega, hR1⟩
    | 2 =>
      obtain rfl := Option.some.inj ho
      refine wpOp_do rfl rfl ?_
      clear hA ho
      unfold Oper.wp
      simp [go_sem, f0]
      exact ⟨_, q, rfl, rfl, ⟨rfl, rfl, rfl, Nat.le_refl _, fun _ _ _ => rfl⟩, by omega, hR1⟩
    | 3 =>
      obtain rfl := Option.some.inj ho
      refine wpOp_do rfl rfl ?_
      have p2 := hA { on := 2, ground := .data } (by simp) rfl; simp only [TQE, slotQE] at p2
      clear hA ho
      unfold Oper.wp
      simp [go_sem, p2]
      refine (anyPath_any w1 rb q 2 ad len cap zs hR1 (by omega) (by omega) (by omega) (by omega)).mono ?_
      rintro e w2 ⟨b, p2, rfl, hb, hp2, hR2, hg2⟩
      exact ⟨.string b, p2, rfl, ⟨b, rfl, by omega⟩, hg2, by omega, hR2⟩
    | 4 =>
      obtain rfl := Option.some.inj ho
      refine wpOp_do rfl rfl ?_
      clear hA ho
      unfold Oper.wp
      simp [go_sem, f0]
      exact ⟨_, q, rfl, rfl, ⟨rfl, rfl, rfl, Nat.le_refl _, fun _ _ _ => rfl⟩, by omega, hR1⟩
    | 5 =>
      obtain rfl := Option.some.inj ho
      refine wpOp_do rfl rfl ?_
      have p4 := hA { on := 4, ground := .data } (by simp) rfl; simp only [TQE, slotQE] at p4
      clear hA ho
      unfold Oper.wp
      simp [go_sem, p4]
      refine (bytes_any w1 rb q ad len cap zs hR1 (by omega) (by omega)).mono ?_
      rintro e w2 ⟨b, p2, rfl, hb, hp2, hR2, hg2⟩
      exact ⟨.string b, p2, rfl, ⟨b, rfl, by omega⟩, hg2, by omega, hR2⟩
    | 6 =>
      obtain rfl := Option.some.inj ho
      refine wpOp_do rfl rfl ?_
      clear hA ho
      unfold Oper.wp
      simp [go_sem, f0]
      exact ⟨_, q, rfl, rfl, ⟨rfl, rfl, rfl, Nat.le_refl _, fun _ _ _ => rfl⟩, by omega, hR1⟩
    | 7 =>
      obtain rfl := Option.some.inj ho
      refine wpOp_do rfl rfl ?_
      have p6 := hA { on := 6, ground := .data } (by simp) rfl; simp only [TQE, slotQE] at p6
      clear hA ho
      unfold Oper.wp
      simp [go_sem, p6]
      refine (pick_any w1 rb q ad len cap 2 zs hR1 (by omega) (by omega) (by omega)).mono ?_
      rintro e w2 ⟨v, hv, rfl, hR2, hg2⟩
      exact ⟨.int .i64 v, q + 1, rfl, ⟨v, hv, rfl⟩, hg2, by omega, hR2⟩
    | 8 =>
      obtain rfl := Option.some.inj ho
      refine wpOp_do rfl rfl ?_
      have p7 := hA { on := 7, ground := .data } (by simp) rfl; simp only [TQE, slotQE] at p7
      clear hA ho
      unfold Oper.wp
      obtain ⟨k', hk', e7⟩ := p7
      simp [go_sem, e7]
      exact ⟨_, q, rfl, ⟨_, rfl⟩, ⟨rfl, rfl, rfl, Nat.le_refl _, fun _ _ _ => rfl⟩, by omega, hR1⟩
    | 9 =>
      obtain rfl := Option.some.inj ho
      refine wpOp_do rfl rfl ?_
      have p3 := hA { on := 3, ground := .data } (by simp) rfl; simp only [TQE, slotQE] at p3
      have p5 := hA { on := 5, ground := .data } (by simp) rfl; simp only [TQE, slotQE] at p5
      have p8 := hA { on := 8, ground := .data } (by simp) rfl; simp only [TQE, slotQE] at p8
      clear hA ho
      unfold Oper.wp
      obtain ⟨s', e4, hs'⟩ := p3
      obtain ⟨b', e6, hb'⟩ := p5
      obtain ⟨z', e8⟩ := p8
      simp [go_sem, e4, e6, e8]
      exact ⟨_, q, rfl, ⟨s', b', z', rfl, hs', hb'⟩, ⟨rfl, rfl, rfl, Nat.le_refl _, fun _ _ _ => rfl⟩, by omega, hR1⟩
    | 10 =>
      obtain rfl := Option.some.inj ho
      refine wpOp_do rfl rfl ?_
      have p9 := hA { on := 9, ground := .data } (by simp) rfl; simp only [TQE, slotQE] at p9
      clear hA ho
      unfold Oper.wp
      obtain ⟨s', b', z', e7, hs', hb'⟩ := p9
      simp [go_sem, e7]
      exact ⟨_, q, rfl, ⟨w1.heap.size, s', b', z', rfl, by omega, by omega, bkNew _ _, hs', hb'⟩, galloc _ _, by omega, hR1.alloc hl1 _⟩
    | k + 11 => exact absurd hi (by omega)
  · intro y w2 q hq hR2 hg2 hall hF
    refine wpOp_do rfl rfl ?_
    have eR := hall 1 (by omega)
    obtain ⟨g, s, b, z, eN, hg1, hgr, hblk, hs, hb⟩ := hall 10 (by omega)
    simp only [TQE, slotQE] at eR eN
    have e0 := (hF 0 (by simp)).trans hf0
    have e7 := (hF 7 (by simp)).trans hf7
    have e6 := hF 6 (by simp)
    have hq2 : q ≤ p + 70 := by have : q ≤ p + 5 * (11 + 3) := hq; omega
    have m2 := bkKept hm hg2 hmr
    have hO2 : w2.ownsRow base 41 3 v0 k xs := hO.kept hg2 (.inr hnr)
    have hz2' := hg2.size
    have F := fun w3 v' h1 h2 => hend y w2 w3 q s b z v' hs hb hq2 hR2 hg2 h1 h2
    clear hend hall hF
    rw [show ((List.range 101).map y).toArray = #[y 0, y 1, y 2, y 3, y 4, y 5, y 6, y 7, y 8, y 9, y 10, y 11, y 12, y 13, y 14, y 15, y 16, y 17, y 18, y 19, y 20, y 21, y 22, y 23, y 24, y 25, y 26, y 27, y 28, y 29, y 30, y 31, y 32, y 33, y 34, y 35, y 36, y 37, y 38, y 39, y 40, y 41, y 42, y 43, y 44, y 45, y 46, y 47, y 48, y 49, y 50, y 51, y 52, y 53, y 54, y 55, y 56, y 57, y 58, y 59, y 60, y 61, y 62, y 63, y 64, y 65, y 66, y 67, y 68, y 69, y 70, y 71, y 72, y 73, y 74, y 75, y 76, y 77, y 78, y 79, y 80, y 81, y 82, y 83, y 84, y 85, y 86, y 87, y 88, y 89, y 90, y 91, y 92, y 93, y 94, y 95, y 96, y 97, y 98, y 99, y 100] from rfl]
    rw [e0, e6, e7]
    refine wp_append_own w2 (.tmp 83) (.tmp 92) 23 rfl base 41 i0 (.agg #[.string ByteArray.empty, .string ByteArray.empty, .bool false]) 3 40 Try.underlying23 hii hz0 hz1' hz2 rfl (by decide) v0 k xs (by simp [go_sem, eR]) hO2 ⟨g, 0, none⟩ 1 1 [.string s, .string b, .bool z] (by simp [go_sem, eN]) rfl ?_ (fun u hu => by simp at hu; rcases hu with rfl | rfl | rfl <;> rfl) (by unfold maxLen; omega) (by omega) (by omega) ?_
    · intro j u hu
      have e : (⟨g, 0, none⟩ : Addr).add j = ⟨g, j, none⟩ := by unfold Addr.add; split <;> simp_all
      rw [e]
      exact bkCell hblk (by simpa using hu)
    · intro v' w3 h1 h2 _
      have m3 : w3.heap[m]? = some (.cells cs tm (0, 0)) := (h2.block m (Array.getElem?_eq_some_iff.1 m2).1 (fun e => hnm e.symm)).trans m2
      have c8 := bkCell (k := 8) m3 hm8
      have f8 := bkFrozen (k := 8) m3
      have F' := F w3 v' h1 h2
      clear F
      refine wpOp_do rfl rfl ?_
      unfold Oper.wp
      simp [go_sem]
      refine wpOp_do rfl rfl ?_
      unfold Oper.wp
      obtain ⟨Av, nv, cv, rfl⟩ : ∃ A n c, v' = .slice A n c := by
        rcases h1.2 with ⟨rfl, _⟩ | ⟨g', cap', cur', rfl, _⟩
        · exact ⟨_, _, _, rfl⟩
        · exact ⟨_, _, _, rfl⟩
      simp [go_sem, c8, f8]
      exact F'
end Go.Proofs.Ytcdkjlbpcihcjaa.W
namespace Go.Proofs.Ytcdkjlbpcihcjaa.W
open Go.RowKit Go.Proofs.Ytcdkjlbpcihcjaa.M
set_option linter.unusedVariables false

/-- a request lies in the block k, the result in the block behind lo -/
structure S22 (w : World) (rb k m : Nat) (ad : Option Addr) (len cap : Nat) (zs : Nat → Int) (wc : World) (x : RQ) (E : Value) (q : Nat) : Prop where
  rd : Rd wc rb q ad len cap zs
  g : w.grownBy wc (some rb)
  lt : rb < w.heap.size
  lk : w.heap.size + 2 ≤ k
  bk : wc.heap[k]? = some (.cells (x.at_ E) 27 (0, 0))
  b4 : wc.heap[w.heap.size + 1]? = some (.cells #[.int .i64 0, .int .i64 0, .int .i64 0, .int .i64 0, .string ⟨#[]⟩, .string ⟨#[]⟩, .int .i64 0, .int .i64 0, .slice none 0 0, .int .i64 0, .string ⟨#[]⟩, .string ⟨#[]⟩, .bool false, .int .i64 0, .string ⟨#[]⟩] 27 (0, 0))
  own : wc.ownsRow (w.heap.size + 2) 41 3 E x.edits.length (cellsE x.edits)
  ne : E.ownBlock ≠ some k
  n : x.edits.length ≤ m
  sh : short x.edits
  sm : smallQ x
section
variable {w wc w2 : World} {rb k m q q' : Nat} {ad : Option Addr} {len cap : Nat} {zs : Nat → Int} {x : RQ} {E : Value}
theorem S22.lt2 (h : S22 w rb k m ad len cap zs wc x E q) : rb < wc.heap.size := Nat.lt_of_lt_of_le h.lt h.g.size
theorem S22.lk2 (h : S22 w rb k m ad len cap zs wc x E q) : k < wc.heap.size := (Array.getElem?_eq_some_iff.1 h.bk).1
theorem S22.ex (h : S22 w rb k m ad len cap zs wc x E q) : ∃ x', S22 w rb k m ad len cap zs wc x' E q := ⟨x, h⟩
theorem S22.ner (h : S22 w rb k m ad len cap zs wc x E q) : E.ownBlock ≠ some rb := by
  intro e
  have := (h.own.lt rb e).1
  have := h.lt
  omega
theorem S22.call (h : S22 w rb k m ad len cap zs wc x E q) (hg : wc.grownBy w2 (some rb)) (hr : Rd w2 rb q' ad len cap zs) : S22 w rb k m ad len cap zs w2 x E q' :=
  ⟨hr, gtrans h.g hg, h.lt, h.lk, bkKept h.bk hg (by have := h.lt; have := h.lk; omega), bkKept h.b4 hg (by have := h.lt; omega), h.own.kept hg (.inr h.ner), h.ne, h.n, h.sh, h.sm⟩
theorem S22.below (h : S22 w rb k m ad len cap zs wc x E q) (hb : Below wc.heap.size wc w2) : S22 w rb k m ad len cap zs w2 x E q := h.call (bGrow hb) (rdBelow h.rd hb h.lt2)
theorem S22.al (h : S22 w rb k m ad len cap zs wc x E q) (o : Obj) : S22 w rb k m ad len cap zs (wc.alloc o) x E q := h.below ((Below.refl _ _).alloc (Nat.le_refl _) o)
theorem S22.up (h : S22 w rb k m ad len cap zs wc x E q) {m' : Nat} (hm : m ≤ m') : S22 w rb k m' ad len cap zs wc x E q :=
  ⟨h.rd, h.g, h.lt, h.lk, h.bk, h.b4, h.own, h.ne, Nat.le_trans h.n hm, h.sh, h.sm⟩
theorem S22.set (h : S22 w rb k m ad len cap zs wc x E q) {i : Nat} {u : Value} {x' : RQ} (he : (x.at_ E).setIfInBounds i u = x'.at_ E) (hed : x'.edits = x.edits) (hs : smallQ x') : S22 w rb k m ad len cap zs (wc.setCell ⟨k, i, none⟩ u) x' E q := by
  have hG := gSet wc k i u
  have hl := h.lt2
  have h1 := h.lt
  have h2 := h.lk
  refine ⟨h.rd.kept hG (fun r e => by cases e; omega) hl, gNew h.g hG (by omega), h.lt, h.lk, ?_, bkKept h.b4 hG (by omega), ?_, h.ne, ?_, ?_, hs⟩
  · rw [← he]; exact bkSet h.bk
  · rw [hed]; exact h.own.kept hG (.inr h.ne)
  · rw [hed]; exact h.n
  · rw [hed]; exact h.sh
theorem S22.s0 (h : S22 w rb k m ad len cap zs wc x E q) (v : Int) : S22 w rb k m ad len cap zs (wc.setCell ⟨k, 0, none⟩ (.int .i64 v)) { x with user := v } E q := h.set rfl rfl h.sm
theorem S22.s1 (h : S22 w rb k m ad len cap zs wc x E q) (v : Int) : S22 w rb k m ad len cap zs (wc.setCell ⟨k, 1, none⟩ (.int .i64 v)) { x with key := v } E q := h.set rfl rfl h.sm
theorem S22.s2 (h : S22 w rb k m ad len cap zs wc x E q) (v : Int) : S22 w rb k m ad len cap zs (wc.setCell ⟨k, 2, none⟩ (.int .i64 v)) { x with repo := v } E q := h.set rfl rfl h.sm
theorem S22.s3 (h : S22 w rb k m ad len cap zs wc x E q) (v : Int) : S22 w rb k m ad len cap zs (wc.setCell ⟨k, 3, none⟩ (.int .i64 v)) { x with kind := v } E q := h.set rfl rfl h.sm
theorem S22.s6 (h : S22 w rb k m ad len cap zs wc x E q) (v : Int) : S22 w rb k m ad len cap zs (wc.setCell ⟨k, 6, none⟩ (.int .i64 v)) { x with old := v } E q := h.set rfl rfl h.sm
theorem S22.s7 (h : S22 w rb k m ad len cap zs wc x E q) (v : Int) : S22 w rb k m ad len cap zs (wc.setCell ⟨k, 7, none⟩ (.int .i64 v)) { x with back := v } E q := h.set rfl rfl h.sm
theorem S22.s4 (h : S22 w rb k m ad len cap zs wc x E q) (v : ByteArray) (hv : v.size ≤ 64) : S22 w rb k m ad len cap zs (wc.setCell ⟨k, 4, none⟩ (.string v)) { x with ref := v } E q := h.set rfl rfl ⟨hv, h.sm.2.1, h.sm.2.2.1, h.sm.2.2.2⟩
theorem S22.s5 (h : S22 w rb k m ad len cap zs wc x E q) (v : ByteArray) (hv : v.size ≤ 64) : S22 w rb k m ad len cap zs (wc.setCell ⟨k, 5, none⟩ (.string v)) { x with path := v } E q := h.set rfl rfl ⟨h.sm.1, hv, h.sm.2.2.1, h.sm.2.2.2⟩
theorem S22.s9 (h : S22 w rb k m ad len cap zs wc x E q) (u : Int) (r t : ByteArray) (g : Bool) (hr : r.size ≤ 64 ∧ t.size ≤ 64) : S22 w rb k m ad len cap zs ((((wc.setCell ⟨k, 9, none⟩ (.int .i64 u)).setCell ⟨k, 10, none⟩ (.string r)).setCell ⟨k, 11, none⟩ (.string t)).setCell ⟨k, 12, none⟩ (.bool g)) { x with rule := ⟨u, r, t, g⟩ } E q := by
  have h1 : S22 w rb k m ad len cap zs (wc.setCell ⟨k, 9, none⟩ (.int .i64 u)) { x with rule := ⟨u, x.rule.ref, x.rule.path, x.rule.write⟩ } E q := h.set rfl rfl h.sm
  have h2 : S22 w rb k m ad len cap zs ((wc.setCell ⟨k, 9, none⟩ (.int .i64 u)).setCell ⟨k, 10, none⟩ (.string r)) { x with rule := ⟨u, r, x.rule.path, x.rule.write⟩ } E q := h1.set rfl rfl ⟨h.sm.1, h.sm.2.1, h.sm.2.2.1, hr.1, h.sm.2.2.2.2⟩
  have h3 : S22 w rb k m ad len cap zs (((wc.setCell ⟨k, 9, none⟩ (.int .i64 u)).setCell ⟨k, 10, none⟩ (.string r)).setCell ⟨k, 11, none⟩ (.string t)) { x with rule := ⟨u, r, t, x.rule.write⟩ } E q := h2.set rfl rfl ⟨h.sm.1, h.sm.2.1, h.sm.2.2.1, hr.1, hr.2⟩
  exact h3.set rfl rfl ⟨h.sm.1, h.sm.2.1, h.sm.2.2.1, hr.1, hr.2⟩
/-- one edit more, appended: what the appending has left lies in the old row or in a new one -/
theorem S22.app (h : S22 w rb k m ad len cap zs wc x E q) {w3 : World} (hg : wc.grownBy w3 E.ownBlock) {E' : Value} {L : List TE} (ho : w3.ownsRow (w.heap.size + 2) 41 3 E' L.length (cellsE L)) (hL : L ≠ []) {m' : Nat} (hn : L.length ≤ m') (hs : short L) : S22 w rb k m' ad len cap zs (w3.setCell ⟨k, 8, none⟩ E') { x with edits := L } E' q := by
  have hG := gSet w3 k 8 E'
  have hl := h.lt2
  have h1 := h.lt
  have h2 := h.lk
  have h5 := hg.size
  have h6 := h.lk2
  have kb : ∀ {R : Nat} {o : Obj}, wc.heap[R]? = some o → some R ≠ E.ownBlock → w3.heap[R]? = some o := fun hR hne => (hg.block _ (Array.getElem?_eq_some_iff.1 hR).1 hne).trans hR
  have hlo : ∀ j, E.ownBlock = some j → w.heap.size + 2 ≤ j := fun j e => (h.own.lt j e).1
  have GW : w.grownBy w3 (some rb) := ⟨hg.os.trans h.g.os, hg.tape.trans h.g.tape, hg.output.trans h.g.output, Nat.le_trans h.g.size hg.size, fun j hj hne => (hg.block j (Nat.lt_of_lt_of_le hj h.g.size) (fun e => by have := hlo _ e.symm; omega)).trans (h.g.block j hj hne)⟩
  have kbk := kb h.bk (fun e => h.ne e.symm)
  have hne : E'.ownBlock ≠ some k := by
    intro e
    rcases ho.2 with ⟨_, h0⟩ | ⟨g, c, cur, rfl, _, hb, _⟩
    · exact hL (List.eq_nil_of_length_eq_zero h0)
    · have : g = k := Option.some.inj e
      subst this
      rw [kbk] at hb
      have := Option.some.inj hb
      injection this with _ ht _
      exact absurd ht (by decide)
  exact ⟨(h.rd.kept hg (fun j e => by have := hlo j e; omega) hl).kept hG (fun r e => by cases e; omega) (by omega), gNew GW hG (by omega), h.lt, h.lk, bkSet (k := 8) (v := E') kbk, bkKept (kb h.b4 (fun e => by have := hlo _ e.symm; omega)) hG (by omega), ho.kept hG (.inr hne), hne, hn, hs, h.sm⟩
theorem S22.cells (h : S22 w rb k m ad len cap zs wc x E q) : wc.cell? ⟨k, 0, none⟩ = some (.int .i64 x.user) ∧ wc.cell? ⟨k, 1, none⟩ = some (.int .i64 x.key) ∧ wc.cell? ⟨k, 2, none⟩ = some (.int .i64 x.repo) ∧ wc.cell? ⟨k, 3, none⟩ = some (.int .i64 x.kind) ∧ wc.cell? ⟨k, 4, none⟩ = some (.string x.ref) ∧ wc.cell? ⟨k, 5, none⟩ = some (.string x.path) ∧ wc.cell? ⟨k, 6, none⟩ = some (.int .i64 x.old) ∧ wc.cell? ⟨k, 7, none⟩ = some (.int .i64 x.back) ∧ wc.cell? ⟨k, 8, none⟩ = some (E) ∧ wc.cell? ⟨k, 9, none⟩ = some (.int .i64 x.rule.user) ∧ wc.cell? ⟨k, 10, none⟩ = some (.string x.rule.ref) ∧ wc.cell? ⟨k, 11, none⟩ = some (.string x.rule.path) ∧ wc.cell? ⟨k, 12, none⟩ = some (.bool x.rule.write) ∧ wc.cell? ⟨k, 13, none⟩ = some (.int .i64 x.from_) ∧ wc.cell? ⟨k, 14, none⟩ = some (.string x.other) :=
  ⟨bkCell (k := 0) h.bk rfl, bkCell (k := 1) h.bk rfl, bkCell (k := 2) h.bk rfl, bkCell (k := 3) h.bk rfl, bkCell (k := 4) h.bk rfl, bkCell (k := 5) h.bk rfl, bkCell (k := 6) h.bk rfl, bkCell (k := 7) h.bk rfl, bkCell (k := 8) h.bk rfl, bkCell (k := 9) h.bk rfl, bkCell (k := 10) h.bk rfl, bkCell (k := 11) h.bk rfl, bkCell (k := 12) h.bk rfl, bkCell (k := 13) h.bk rfl, bkCell (k := 14) h.bk rfl⟩
theorem S22.frz (h : S22 w rb k m ad len cap zs wc x E q) : wc.frozen? ⟨k, 0, none⟩ = false ∧ wc.frozen? ⟨k, 1, none⟩ = false ∧ wc.frozen? ⟨k, 2, none⟩ = false ∧ wc.frozen? ⟨k, 3, none⟩ = false ∧ wc.frozen? ⟨k, 4, none⟩ = false ∧ wc.frozen? ⟨k, 5, none⟩ = false ∧ wc.frozen? ⟨k, 6, none⟩ = false ∧ wc.frozen? ⟨k, 7, none⟩ = false ∧ wc.frozen? ⟨k, 8, none⟩ = false ∧ wc.frozen? ⟨k, 9, none⟩ = false ∧ wc.frozen? ⟨k, 10, none⟩ = false ∧ wc.frozen? ⟨k, 11, none⟩ = false ∧ wc.frozen? ⟨k, 12, none⟩ = false ∧ wc.frozen? ⟨k, 13, none⟩ = false ∧ wc.frozen? ⟨k, 14, none⟩ = false :=
  ⟨bkFrozen (k := 0) h.bk, bkFrozen (k := 1) h.bk, bkFrozen (k := 2) h.bk, bkFrozen (k := 3) h.bk, bkFrozen (k := 4) h.bk, bkFrozen (k := 5) h.bk, bkFrozen (k := 6) h.bk, bkFrozen (k := 7) h.bk, bkFrozen (k := 8) h.bk, bkFrozen (k := 9) h.bk, bkFrozen (k := 10) h.bk, bkFrozen (k := 11) h.bk, bkFrozen (k := 12) h.bk, bkFrozen (k := 13) h.bk, bkFrozen (k := 14) h.bk⟩
end
theorem shortSnoc {L : List TE} (h : short L) {s b : ByteArray} {z : Bool} (hs : s.size ≤ 64) (hb : b.size ≤ 64) : short (L ++ [⟨s, b, z⟩]) := fun y hy => by
  rcases List.mem_append.1 hy with hy | hy
  · exact h y hy
  · obtain rfl : y = ⟨s, b, z⟩ := by simpa using hy
    exact ⟨hs, hb⟩
theorem litI5 {W W2 : World} {rb : Nat} {t : TypeId} {a0 a1 a2 a3 a4 : Int} (hg : (W.alloc (.cells #[.int .i64 a0, .int .i64 a1, .int .i64 a2, .int .i64 a3, .int .i64 a4] t)).grownBy W2 (some rb)) (hlt : rb < W.heap.size) (v : Nat) (hv : (v : Int) < 5) : ∃ d : Int, W2.cell? ⟨W.heap.size, v, none⟩ = some (.int .i64 d) := by
  rw [litCell hg hlt v]
  rcases (show v = 0 ∨ v = 1 ∨ v = 2 ∨ v = 3 ∨ v = 4 from by omega) with rfl | rfl | rfl | rfl | rfl <;> exact ⟨_, rfl⟩
theorem litI4 {W W2 : World} {rb : Nat} {t : TypeId} {a0 a1 a2 a3 : Int} (hg : (W.alloc (.cells #[.int .i64 a0, .int .i64 a1, .int .i64 a2, .int .i64 a3] t)).grownBy W2 (some rb)) (hlt : rb < W.heap.size) (v : Nat) (hv : (v : Int) < 4) : ∃ d : Int, W2.cell? ⟨W.heap.size, v, none⟩ = some (.int .i64 d) := by
  rw [litCell hg hlt v]
  rcases (show v = 0 ∨ v = 1 ∨ v = 2 ∨ v = 3 from by omega) with rfl | rfl | rfl | rfl <;> exact ⟨_, rfl⟩
theorem litS3 {W W2 : World} {rb : Nat} {t : TypeId} {a0 a1 a2 : ByteArray} (hg : (W.alloc (.cells #[.string a0, .string a1, .string a2] t)).grownBy W2 (some rb)) (hlt : rb < W.heap.size) (v : Nat) (hv : (v : Int) < 3) (h0 : a0.size ≤ 64) (h1 : a1.size ≤ 64) (h2 : a2.size ≤ 64) : ∃ s : ByteArray, W2.cell? ⟨W.heap.size, v, none⟩ = some (.string s) ∧ s.size ≤ 64 := by
  rw [litCell hg hlt v]
  rcases (show v = 0 ∨ v = 1 ∨ v = 2 from by omega) with rfl | rfl | rfl
  · exact ⟨_, rfl, h0⟩
  · exact ⟨_, rfl, h1⟩
  · exact ⟨_, rfl, h2⟩
theorem pickT (n : Int) (hn : 1 ≤ n) (hn2 : n ≤ 1000000) {w wc : World} {rb k m q : Nat} {ad : Option Addr} {len cap : Nat} {zs : Nat → Int} {x : RQ} {E : Value} (h : S22 w rb k m ad len cap zs wc x E q) (hq : q ≤ 900000) :
    Calls Try.prog 22 #[.pointer (some ⟨rb, 0, none⟩), .int .i64 n] wc fun e w' => ∃ v : Nat, (v : Int) < n ∧ e = .returned (.int .i64 v) ∧ S22 w rb k m ad len cap zs w' x E (q + 1) ∧ wc.grownBy w' (some rb) := by
  obtain ⟨n', rfl⟩ := Int.eq_ofNat_of_zero_le (show 0 ≤ n by omega)
  refine (pick_any wc rb q ad len cap n' zs h.rd (by omega) (by omega) (by omega)).mono ?_
  rintro e w' ⟨v, hv, rfl, hR, hG⟩
  exact ⟨v, by omega, rfl, h.call hG hR, hG⟩
theorem ruleT (n : Int) (hn : 1 ≤ n) (hn2 : n ≤ 1000000) {w wc : World} {rb k m q : Nat} {ad : Option Addr} {len cap : Nat} {zs : Nat → Int} {x : RQ} {E : Value} (h : S22 w rb k m ad len cap zs wc x E q) (hq : q ≤ 800000) :
    Calls Try.prog 25 #[.pointer (some ⟨rb, 0, none⟩), .int .i64 n] wc fun e w' => ∃ (u : Int) (r t : ByteArray) (g : Bool) (q' : Nat), e = .returned (.agg #[.int .i64 u, .string r, .string t, .bool g]) ∧ (r.size ≤ 64 ∧ t.size ≤ 64) ∧ q' ≤ q + 30 ∧ S22 w rb k m ad len cap zs w' x E q' := by
  obtain ⟨n', rfl⟩ := Int.eq_ofNat_of_zero_le (show 0 ≤ n by omega)
  refine (rule_any wc rb n' q ad len cap zs h.rd (by omega) h.lt2 (by omega) (by omega)).mono ?_
  rintro e w' ⟨y, q', rfl, _, _, h1, h2, hq', hR, hG⟩
  exact ⟨y.user, y.ref, y.path, y.write, q', rfl, ⟨h1, h2⟩, hq', h.call hG hR⟩
theorem pathT (n : Int) (hn : 1 ≤ n) (hn2 : n ≤ 1000000) {w wc : World} {rb k m q : Nat} {ad : Option Addr} {len cap : Nat} {zs : Nat → Int} {x : RQ} {E : Value} (h : S22 w rb k m ad len cap zs wc x E q) (hq : q ≤ 800000) :
    Calls Try.prog 23 #[.pointer (some ⟨rb, 0, none⟩), .int .i64 n] wc fun e w' => ∃ (s : ByteArray) (q' : Nat), e = .returned (.string s) ∧ s.size ≤ 64 ∧ q' ≤ q + 5 ∧ S22 w rb k m ad len cap zs w' x E q' := by
  obtain ⟨n', rfl⟩ := Int.eq_ofNat_of_zero_le (show 0 ≤ n by omega)
  refine (anyPath_any wc rb q n' ad len cap zs h.rd (by omega) h.lt2 (by omega) (by omega)).mono ?_
  rintro e w' ⟨s, q', rfl, hs, hq', hR, hG⟩
  exact ⟨s, q', rfl, hs, hq', h.call hG hR⟩
end Go.Proofs.Ytcdkjlbpcihcjaa.W
