
/-
  One edit more of a request is drawn and appended: the second region of the specification's l21AnyReq that draws its order. (Written by genslotq5.py.) No condition but that the reader is open.
-/
import Derived.Test.YtcdkjlbpcihcjaaMathSlot5
import Derived.Test.YtcdkjlbpcihcjaaMathBlk
import Derived.Test.YtcdkjlbpcihcjaaRowE
import Derived.Test.YtcdkjlbpcihcjaaMathNew
namespace Go.Proofs.Ytcdkjlbpcihcjaa.W
open Go.RowKit Go.Proofs.Ytcdkjlbpcihcjaa.M
set_option linter.unusedVariables false

/-- the regions that draw -/
def drawnR : Code → List (Array Oper)
  | .region _ ops true => [ops]
  | .seq a b => drawnR a ++ drawnR b
  | .cond _ a b => drawnR a ++ drawnR b
  | .block _ a => drawnR a
  | .loop a => drawnR a
  | _ => []
/-- what each operation leaves -/
def TQE (rb base m : Nat) (v0 : Value) : Nat → Value → World → Prop
  | 0 => fun v _ => v = .pointer (some ⟨m, 8, none⟩)
  | 1 => fun v _ => v = v0
  | 2 => fun v _ => v = .pointer (some ⟨rb, 0, none⟩)
  | 3 => fun v _ => ∃ s : ByteArray, v = .string s ∧ s.size ≤ 64
  | 4 => fun v _ => v = .pointer (some ⟨rb, 0, none⟩)
  | 5 => fun v _ => ∃ s : ByteArray, v = .string s ∧ s.size ≤ 64
  | 6 => fun v _ => v = .pointer (some ⟨rb, 0, none⟩)
  | 7 => fun v _ => ∃ k : Nat, k < 2 ∧ v = .int .i64 k
  | 8 => fun v _ => ∃ z : Bool, v = .bool z
  | 9 => fun v _ => ∃ (s b : ByteArray) (z : Bool), v = .agg #[.string s, .string b, .bool z] ∧ s.size ≤ 64 ∧ b.size ≤ 64
  | 10 => fun v W => ∃ (g : Nat) (s b : ByteArray) (z : Bool), v = .slice (some ⟨g, 0, none⟩) 1 1 ∧ base ≤ g ∧ g ≠ rb ∧ W.heap[g]? = some (.cells #[.string s, .string b, .bool z] 41 (0, 0)) ∧ s.size ≤ 64 ∧ b.size ≤ 64
  | _ => fun _ _ => True
/-- its slot -/
def slotQE : Nat → Nat
  | 0 => 82
  | 1 => 83
  | 2 => 84
  | 3 => 85
  | 4 => 86
  | 5 => 87
  | 6 => 88
  | 7 => 89
  | 8 => 90
  | 9 => 91
  | 10 => 92
  | _ => 999
set_option maxRecDepth 100000 in
set_option maxHeartbeats 8000000 in
theorem frontQE {rid : Nat} {ops : Array Oper} (hops : ((Try.f10.body.map drawnR).getD [])[1]? = some ops) {Q : Exit → Act → World → Prop} {a : Act} {w : World} {rb p m : Nat} {ad : Option Addr} {len cap : Nat} {zs : Nat → Int} {cs : Array Value} {v0 : Value} {tm : TypeId} {base k : Nat} {xs : List Value}
    (hsz : a.tmps.size = 101) (hdf : a.defers = []) (hf0 : a.tmps[0]?.getD undef = .pointer (some ⟨rb, 0, none⟩)) (hf7 : a.tmps[7]?.getD undef = .pointer (some ⟨m, 0, none⟩)) (hRd : Rd w rb p ad len cap zs) (hp : p ≤ 500000) (hlt : rb < w.heap.size)
    (hm : w.heap[m]? = some (.cells cs tm (0, 0))) (hm8 : cs[8]? = some v0) (hmr : m ≠ rb) (hk : k ≤ 100) (hbase : base ≤ w.heap.size) (hO : w.ownsRow base 41 3 v0 k xs) (hnr : v0.ownBlock ≠ some rb) (hnm : v0.ownBlock ≠ some m)
    (hend : ∀ (y : Nat → Value) (w2 w3 : World) (q : Nat) (s b : ByteArray) (z : Bool) (v' : Value), s.size ≤ 64 → b.size ≤ 64 → q ≤ p + 70 → Rd w2 rb q ad len cap zs → w.grownBy w2 (some rb) → w3.ownsRow base 41 3 v' (k + 1) (xs ++ [.string s, .string b, .bool z]) → w2.grownBy w3 v0.ownBlock →
      Q .normal ⟨#[.pointer (some ⟨rb, 0, none⟩), y 1, y 2, y 3, y 4, y 5, a.tmps[6]?.getD undef, .pointer (some ⟨m, 0, none⟩), y 8, y 9, y 10, y 11, y 12, y 13, y 14, y 15, y 16, y 17, y 18, y 19, y 20, y 21, y 22, y 23, y 24, y 25, y 26, y 27, y 28, y 29, y 30, y 31, y 32, y 33, y 34, y 35, y 36, y 37, y 38, y 39, y 40, y 41, y 42, y 43, y 44, y 45, y 46, y 47, y 48, y 49, y 50, y 51, y 52, y 53, y 54, y 55, y 56, y 57, y 58, y 59, y 60, y 61, y 62, y 63, y 64, y 65, y 66, y 67, y 68, y 69, y 70, y 71, y 72, y 73, y 74, y 75, y 76, y 77, y 78, y 79, y 80, y 81, y 82, y 83, y 84, y 85, y 86, y 87, y 88, y 89, y 90, y 91, y 92, v', .pointer (some ⟨m, 8, none⟩), y 95, y 96, y 97, y 98, y 99, y 100], []⟩ (w3.setCell ⟨m, 8, none⟩ v')) : (Code.region rid ops true).wp Try.prog Q a w := by
  simp only [Try.f10, Option.map_some, Option.getD_some, drawnR, List.nil_append, List.append_nil, List.cons_append, List.getElem?_cons_zero, List.getElem?_cons_succ] at hops
  obtain rfl := Option.some.inj hops
  clear hops
  obtain ⟨i0, hii, hz0, hz1', hz2⟩ := info_parts infoE
  refine region_slots_tail3 (p := p) 11 5 101 slotQE [0, 6, 7] (TQE rb w.heap.size m v0) rfl (by kernel_rfl) ?_ hsz hdf hRd ?_ ?_ ?_ ?_ ?_ ?_ ?_ ?_
  · clear hend
    intro i o ho e he hb
    match i with
    | 0 => obtain rfl := Option.some.inj ho; revert hb; revert e; decide
    | 1 => obtain rfl := Option.some.inj ho; revert hb; revert e; decide
    | 2 => obtain rfl := Option.some.inj ho; revert hb; revert e; decide
    | 3 => obtain rfl := Option.some.inj ho; revert hb; revert e; decide
    | 4 => obtain rfl := Option.some.inj ho; revert hb; revert e; decide
    | 5 => obtain rfl := Option.some.inj ho; revert hb; revert e; decide
    | 6 => obtain rfl := Option.some.inj ho; revert hb; revert e; decide
    | 7 => obtain rfl := Option.some.inj ho; revert hb; revert e; decide
    | 8 => obtain rfl := Option.some.inj ho; revert hb; revert e; decide
    | 9 => obtain rfl := Option.some.inj ho; revert hb; revert e; decide
    | 10 => obtain rfl := Option.some.inj ho; revert hb; revert e; decide
    | 11 => obtain rfl := Option.some.inj ho; revert hb; revert e; decide
    | 12 => obtain rfl := Option.some.inj ho; revert hb; revert e; decide
    | 13 => obtain rfl := Option.some.inj ho; revert hb; revert e; decide
    | i + 14 => cases ho
  · intro i v w1 w2 hi h hg
    match i, hi with
    | 0, _ => exact h
    | 1, _ => exact h
    | 2, _ => exact h
    | 3, _ => exact h
    | 4, _ => exact h
    | 5, _ => exact h
    | 6, _ => exact h
    | 7, _ => exact h
    | 8, _ => exact h
    | 9, _ => exact h
    | 10, _ => obtain ⟨g, s, b, z, h1, h2, h3, h4, h5⟩ := h; exact ⟨g, s, b, z, h1, h2, h3, bkKept h4 hg h3, h5⟩
    | k + 11, hk => exact absurd hk (by omega)
  · decide
  · decide
  · clear hend
    intro S hD h11 i hi
    have s1 := h11 _ rfl { on := 1, ground := .data } (by simp) rfl
    have s10 := h11 _ rfl { on := 10, ground := .data } (by simp) rfl
    have s0 := hD 1 _ rfl s1 { on := 0, ground := .data } (by simp) rfl
    have s9 := hD 10 _ rfl s10 { on := 9, ground := .data } (by simp) rfl
    have s3 := hD 9 _ rfl s9 { on := 3, ground := .data } (by simp) rfl
    have s5 := hD 9 _ rfl s9 { on := 5, ground := .data } (by simp) rfl
    have s8 := hD 9 _ rfl s9 { on := 8, ground := .data } (by simp) rfl
    have s2 := hD 3 _ rfl s3 { on := 2, ground := .data } (by simp) rfl
    have s4 := hD 5 _ rfl s5 { on := 4, ground := .data } (by simp) rfl
    have s7 := hD 8 _ rfl s8 { on := 7, ground := .data } (by simp) rfl
    have s6 := hD 7 _ rfl s7 { on := 6, ground := .data } (by simp) rfl
    match i, hi with
    | 0, _ => exact s0
    | 1, _ => exact s1
    | 2, _ => exact s2
    | 3, _ => exact s3
    | 4, _ => exact s4
    | 5, _ => exact s5
    | 6, _ => exact s6
    | 7, _ => exact s7
    | 8, _ => exact s8
    | 9, _ => exact s9
    | 10, _ => exact s10
    | k + 11, hk => exact absurd hk (by omega)
  · intro ol ho
    obtain rfl := Option.some.inj ho
    decide
  · intro ol ho
    obtain rfl := Option.some.inj ho
    decide
  · clear hend
    intro i o ho hi a1 w1 q hF hA hq hR1 hg1
    have hq' : q + 5 ≤ p + 5 * 14 := hq
    clear hq
    have hz1 := hg1.size
    have hl1 : rb < w1.heap.size := by omega
    have f0 := (hF 0 (by simp)).trans hf0
    have f7 := (hF 7 (by simp)).trans hf7
    have hc8 := bkCell (k := 8) (bkKept hm hg1 hmr) hm8
    clear hF
    match i with
    | 0 =>
      obtain rfl := Option.some.inj ho
      refine wpOp_do rfl rfl ?_
      clear hA ho
      unfold Oper.wp
      simp [go_sem, f7]
      exact ⟨_, q, rfl, rfl, ⟨rfl, rfl, rfl, Nat.le_refl _, fun _ _ _ => rfl⟩, by omega, hR1⟩
    | 1 =>
      obtain rfl := Option.some.inj ho
      refine wpOp_do rfl rfl ?_
      have p0 := hA { on := 0, ground := .data } (by simp) rfl; simp only [TQE, slotQE] at p0
      clear hA ho
      unfold Oper.wp
      simp [go_sem, p0, hc8]
      exact ⟨_, q, rfl, rfl, ⟨rfl, rfl, rfl, Nat.le_refl _, fun _ _ _ => rfl⟩, by omega, hR1⟩
    | 2 =>
      obtain rfl := Option.some.inj ho
      refine wpOp_do rfl rfl ?_
      clear hA ho
      unfold Oper.wp
      simp [go_sem, f0]
      exact ⟨_, q, rfl, rfl, ⟨rfl, rfl, rfl, Nat.le_refl _, fun _ _ _ => rfl⟩, by omega, hR1⟩
    | 3 =>
      obtain rfl := Option.some.inj ho
      refine wpOp_do rfl rfl ?_
      have p2 := hA { on := 2, ground := .data } (by simp) rfl; simp only [TQE, slotQE] at p2
      clear hA ho
      unfold Oper.wp
      simp [go_sem, p2]
      refine (anyPath_any w1 rb q 2 ad len cap zs hR1 (by omega) (by omega) (by omega) (by omega)).mono ?_
      rintro e w2 ⟨b, p2, rfl, hb, hp2, hR2, hg2⟩
      exact ⟨.string b, p2, rfl, ⟨b, rfl, by omega⟩, hg2, by omega, hR2⟩
    | 4 =>
      obtain rfl := Option.some.inj ho
      refine wpOp_do rfl rfl ?_
      clear hA ho
      unfold Oper.wp
      simp [go_sem, f0]
      exact ⟨_, q, rfl, rfl, ⟨rfl, rfl, rfl, Nat.le_refl _, fun _ _ _ => rfl⟩, by omega, hR1⟩
    | 5 =>
      obtain rfl := Option.some.inj ho
      refine wpOp_do rfl rfl ?_
      have p4 := hA { on := 4, ground := .data } (by simp) rfl; simp only [TQE, slotQE] at p4
      clear hA ho
      unfold Oper.wp
      simp [go_sem, p4]
      refine (bytes_any w1 rb q ad len cap zs hR1 (by omega) (by omega)).mono ?_
      rintro e w2 ⟨b, p2, rfl, hb, hp2, hR2, hg2⟩
      exact ⟨.string b, p2, rfl, ⟨b, rfl, by omega⟩, hg2, by omega, hR2⟩
    | 6 =>
      obtain rfl := Option.some.inj ho
      refine wpOp_do rfl rfl ?_
      clear hA ho
      unfold Oper.wp
      simp [go_sem, f0]
      exact ⟨_, q, rfl, rfl, ⟨rfl, rfl, rfl, Nat.le_refl _, fun _ _ _ => rfl⟩, by omega, hR1⟩
    | 7 =>
      obtain rfl := Option.some.inj ho
      refine wpOp_do rfl rfl ?_
      have p6 := hA { on := 6, ground := .data } (by simp) rfl; simp only [TQE, slotQE] at p6
      clear hA ho
      unfold Oper.wp
      simp [go_sem, p6]
      refine (pick_any w1 rb q ad len cap 2 zs hR1 (by omega) (by omega) (by omega)).mono ?_
      rintro e w2 ⟨v, hv, rfl, hR2, hg2⟩
      exact ⟨.int .i64 v, q + 1, rfl, ⟨v, hv, rfl⟩, hg2, by omega, hR2⟩
    | 8 =>
      obtain rfl := Option.some.inj ho
      refine wpOp_do rfl rfl ?_
      have p7 := hA { on := 7, ground := .data } (by simp) rfl; simp only [TQE, slotQE] at p7
      clear hA ho
      unfold Oper.wp
      obtain ⟨k', hk', e7⟩ := p7
      simp [go_sem, e7]
      exact ⟨_, q, rfl, ⟨_, rfl⟩, ⟨rfl, rfl, rfl, Nat.le_refl _, fun _ _ _ => rfl⟩, by omega, hR1⟩
    | 9 =>
      obtain rfl := Option.some.inj ho
      refine wpOp_do rfl rfl ?_
      have p3 := hA { on := 3, ground := .data } (by simp) rfl; simp only [TQE, slotQE] at p3
      have p5 := hA { on := 5, ground := .data } (by simp) rfl; simp only [TQE, slotQE] at p5
      have p8 := hA { on := 8, ground := .data } (by simp) rfl; simp only [TQE, slotQE] at p8
      clear hA ho
      unfold Oper.wp
      obtain ⟨s', e4, hs'⟩ := p3
      obtain ⟨b', e6, hb'⟩ := p5
      obtain ⟨z', e8⟩ := p8
      simp [go_sem, e4, e6, e8]
      exact ⟨_, q, rfl, ⟨s', b', z', rfl, hs', hb'⟩, ⟨rfl, rfl, rfl, Nat.le_refl _, fun _ _ _ => rfl⟩, by omega, hR1⟩
    | 10 =>
      obtain rfl := Option.some.inj ho
      refine wpOp_do rfl rfl ?_
      have p9 := hA { on := 9, ground := .data } (by simp) rfl; simp only [TQE, slotQE] at p9
      clear hA ho
      unfold Oper.wp
      obtain ⟨s', b', z', e7, hs', hb'⟩ := p9
      simp [go_sem, e7]
      exact ⟨_, q, rfl, ⟨w1.heap.size, s', b', z', rfl, by omega, by omega, bkNew _ _, hs', hb'⟩, galloc _ _, by omega, hR1.alloc hl1 _⟩
    | k + 11 => exact absurd hi (by omega)
  · intro y w2 q hq hR2 hg2 hall hF
    refine wpOp_do rfl rfl ?_
    have eR := hall 1 (by omega)
    obtain ⟨g, s, b, z, eN, hg1, hgr, hblk, hs, hb⟩ := hall 10 (by omega)
    simp only [TQE, slotQE] at eR eN
    have e0 := (hF 0 (by simp)).trans hf0
    have e7 := (hF 7 (by simp)).trans hf7
    have e6 := hF 6 (by simp)
    have hq2 : q ≤ p + 70 := by have : q ≤ p + 5 * (11 + 3) := hq; omega
    have m2 := bkKept hm hg2 hmr
    have hO2 : w2.ownsRow base 41 3 v0 k xs := hO.kept hg2 (.inr hnr)
    have hz2' := hg2.size
    have F := fun w3 v' h1 h2 => hend y w2 w3 q s b z v' hs hb hq2 hR2 hg2 h1 h2
    clear hend hall hF
    rw [show ((List.range 101).map y).toArray = #[y 0, y 1, y 2, y 3, y 4, y 5, y 6, y 7, y 8, y 9, y 10, y 11, y 12, y 13, y 14, y 15, y 16, y 17, y 18, y 19, y 20, y 21, y 22, y 23, y 24, y 25, y 26, y 27, y 28, y 29, y 30, y 31, y 32, y 33, y 34, y 35, y 36, y 37, y 38, y 39, y 40, y 41, y 42, y 43, y 44, y 45, y 46, y 47, y 48, y 49, y 50, y 51, y 52, y 53, y 54, y 55, y 56, y 57, y 58, y 59, y 60, y 61, y 62, y 63, y 64, y 65, y 66, y 67, y 68, y 69, y 70, y 71, y 72, y 73, y 74, y 75, y 76, y 77, y 78, y 79, y 80, y 81, y 82, y 83, y 84, y 85, y 86, y 87, y 88, y 89, y 90, y 91, y 92, y 93, y 94, y 95, y 96, y 97, y 98, y 99, y 100] from rfl]
    rw [e0, e6, e7]
    refine wp_append_own w2 (.tmp 83) (.tmp 92) 23 rfl base 41 i0 (.agg #[.string ByteArray.empty, .string ByteArray.empty, .bool false]) 3 40 Try.underlying23 hii hz0 hz1' hz2 rfl (by decide) v0 k xs (by simp [go_sem, eR]) hO2 ⟨g, 0, none⟩ 1 1 [.string s, .string b, .bool z] (by simp [go_sem, eN]) rfl ?_ (fun u hu => by simp at hu; rcases hu with rfl | rfl | rfl <;> rfl) (by unfold maxLen; omega) (by omega) (by omega) ?_
    · intro j u hu
      have e : (⟨g, 0, none⟩ : Addr).add j = ⟨g, j, none⟩ := by unfold Addr.add; split <;> simp_all
      rw [e]
      exact bkCell hblk (by simpa using hu)
    · intro v' w3 h1 h2 _
      have m3 : w3.heap[m]? = some (.cells cs tm (0, 0)) := (h2.block m (Array.getElem?_eq_some_iff.1 m2).1 (fun e => hnm e.symm)).trans m2
      have c8 := bkCell (k := 8) m3 hm8
      have f8 := bkFrozen (k := 8) m3
      have F' := F w3 v' h1 h2
      clear F
      refine wpOp_do rfl rfl ?_
      unfold Oper.wp
      simp [go_sem]
      refine wpOp_do rfl rfl ?_
      unfold Oper.wp
      obtain ⟨Av, nv, cv, rfl⟩ : ∃ A n c, v' = .slice A n c := by
        rcases h1.2 with ⟨rfl, _⟩ | ⟨g', cap', cur', rfl, _⟩
        · exact ⟨_, _, _, rfl⟩
        · exact ⟨_, _, _, rfl⟩
      simp [go_sem, c8, f8]
      exact F'
end Go.Proofs.Ytcdkjlbpcihcjaa.W
