
/-
  A repo is appended to a field of the house: the region of the specification's HseNew that draws its order. (Written by genslothn.py.) No condition but those named.
-/
import Derived.Test.YtknbmgdfcejlkaaSlotMN
import Derived.Test.YtknbmgdfcejlkaaRowK
namespace Go.Proofs.Ytknbmgdfcejlkaa.W
open Go.RowKit
set_option linter.unusedVariables false

/-- what each operation leaves -/
def THN (h m b o j c len base : Nat) (x : Int) (v0 : Value) : Nat → Value → World → Prop
  | 0 => fun v _ => v = .pointer (some ⟨h, 2, none⟩)
  | 1 => fun v _ => v = v0
  | 2 => fun v _ => v = .pointer (some ⟨m, 2, none⟩)
  | 3 => fun v _ => v = .slice (some ⟨b, o, none⟩) len c
  | 4 => fun v _ => v = .int .i64 j
  | 5 => fun v _ => v = .pointer (some ⟨b, o + j * 3, none⟩)
  | 6 => fun v _ => v = .pointer (some ⟨b, o + j * 3, none⟩)
  | 7 => fun v _ => v = .int .i64 x
  | 8 => fun v _ => v = .agg #[.int .i64 x, .slice none 0 0, .slice none 0 0]
  | 9 => fun v W => ∃ k, v = .slice (some ⟨k, 0, none⟩) 1 1 ∧ base ≤ k ∧ W.heap[k]? = some (.cells #[.int .i64 x, .slice none 0 0, .slice none 0 0] 51 (0, 0))
  | _ => fun _ _ => True
/-- its slot -/
def slotHN : Nat → Nat
  | 0 => 23
  | 1 => 24
  | 2 => 25
  | 3 => 26
  | 4 => 27
  | 5 => 28
  | 6 => 29
  | 7 => 30
  | 8 => 31
  | 9 => 32
  | _ => 999
set_option maxRecDepth 100000 in
set_option maxHeartbeats 8000000 in
theorem frontHN {rid : Nat} {ops : Array Oper} (hops : ((Try.f13.body.map drawnL).getD [])[0]? = some ops) {Q : Exit → Act → World → Prop} {a : Act} {w : World} {h m b o j c len base n : Nat} {x : Int} {v0 u0 u1 k0 k1 : Value} {xs : List Value}
    (hsz : a.tmps.size = 36) (hdf : a.defers = []) (hf5 : a.tmps[5]?.getD undef = .pointer (some ⟨m, 0, none⟩)) (hf6 : a.tmps[6]?.getD undef = .pointer (some ⟨h, 0, none⟩)) (hf7 : a.tmps[7]?.getD undef = .int .i64 j)
    (hj : j < len) (hblt : b < w.heap.size) (hcell : w.cell? ⟨b, o + j * 3, none⟩ = some (.int .i64 x)) (hmb : w.heap[m]? = some (.cells #[k0, k1, .slice (some ⟨b, o, none⟩) len c] 25 (0, 0))) (hhb : w.heap[h]? = some (.cells #[u0, u1, v0, .slice none 0 0, .slice none 0 0, .slice none 0 0, .int .i64 0, .slice none 0 0, .slice none 0 0, .slice none 0 0] 37 (0, 0)))
    (hn : n ≤ 100) (hbase : base ≤ w.heap.size) (hO : w.ownsRow base 51 3 v0 n xs) (hne : v0.ownBlock ≠ some h)
    (hend : ∀ (y : Nat → Value) (w2 w3 : World) (v' : Value), Below w.heap.size w w2 → w3.ownsRow base 51 3 v' (n + 1) (xs ++ [.int .i64 x, .slice none 0 0, .slice none 0 0]) → w2.grownBy w3 v0.ownBlock →
      Q .normal ⟨#[a.tmps[0]?.getD undef, a.tmps[1]?.getD undef, a.tmps[2]?.getD undef, a.tmps[3]?.getD undef, a.tmps[4]?.getD undef, a.tmps[5]?.getD undef, a.tmps[6]?.getD undef, a.tmps[7]?.getD undef, a.tmps[8]?.getD undef, a.tmps[9]?.getD undef, a.tmps[10]?.getD undef, a.tmps[11]?.getD undef, a.tmps[12]?.getD undef, a.tmps[13]?.getD undef, a.tmps[14]?.getD undef, a.tmps[15]?.getD undef, a.tmps[16]?.getD undef, a.tmps[17]?.getD undef, a.tmps[18]?.getD undef, a.tmps[19]?.getD undef, a.tmps[20]?.getD undef, a.tmps[21]?.getD undef, a.tmps[22]?.getD undef, y 23, y 24, y 25, y 26, y 27, y 28, y 29, y 30, y 31, y 32, v', .pointer (some ⟨h, 2, none⟩), a.tmps[35]?.getD undef], []⟩ (w3.setCell ⟨h, 2, none⟩ v')) : (Code.region rid ops true).wp Try.prog Q a w := by
  obtain ⟨i0, hi, hz0, hz1, hz2⟩ := info_parts infoK
  have hmlt : m < w.heap.size := (Array.getElem?_eq_some_iff.1 hmb).1
  have hhlt : h < w.heap.size := (Array.getElem?_eq_some_iff.1 hhb).1
  simp only [Try.f13, Option.map_some, Option.getD_some, drawnL, List.nil_append, List.append_nil, List.getElem?_cons_zero] at hops
  obtain rfl := Option.some.inj hops
  clear hops
  refine region_tail3 10 36 slotHN [0, 1, 2, 3, 4, 5, 6, 7, 8, 9, 10, 11, 12, 13, 14, 15, 16, 17, 18, 19, 20, 21, 22, 33, 34, 35] (THN h m b o j c len w.heap.size x v0) rfl (by kernel_rfl) ?_ hsz hdf ?_ ?_ ?_ ?_ ?_ ?_ ?_ ?_
  · clear hend
    intro i o ho e he hb
    match i with
    | 0 => obtain rfl := Option.some.inj ho; revert hb; revert e; decide
    | 1 => obtain rfl := Option.some.inj ho; revert hb; revert e; decide
    | 2 => obtain rfl := Option.some.inj ho; revert hb; revert e; decide
    | 3 => obtain rfl := Option.some.inj ho; revert hb; revert e; decide
    | 4 => obtain rfl := Option.some.inj ho; revert hb; revert e; decide
    | 5 => obtain rfl := Option.some.inj ho; revert hb; revert e; decide
    | 6 => obtain rfl := Option.some.inj ho; revert hb; revert e; decide
    | 7 => obtain rfl := Option.some.inj ho; revert hb; revert e; decide
    | 8 => obtain rfl := Option.some.inj ho; revert hb; revert e; decide
    | 9 => obtain rfl := Option.some.inj ho; revert hb; revert e; decide
    | 10 => obtain rfl := Option.some.inj ho; revert hb; revert e; decide
    | 11 => obtain rfl := Option.some.inj ho; revert hb; revert e; decide
    | 12 => obtain rfl := Option.some.inj ho; revert hb; revert e; decide
    | i + 13 => cases ho
  · intro i v w1 w2 hi h hb
    match i, hi with
    | 0, _ => exact h
    | 1, _ => exact h
    | 2, _ => exact h
    | 3, _ => exact h
    | 4, _ => exact h
    | 5, _ => exact h
    | 6, _ => exact h
    | 7, _ => exact h
    | 8, _ => exact h
    | 9, _ => obtain ⟨k, h1, h2, h3⟩ := h; exact ⟨k, h1, h2, hpBelow h3 hb (Array.getElem?_eq_some_iff.1 h3).1⟩
    | k + 10, hk => exact absurd hk (by omega)
  · decide
  · decide
  · clear hend
    intro S hD h10 i hi
    have s1 := h10 _ rfl { on := 1, ground := .data } (by simp) rfl
    have s9 := h10 _ rfl { on := 9, ground := .data } (by simp) rfl
    have s0 := hD 1 _ rfl s1 { on := 0, ground := .data } (by simp) rfl
    have s8 := hD 9 _ rfl s9 { on := 8, ground := .data } (by simp) rfl
    have s7 := hD 8 _ rfl s8 { on := 7, ground := .data } (by simp) rfl
    have s6 := hD 7 _ rfl s7 { on := 6, ground := .data } (by simp) rfl
    have s5 := hD 6 _ rfl s6 { on := 5, ground := .data } (by simp) rfl
    have s3 := hD 5 _ rfl s5 { on := 3, ground := .data } (by simp) rfl
    have s4 := hD 5 _ rfl s5 { on := 4, ground := .data } (by simp) rfl
    have s2 := hD 3 _ rfl s3 { on := 2, ground := .data } (by simp) rfl
    match i, hi with
    | 0, _ => exact s0
    | 1, _ => exact s1
    | 2, _ => exact s2
    | 3, _ => exact s3
    | 4, _ => exact s4
    | 5, _ => exact s5
    | 6, _ => exact s6
    | 7, _ => exact s7
    | 8, _ => exact s8
    | 9, _ => exact s9
    | k + 10, hk => exact absurd hk (by omega)
  · intro ol ho
    obtain rfl := Option.some.inj ho
    decide
  · intro ol ho
    obtain rfl := Option.some.inj ho
    decide
  · clear hend
    intro i q ho hi a1 w1 hF hA hb1
    have hz1 := hb1.size
    have f5 := (hF 5 (by decide)).trans hf5
    have f6 := (hF 6 (by decide)).trans hf6
    have f7 := (hF 7 (by decide)).trans hf7
    have hc : w1.cell? ⟨b, o + j * 3, none⟩ = some (.int .i64 x) := (hb1.cell (p := ⟨b, _, none⟩) hblt).trans hcell
    have hm1 : w1.cell? ⟨m, 2, none⟩ = some (.slice (some ⟨b, o, none⟩) len c) := hpCell (hpBelow hmb hb1 hmlt) rfl
    have hh1 : w1.cell? ⟨h, 2, none⟩ = some v0 := hpCell (hpBelow hhb hb1 hhlt) rfl
    clear hF hcell hO
    match i with
    | 0 =>
      obtain rfl := Option.some.inj ho
      refine wpOp_do rfl rfl ?_
      clear hA ho
      unfold Oper.wp
      simp [go_sem, f6]
      exact ⟨_, rfl, rfl, Below.refl _ _⟩
    | 1 =>
      obtain rfl := Option.some.inj ho
      refine wpOp_do rfl rfl ?_
      have p0 := hA { on := 0, ground := .data } (by simp) rfl; simp only [THN, slotHN] at p0
      clear hA ho
      unfold Oper.wp
      simp [go_sem, p0, hh1]
      exact ⟨_, rfl, rfl, Below.refl _ _⟩
    | 2 =>
      obtain rfl := Option.some.inj ho
      refine wpOp_do rfl rfl ?_
      clear hA ho
      unfold Oper.wp
      simp [go_sem, f5]
      exact ⟨_, rfl, rfl, Below.refl _ _⟩
    | 3 =>
      obtain rfl := Option.some.inj ho
      refine wpOp_do rfl rfl ?_
      have p2 := hA { on := 2, ground := .data } (by simp) rfl; simp only [THN, slotHN] at p2
      clear hA ho
      unfold Oper.wp
      simp [go_sem, p2, hm1]
      exact ⟨_, rfl, rfl, Below.refl _ _⟩
    | 4 =>
      obtain rfl := Option.some.inj ho
      refine wpOp_do rfl rfl ?_
      clear hA ho
      unfold Oper.wp
      simp [go_sem, f7]
      exact ⟨_, rfl, rfl, Below.refl _ _⟩
    | 5 =>
      obtain rfl := Option.some.inj ho
      refine wpOp_do rfl rfl ?_
      have p3 := hA { on := 3, ground := .data } (by simp) rfl; simp only [THN, slotHN] at p3
      have p4 := hA { on := 4, ground := .data } (by simp) rfl; simp only [THN, slotHN] at p4
      clear hA ho
      unfold Oper.wp
      have hj' : (j : Int) < (len : Int) := by omega
      simp [go_sem, p3, p4, hj']
      exact ⟨_, rfl, rfl, Below.refl _ _⟩
    | 6 =>
      obtain rfl := Option.some.inj ho
      refine wpOp_do rfl rfl ?_
      have p5 := hA { on := 5, ground := .data } (by simp) rfl; simp only [THN, slotHN] at p5
      clear hA ho
      unfold Oper.wp
      simp [go_sem, p5]
      exact ⟨_, rfl, rfl, Below.refl _ _⟩
    | 7 =>
      obtain rfl := Option.some.inj ho
      refine wpOp_do rfl rfl ?_
      have p6 := hA { on := 6, ground := .data } (by simp) rfl; simp only [THN, slotHN] at p6
      clear hA ho
      unfold Oper.wp
      simp [go_sem, p6, hc]
      exact ⟨_, rfl, rfl, Below.refl _ _⟩
    | 8 =>
      obtain rfl := Option.some.inj ho
      refine wpOp_do rfl rfl ?_
      have p7 := hA { on := 7, ground := .data } (by simp) rfl; simp only [THN, slotHN] at p7
      clear hA ho
      unfold Oper.wp
      simp [go_sem, p7]
      exact ⟨_, rfl, rfl, Below.refl _ _⟩
    | 9 =>
      obtain rfl := Option.some.inj ho
      refine wpOp_do rfl rfl ?_
      have p8 := hA { on := 8, ground := .data } (by simp) rfl; simp only [THN, slotHN] at p8
      clear hA ho
      unfold Oper.wp
      simp [go_sem, p8]
      exact ⟨_, rfl, ⟨w1.heap.size, rfl, hz1, hpNew _ _⟩, (Below.refl _ _).alloc (Nat.le_refl _) _⟩
    | k + 10 => exact absurd hi (by omega)
  · intro y w2 hb2 hall hF
    refine wpOp_do rfl rfl ?_
    have eR := hall 1 (by omega)
    obtain ⟨g, eN, hg1, hg2⟩ := hall 9 (by omega)
    simp only [THN, slotHN] at eR eN
    have hz2' := hb2.size
    have hO2 : w2.ownsRow base 51 3 v0 n xs := ownsUnder hO hb2 (Nat.le_refl _)
    have hm2 := hpBelow hhb hb2 hhlt
    have F := fun w3 v' h1 h2 => hend y w2 w3 v' hb2 h1 h2
    clear hend hall
    rw [show ((List.range 36).map y).toArray = #[y 0, y 1, y 2, y 3, y 4, y 5, y 6, y 7, y 8, y 9, y 10, y 11, y 12, y 13, y 14, y 15, y 16, y 17, y 18, y 19, y 20, y 21, y 22, y 23, y 24, y 25, y 26, y 27, y 28, y 29, y 30, y 31, y 32, y 33, y 34, y 35] from rfl]
    rw [hF 0 (by decide), hF 1 (by decide), hF 2 (by decide), hF 3 (by decide), hF 4 (by decide), hF 5 (by decide), hF 6 (by decide), hF 7 (by decide), hF 8 (by decide), hF 9 (by decide), hF 10 (by decide), hF 11 (by decide), hF 12 (by decide), hF 13 (by decide), hF 14 (by decide), hF 15 (by decide), hF 16 (by decide), hF 17 (by decide), hF 18 (by decide), hF 19 (by decide), hF 20 (by decide), hF 21 (by decide), hF 22 (by decide), hF 33 (by decide), hF 34 (by decide), hF 35 (by decide)]
    refine wp_append_at (.tmp 24) (.tmp 32) 32 rfl base 51 i0 (.agg #[.int .i64 0, .slice none 0 0, .slice none 0 0]) 3 56 Try.underlying32 hi hz0 hz1 hz2 rfl (by decide) v0 n xs (by simp [go_sem, eR]) hO2 ⟨g, 0, none⟩ 1 1 [.int .i64 x, .slice none 0 0, .slice none 0 0] (by simp [go_sem, eN]) rfl ?_ (fun u hu => by simp at hu; first | (rcases hu with rfl | rfl | rfl <;> rfl) | (rcases hu with rfl | rfl <;> rfl)) (by unfold maxLen; omega) (by omega) (by omega) ?_
    · intro k u hu
      have e : (⟨g, 0, none⟩ : Addr).add k = ⟨g, k, none⟩ := by unfold Addr.add; split <;> simp_all
      rw [e]
      exact hpCell hg2 (by simpa using hu)
    · intro v' w3 h1 h2 _
      have hm3 := hpBy hm2 h2 hne
      have cc : w3.cell? ⟨h, 2, none⟩ = some v0 := hpCell hm3 rfl
      have cf : w3.frozen? ⟨h, 2, none⟩ = false := hpFrozen hm3
      have F' := F w3 v' h1 h2
      rw [hf6] at F'
      clear F
      refine wpOp_do rfl rfl ?_
      unfold Oper.wp
      simp [go_sem, hf6]
      refine wpOp_do rfl rfl ?_
      unfold Oper.wp
      obtain ⟨Av, nv, cv, rfl⟩ : ∃ A n c, v' = .slice A n c := by
        rcases h1.2 with ⟨rfl, _⟩ | ⟨g', cap', cur', rfl, _⟩
        · exact ⟨_, _, _, rfl⟩
        · exact ⟨_, _, _, rfl⟩
      simp [go_sem, cc, cf]
      exact F'
end Go.Proofs.Ytknbmgdfcejlkaa.W
