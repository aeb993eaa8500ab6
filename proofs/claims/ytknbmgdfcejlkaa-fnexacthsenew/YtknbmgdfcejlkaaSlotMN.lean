
/-
  A key, a repo is appended to a field of the house: the regions of the specification's MdlNew that draw their order. (Written by genslotf.py.) No condition but those named.
-/
import Derived.Test.YtknbmgdfcejlkaaMathSlotF
import Derived.Test.YtknbmgdfcejlkaaRowM
import Derived.Maps.AppendAt
namespace Go.Proofs.Ytknbmgdfcejlkaa.W
open Go.RowKit
set_option linter.unusedVariables false

/-- the regions that draw -/
def drawnL : Code → List (Array Oper)
  | .region _ ops true => [ops]
  | .seq a b => drawnL a ++ drawnL b
  | .cond _ a b => drawnL a ++ drawnL b
  | .block _ a => drawnL a
  | .loop a => drawnL a
  | _ => []
theorem hpSet {w : World} {g k : Nat} {v : Value} {cs : Array Value} {t : TypeId} (h : w.heap[g]? = some (.cells cs t (0, 0))) : (w.setCell ⟨g, k, none⟩ v).heap[g]? = some (.cells (cs.setIfInBounds k v) t (0, 0)) := by
  simp [World.setCell, Array.getElem?_modify, h]
theorem hpCell {w : World} {g k : Nat} {v : Value} {cs : Array Value} {t : TypeId} (h : w.heap[g]? = some (.cells cs t (0, 0))) (hk : cs[k]? = some v) : w.cell? ⟨g, k, none⟩ = some v := by
  simp [World.cell?, h, hk]
theorem hpFrozen {w : World} {g k : Nat} {cs : Array Value} {t : TypeId} (h : w.heap[g]? = some (.cells cs t (0, 0))) : w.frozen? ⟨g, k, none⟩ = false := by
  simp [World.frozen?, h]
theorem hpNew (w : World) (o : Obj) : (w.alloc o).heap[w.heap.size]? = some o := by
  show (w.heap.push o)[w.heap.size]? = _
  simp
theorem hpBelow {w w' : World} {g : Nat} {o : Obj} {B : Nat} (h : w.heap[g]? = some o) (hb : Below B w w') (hB : g < B) : w'.heap[g]? = some o := (hb.block g hB).trans h
theorem hpBy {w w' : World} {g : Nat} {o : Obj} {r : Option Nat} (h : w.heap[g]? = some o) (hg : w.grownBy w' r) (hne : r ≠ some g) : w'.heap[g]? = some o := (hg.block g (Array.getElem?_eq_some_iff.1 h).1 (fun e => hne e.symm)).trans h
theorem wp_append_at {P : Program} {w : World} {o : Oper} {a : Act} {K : Act → World → Prop} {Q : Exit → Act → World → Prop} (s x : Operand) (t : TypeId)
    (ho : o.op = .call { callee := .builtin .append, args := #[s, x], argTypes := #[t, t] })
    (base : Nat) (e : TypeId) (i : TypeInfo) (z : Value) (size bytes : Nat) (ht : P.underlying t = some (.slice e)) (hi : P.info? e = some i) (hz : i.zero = some z)
    (hsize : i.size = size) (hby : i.bytes = bytes) (hzs : z.cells.size = size) (hsz : 0 < size)
    (v : Value) (n : Nat) (xs : List Value) (hs : a.eval s = v) (hown : w.ownsRow base e size v n xs)
    (ad : Addr) (m c : Nat) (news : List Value) (hx : a.eval x = .slice (some ad) m c) (hl : news.length = m * size) (hnews : ∀ j u, news[j]? = some u → w.cell? (ad.add j) = some u) (h1 : ∀ u ∈ news, u.oneCell' = true)
    (h63 : n + m ≤ maxLen) (hbytes : (n + m) * bytes ≤ 140737488355328) (hbase : base ≤ w.heap.size)
    (h : ∀ v' w', w'.ownsRow base e size v' (n + m) (xs ++ news) → w.grownBy w' v.ownBlock → (v'.ownBlock = v.ownBlock ∨ v'.ownBlock = some w.heap.size) → K (a.put o.dst v') w') :
    o.wp P a w K Q := by
  obtain ⟨v', w', hr, h2, h3, _, h5⟩ := run_append_own_at (P := P) w base t o.type e i z size bytes ht hi hz hsize hby hzs hsz v n xs hown ad m c news hl hnews h1 h63 hbytes hbase
  unfold Oper.wp execOp
  simp only [ho, resolve, invoke, builtin, Sem.run_bind, Sem.run_pure, Result.andThen_ok, List.map_toArray, List.map_cons, List.map_nil, hs, hx, hr]
  exact h v' w' h2 h3 h5
theorem infoInt : (Try.prog.info? 3).map (fun i => (i.zero, i.size, i.bytes)) = some (some (.int .i64 0), 1, 8) := by kernel_rfl
/-- what each operation leaves -/
def TMK (m b o j c len base : Nat) (x : Int) (v0 : Value) : Nat → Value → World → Prop
  | 0 => fun v _ => v = .pointer (some ⟨m, 0, none⟩)
  | 1 => fun v _ => v = v0
  | 2 => fun v _ => v = .slice (some ⟨b, o, none⟩) len c
  | 3 => fun v _ => v = .int .i64 j
  | 4 => fun v _ => v = .pointer (some ⟨b, o + j, none⟩)
  | 5 => fun v _ => v = .int .i64 x
  | 6 => fun v W => ∃ k, v = .slice (some ⟨k, 0, none⟩) 1 1 ∧ base ≤ k ∧ W.heap[k]? = some (.cells #[.int .i64 x] 3 (0, 0))
  | _ => fun _ _ => True
/-- its slot -/
def slotMK : Nat → Nat
  | 0 => 33
  | 1 => 34
  | 2 => 35
  | 3 => 36
  | 4 => 37
  | 5 => 38
  | 6 => 39
  | _ => 999
set_option maxRecDepth 100000 in
set_option maxHeartbeats 8000000 in
theorem frontMK {rid : Nat} {ops : Array Oper} (hops : ((Try.f5.body.map drawnL).getD [])[0]? = some ops) {Q : Exit → Act → World → Prop} {a : Act} {w : World} {m b o j c len base n : Nat} {x : Int} {v0 u0 u1 u2 : Value} {xs : List Value}
    (hsz : a.tmps.size = 73) (hdf : a.defers = []) (hf0 : a.tmps[0]?.getD undef = .slice (some ⟨b, o, none⟩) len c) (hf5 : a.tmps[5]?.getD undef = .pointer (some ⟨m, 0, none⟩)) (hf6 : a.tmps[6]?.getD undef = .int .i64 j)
    (hj : j < len) (hblt : b < w.heap.size) (hcell : w.cell? ⟨b, o + j, none⟩ = some (.int .i64 x)) (hmb : w.heap[m]? = some (.cells #[u0, u1, u2] 25 (0, 0))) (hv0 : #[u0, u1, u2][0]? = some v0)
    (hn : n ≤ 100) (hbase : base ≤ w.heap.size) (hO : w.ownsRow base 3 1 v0 n xs) (hne : v0.ownBlock ≠ some m)
    (hend : ∀ (y : Nat → Value) (w2 w3 : World) (v' : Value), Below w.heap.size w w2 → w3.ownsRow base 3 1 v' (n + 1) (xs ++ [.int .i64 x]) → w2.grownBy w3 v0.ownBlock → (v'.ownBlock = v0.ownBlock ∨ v'.ownBlock = some w2.heap.size) →
      Q .normal ⟨#[a.tmps[0]?.getD undef, a.tmps[1]?.getD undef, a.tmps[2]?.getD undef, a.tmps[3]?.getD undef, a.tmps[4]?.getD undef, a.tmps[5]?.getD undef, a.tmps[6]?.getD undef, a.tmps[7]?.getD undef, a.tmps[8]?.getD undef, a.tmps[9]?.getD undef, a.tmps[10]?.getD undef, a.tmps[11]?.getD undef, a.tmps[12]?.getD undef, a.tmps[13]?.getD undef, a.tmps[14]?.getD undef, a.tmps[15]?.getD undef, a.tmps[16]?.getD undef, a.tmps[17]?.getD undef, a.tmps[18]?.getD undef, a.tmps[19]?.getD undef, a.tmps[20]?.getD undef, a.tmps[21]?.getD undef, a.tmps[22]?.getD undef, a.tmps[23]?.getD undef, a.tmps[24]?.getD undef, a.tmps[25]?.getD undef, a.tmps[26]?.getD undef, a.tmps[27]?.getD undef, a.tmps[28]?.getD undef, a.tmps[29]?.getD undef, a.tmps[30]?.getD undef, a.tmps[31]?.getD undef, a.tmps[32]?.getD undef, y 33, y 34, y 35, y 36, y 37, y 38, y 39, v', .pointer (some ⟨m, 0, none⟩), a.tmps[42]?.getD undef, a.tmps[43]?.getD undef, a.tmps[44]?.getD undef, a.tmps[45]?.getD undef, a.tmps[46]?.getD undef, a.tmps[47]?.getD undef, a.tmps[48]?.getD undef, a.tmps[49]?.getD undef, a.tmps[50]?.getD undef, a.tmps[51]?.getD undef, a.tmps[52]?.getD undef, a.tmps[53]?.getD undef, a.tmps[54]?.getD undef, a.tmps[55]?.getD undef, a.tmps[56]?.getD undef, a.tmps[57]?.getD undef, a.tmps[58]?.getD undef, a.tmps[59]?.getD undef, a.tmps[60]?.getD undef, a.tmps[61]?.getD undef, a.tmps[62]?.getD undef, a.tmps[63]?.getD undef, a.tmps[64]?.getD undef, a.tmps[65]?.getD undef, a.tmps[66]?.getD undef, a.tmps[67]?.getD undef, a.tmps[68]?.getD undef, a.tmps[69]?.getD undef, a.tmps[70]?.getD undef, a.tmps[71]?.getD undef, a.tmps[72]?.getD undef], []⟩ (w3.setCell ⟨m, 0, none⟩ v')) : (Code.region rid ops true).wp Try.prog Q a w := by
  obtain ⟨i0, hi, hz0, hz1, hz2⟩ := info_parts infoInt
  have hmlt : m < w.heap.size := (Array.getElem?_eq_some_iff.1 hmb).1
  simp only [Try.f5, Option.map_some, Option.getD_some, drawnL, List.nil_append, List.append_nil, List.cons_append, List.getElem?_cons_zero] at hops
  obtain rfl := Option.some.inj hops
  clear hops
  refine region_tail3 7 73 slotMK [0, 1, 2, 3, 4, 5, 6, 7, 8, 9, 10, 11, 12, 13, 14, 15, 16, 17, 18, 19, 20, 21, 22, 23, 24, 25, 26, 27, 28, 29, 30, 31, 32, 40, 41, 42, 43, 44, 45, 46, 47, 48, 49, 50, 51, 52, 53, 54, 55, 56, 57, 58, 59, 60, 61, 62, 63, 64, 65, 66, 67, 68, 69, 70, 71, 72] (TMK m b o j c len w.heap.size x v0) rfl (by kernel_rfl) ?_ hsz hdf ?_ ?_ ?_ ?_ ?_ ?_ ?_ ?_
  · clear hend
    intro i o ho e he hb
    match i with
    | 0 => obtain rfl := Option.some.inj ho; revert hb; revert e; decide
    | 1 => obtain rfl := Option.some.inj ho; revert hb; revert e; decide
    | 2 => obtain rfl := Option.some.inj ho; revert hb; revert e; decide
    | 3 => obtain rfl := Option.some.inj ho; revert hb; revert e; decide
    | 4 => obtain rfl := Option.some.inj ho; revert hb; revert e; decide
    | 5 => obtain rfl := Option.some.inj ho; revert hb; revert e; decide
    | 6 => obtain rfl := Option.some.inj ho; revert hb; revert e; decide
    | 7 => obtain rfl := Option.some.inj ho; revert hb; revert e; decide
    | 8 => obtain rfl := Option.some.inj ho; revert hb; revert e; decide
    | 9 => obtain rfl := Option.some.inj ho; revert hb; revert e; decide
    | i + 10 => cases ho
  · intro i v w1 w2 hi h hb
    match i, hi with
    | 0, _ => exact h
    | 1, _ => exact h
    | 2, _ => exact h
    | 3, _ => exact h
    | 4, _ => exact h
    | 5, _ => exact h
    | 6, _ => obtain ⟨k, h1, h2, h3⟩ := h; exact ⟨k, h1, h2, hpBelow h3 hb (Array.getElem?_eq_some_iff.1 h3).1⟩
    | k + 7, hk => exact absurd hk (by omega)
  · decide
  · decide
  · clear hend
    intro S hD h7 i hi
    have s1 := h7 _ rfl { on := 1, ground := .data } (by simp) rfl
    have s6 := h7 _ rfl { on := 6, ground := .data } (by simp) rfl
    have s0 := hD 1 _ rfl s1 { on := 0, ground := .data } (by simp) rfl
    have s5 := hD 6 _ rfl s6 { on := 5, ground := .data } (by simp) rfl
    have s4 := hD 5 _ rfl s5 { on := 4, ground := .data } (by simp) rfl
    have s2 := hD 4 _ rfl s4 { on := 2, ground := .data } (by simp) rfl
    have s3 := hD 4 _ rfl s4 { on := 3, ground := .data } (by simp) rfl
    match i, hi with
    | 0, _ => exact s0
    | 1, _ => exact s1
    | 2, _ => exact s2
    | 3, _ => exact s3
    | 4, _ => exact s4
    | 5, _ => exact s5
    | 6, _ => exact s6
    | k + 7, hk => exact absurd hk (by omega)
  · intro ol ho
    obtain rfl := Option.some.inj ho
    decide
  · intro ol ho
    obtain rfl := Option.some.inj ho
    decide
  · clear hend
    intro i q ho hi a1 w1 hF hA hb1
    have hz1 := hb1.size
    have f0 := (hF 0 (by decide)).trans hf0
    have f5 := (hF 5 (by decide)).trans hf5
    have f6 := (hF 6 (by decide)).trans hf6
    have hc : w1.cell? ⟨b, o + j, none⟩ = some (.int .i64 x) := (hb1.cell (p := ⟨b, _, none⟩) hblt).trans hcell
    have hm1 : w1.cell? ⟨m, 0, none⟩ = some v0 := hpCell (hpBelow hmb hb1 hmlt) hv0
    clear hF hcell hO
    match i with
    | 0 =>
      obtain rfl := Option.some.inj ho
      refine wpOp_do rfl rfl ?_
      clear hA ho
      unfold Oper.wp
      simp [go_sem, f5]
      exact ⟨_, rfl, rfl, Below.refl _ _⟩
    | 1 =>
      obtain rfl := Option.some.inj ho
      refine wpOp_do rfl rfl ?_
      have p0 := hA { on := 0, ground := .data } (by simp) rfl; simp only [TMK, slotMK] at p0
      clear hA ho
      unfold Oper.wp
      simp [go_sem, p0, hm1]
      exact ⟨_, rfl, rfl, Below.refl _ _⟩
    | 2 =>
      obtain rfl := Option.some.inj ho
      refine wpOp_do rfl rfl ?_
      clear hA ho
      unfold Oper.wp
      simp [go_sem, f0]
      exact ⟨_, rfl, rfl, Below.refl _ _⟩
    | 3 =>
      obtain rfl := Option.some.inj ho
      refine wpOp_do rfl rfl ?_
      clear hA ho
      unfold Oper.wp
      simp [go_sem, f6]
      exact ⟨_, rfl, rfl, Below.refl _ _⟩
    | 4 =>
      obtain rfl := Option.some.inj ho
      refine wpOp_do rfl rfl ?_
      have p2 := hA { on := 2, ground := .data } (by simp) rfl; simp only [TMK, slotMK] at p2
      have p3 := hA { on := 3, ground := .data } (by simp) rfl; simp only [TMK, slotMK] at p3
      clear hA ho
      unfold Oper.wp
      have hj' : (j : Int) < (len : Int) := by omega
      simp [go_sem, p2, p3, hj']
      exact ⟨_, rfl, rfl, Below.refl _ _⟩
    | 5 =>
      obtain rfl := Option.some.inj ho
      refine wpOp_do rfl rfl ?_
      have p4 := hA { on := 4, ground := .data } (by simp) rfl; simp only [TMK, slotMK] at p4
      clear hA ho
      unfold Oper.wp
      simp [go_sem, p4, hc]
      exact ⟨_, rfl, rfl, Below.refl _ _⟩
    | 6 =>
      obtain rfl := Option.some.inj ho
      refine wpOp_do rfl rfl ?_
      have p5 := hA { on := 5, ground := .data } (by simp) rfl; simp only [TMK, slotMK] at p5
      clear hA ho
      unfold Oper.wp
      simp [go_sem, p5]
      exact ⟨_, rfl, ⟨w1.heap.size, rfl, hz1, hpNew _ _⟩, (Below.refl _ _).alloc (Nat.le_refl _) _⟩
    | k + 7 => exact absurd hi (by omega)
  · intro y w2 hb2 hall hF
    refine wpOp_do rfl rfl ?_
    have eR := hall 1 (by omega)
    obtain ⟨g, eN, hg1, hg2⟩ := hall 6 (by omega)
    simp only [TMK, slotMK] at eR eN
    have hz2' := hb2.size
    have hO2 : w2.ownsRow base 3 1 v0 n xs := ownsUnder hO hb2 (Nat.le_refl _)
    have hm2 := hpBelow hmb hb2 hmlt
    have F := fun w3 v' h1 h2 h3 => hend y w2 w3 v' hb2 h1 h2 h3
    clear hend hall
    rw [show ((List.range 73).map y).toArray = #[y 0, y 1, y 2, y 3, y 4, y 5, y 6, y 7, y 8, y 9, y 10, y 11, y 12, y 13, y 14, y 15, y 16, y 17, y 18, y 19, y 20, y 21, y 22, y 23, y 24, y 25, y 26, y 27, y 28, y 29, y 30, y 31, y 32, y 33, y 34, y 35, y 36, y 37, y 38, y 39, y 40, y 41, y 42, y 43, y 44, y 45, y 46, y 47, y 48, y 49, y 50, y 51, y 52, y 53, y 54, y 55, y 56, y 57, y 58, y 59, y 60, y 61, y 62, y 63, y 64, y 65, y 66, y 67, y 68, y 69, y 70, y 71, y 72] from rfl]
    rw [hF 0 (by decide), hF 1 (by decide), hF 2 (by decide), hF 3 (by decide), hF 4 (by decide), hF 5 (by decide), hF 6 (by decide), hF 7 (by decide), hF 8 (by decide), hF 9 (by decide), hF 10 (by decide), hF 11 (by decide), hF 12 (by decide), hF 13 (by decide), hF 14 (by decide), hF 15 (by decide), hF 16 (by decide), hF 17 (by decide), hF 18 (by decide), hF 19 (by decide), hF 20 (by decide), hF 21 (by decide), hF 22 (by decide), hF 23 (by decide), hF 24 (by decide), hF 25 (by decide), hF 26 (by decide), hF 27 (by decide), hF 28 (by decide), hF 29 (by decide), hF 30 (by decide), hF 31 (by decide), hF 32 (by decide), hF 40 (by decide), hF 41 (by decide), hF 42 (by decide), hF 43 (by decide), hF 44 (by decide), hF 45 (by decide), hF 46 (by decide), hF 47 (by decide), hF 48 (by decide), hF 49 (by decide), hF 50 (by decide), hF 51 (by decide), hF 52 (by decide), hF 53 (by decide), hF 54 (by decide), hF 55 (by decide), hF 56 (by decide), hF 57 (by decide), hF 58 (by decide), hF 59 (by decide), hF 60 (by decide), hF 61 (by decide), hF 62 (by decide), hF 63 (by decide), hF 64 (by decide), hF 65 (by decide), hF 66 (by decide), hF 67 (by decide), hF 68 (by decide), hF 69 (by decide), hF 70 (by decide), hF 71 (by decide), hF 72 (by decide)]
    refine wp_append_at (.tmp 34) (.tmp 39) 22 rfl base 3 i0 (.int .i64 0) 1 8 Try.underlying22 hi hz0 hz1 hz2 rfl (by decide) v0 n xs (by simp [go_sem, eR]) hO2 ⟨g, 0, none⟩ 1 1 [.int .i64 x] (by simp [go_sem, eN]) rfl ?_ (fun u hu => by simp at hu; first | (subst hu; rfl) | (rcases hu with rfl | rfl | rfl <;> rfl) | (rcases hu with rfl | rfl <;> rfl)) (by unfold maxLen; omega) (by omega) (by omega) ?_
    · intro k u hu
      have e : (⟨g, 0, none⟩ : Addr).add k = ⟨g, k, none⟩ := by unfold Addr.add; split <;> simp_all
      rw [e]
      exact hpCell hg2 (by simpa using hu)
    · intro v' w3 h1 h2 h3
      have hm3 := hpBy hm2 h2 hne
      have cc : w3.cell? ⟨m, 0, none⟩ = some v0 := hpCell hm3 hv0
      have cf : w3.frozen? ⟨m, 0, none⟩ = false := hpFrozen hm3
      have F' := F w3 v' h1 h2 h3
      rw [hf5] at F'
      clear F
      obtain ⟨V, hV⟩ : ∃ V, V = v' := ⟨_, rfl⟩
      refine wpOp_do rfl rfl ?_
      unfold Oper.wp
      simp [go_sem, hf5]
      refine wpOp_do rfl rfl ?_
      unfold Oper.wp
      obtain ⟨Av, nv, cv, rfl⟩ : ∃ A n c, v' = .slice A n c := by
        rcases h1.2 with ⟨rfl, _⟩ | ⟨g', cap', cur', rfl, _⟩
        · exact ⟨_, _, _, rfl⟩
        · exact ⟨_, _, _, rfl⟩
      simp [go_sem, cc, cf]
      exact F'
/-- what each operation leaves -/
def TMR (m b o j c len base : Nat) (x : Int) (v0 : Value) : Nat → Value → World → Prop
  | 0 => fun v _ => v = .pointer (some ⟨m, 2, none⟩)
  | 1 => fun v _ => v = v0
  | 2 => fun v _ => v = .slice (some ⟨b, o, none⟩) len c
  | 3 => fun v _ => v = .int .i64 j
  | 4 => fun v _ => v = .pointer (some ⟨b, o + j, none⟩)
  | 5 => fun v _ => v = .int .i64 x
  | 6 => fun v _ => v = .agg #[.int .i64 x, .slice none 0 0, .slice none 0 0]
  | 7 => fun v W => ∃ k, v = .slice (some ⟨k, 0, none⟩) 1 1 ∧ base ≤ k ∧ W.heap[k]? = some (.cells #[.int .i64 x, .slice none 0 0, .slice none 0 0] 45 (0, 0))
  | _ => fun _ _ => True
/-- its slot -/
def slotMR : Nat → Nat
  | 0 => 62
  | 1 => 63
  | 2 => 64
  | 3 => 65
  | 4 => 66
  | 5 => 67
  | 6 => 68
  | 7 => 69
  | _ => 999
set_option maxRecDepth 100000 in
set_option maxHeartbeats 8000000 in
theorem frontMR {rid : Nat} {ops : Array Oper} (hops : ((Try.f5.body.map drawnL).getD [])[1]? = some ops) {Q : Exit → Act → World → Prop} {a : Act} {w : World} {m b o j c len base n : Nat} {x : Int} {v0 u0 u1 u2 : Value} {xs : List Value}
    (hsz : a.tmps.size = 73) (hdf : a.defers = []) (hf1 : a.tmps[1]?.getD undef = .slice (some ⟨b, o, none⟩) len c) (hf5 : a.tmps[5]?.getD undef = .pointer (some ⟨m, 0, none⟩)) (hf7 : a.tmps[7]?.getD undef = .int .i64 j)
    (hj : j < len) (hblt : b < w.heap.size) (hcell : w.cell? ⟨b, o + j, none⟩ = some (.int .i64 x)) (hmb : w.heap[m]? = some (.cells #[u0, u1, u2] 25 (0, 0))) (hv0 : #[u0, u1, u2][2]? = some v0)
    (hn : n ≤ 100) (hbase : base ≤ w.heap.size) (hO : w.ownsRow base 45 3 v0 n xs) (hne : v0.ownBlock ≠ some m)
    (hend : ∀ (y : Nat → Value) (w2 w3 : World) (v' : Value), Below w.heap.size w w2 → w3.ownsRow base 45 3 v' (n + 1) (xs ++ [.int .i64 x, .slice none 0 0, .slice none 0 0]) → w2.grownBy w3 v0.ownBlock → (v'.ownBlock = v0.ownBlock ∨ v'.ownBlock = some w2.heap.size) →
      Q .normal ⟨#[a.tmps[0]?.getD undef, a.tmps[1]?.getD undef, a.tmps[2]?.getD undef, a.tmps[3]?.getD undef, a.tmps[4]?.getD undef, a.tmps[5]?.getD undef, a.tmps[6]?.getD undef, a.tmps[7]?.getD undef, a.tmps[8]?.getD undef, a.tmps[9]?.getD undef, a.tmps[10]?.getD undef, a.tmps[11]?.getD undef, a.tmps[12]?.getD undef, a.tmps[13]?.getD undef, a.tmps[14]?.getD undef, a.tmps[15]?.getD undef, a.tmps[16]?.getD undef, a.tmps[17]?.getD undef, a.tmps[18]?.getD undef, a.tmps[19]?.getD undef, a.tmps[20]?.getD undef, a.tmps[21]?.getD undef, a.tmps[22]?.getD undef, a.tmps[23]?.getD undef, a.tmps[24]?.getD undef, a.tmps[25]?.getD undef, a.tmps[26]?.getD undef, a.tmps[27]?.getD undef, a.tmps[28]?.getD undef, a.tmps[29]?.getD undef, a.tmps[30]?.getD undef, a.tmps[31]?.getD undef, a.tmps[32]?.getD undef, a.tmps[33]?.getD undef, a.tmps[34]?.getD undef, a.tmps[35]?.getD undef, a.tmps[36]?.getD undef, a.tmps[37]?.getD undef, a.tmps[38]?.getD undef, a.tmps[39]?.getD undef, a.tmps[40]?.getD undef, a.tmps[41]?.getD undef, a.tmps[42]?.getD undef, a.tmps[43]?.getD undef, a.tmps[44]?.getD undef, a.tmps[45]?.getD undef, a.tmps[46]?.getD undef, a.tmps[47]?.getD undef, a.tmps[48]?.getD undef, a.tmps[49]?.getD undef, a.tmps[50]?.getD undef, a.tmps[51]?.getD undef, a.tmps[52]?.getD undef, a.tmps[53]?.getD undef, a.tmps[54]?.getD undef, a.tmps[55]?.getD undef, a.tmps[56]?.getD undef, a.tmps[57]?.getD undef, a.tmps[58]?.getD undef, a.tmps[59]?.getD undef, a.tmps[60]?.getD undef, a.tmps[61]?.getD undef, y 62, y 63, y 64, y 65, y 66, y 67, y 68, y 69, v', .pointer (some ⟨m, 2, none⟩), a.tmps[72]?.getD undef], []⟩ (w3.setCell ⟨m, 2, none⟩ v')) : (Code.region rid ops true).wp Try.prog Q a w := by
  obtain ⟨i0, hi, hz0, hz1, hz2⟩ := info_parts infoM
  have hmlt : m < w.heap.size := (Array.getElem?_eq_some_iff.1 hmb).1
  simp only [Try.f5, Option.map_some, Option.getD_some, drawnL, List.nil_append, List.append_nil, List.cons_append, List.getElem?_cons_zero, List.getElem?_cons_succ] at hops
  obtain rfl := Option.some.inj hops
  clear hops
  refine region_tail3 8 73 slotMR [0, 1, 2, 3, 4, 5, 6, 7, 8, 9, 10, 11, 12, 13, 14, 15, 16, 17, 18, 19, 20, 21, 22, 23, 24, 25, 26, 27, 28, 29, 30, 31, 32, 33, 34, 35, 36, 37, 38, 39, 40, 41, 42, 43, 44, 45, 46, 47, 48, 49, 50, 51, 52, 53, 54, 55, 56, 57, 58, 59, 60, 61, 70, 71, 72] (TMR m b o j c len w.heap.size x v0) rfl (by kernel_rfl) ?_ hsz hdf ?_ ?_ ?_ ?_ ?_ ?_ ?_ ?_
  · clear hend
    intro i o ho e he hb
    match i with
    | 0 => obtain rfl := Option.some.inj ho; revert hb; revert e; decide
    | 1 => obtain rfl := Option.some.inj ho; revert hb; revert e; decide
    | 2 => obtain rfl := Option.some.inj ho; revert hb; revert e; decide
    | 3 => obtain rfl := Option.some.inj ho; revert hb; revert e; decide
    | 4 => obtain rfl := Option.some.inj ho; revert hb; revert e; decide
    | 5 => obtain rfl := Option.some.inj ho; revert hb; revert e; decide
    | 6 => obtain rfl := Option.some.inj ho; revert hb; revert e; decide
    | 7 => obtain rfl := Option.some.inj ho; revert hb; revert e; decide
    | 8 => obtain rfl := Option.some.inj ho; revert hb; revert e; decide
    | 9 => obtain rfl := Option.some.inj ho; revert hb; revert e; decide
    | 10 => obtain rfl := Option.some.inj ho; revert hb; revert e; decide
    | i + 11 => cases ho
  · intro i v w1 w2 hi h hb
    match i, hi with
    | 0, _ => exact h
    | 1, _ => exact h
    | 2, _ => exact h
    | 3, _ => exact h
    | 4, _ => exact h
    | 5, _ => exact h
    | 6, _ => exact h
    | 7, _ => obtain ⟨k, h1, h2, h3⟩ := h; exact ⟨k, h1, h2, hpBelow h3 hb (Array.getElem?_eq_some_iff.1 h3).1⟩
    | k + 8, hk => exact absurd hk (by omega)
  · decide
  · decide
  · clear hend
    intro S hD h8 i hi
    have s1 := h8 _ rfl { on := 1, ground := .data } (by simp) rfl
    have s7 := h8 _ rfl { on := 7, ground := .data } (by simp) rfl
    have s0 := hD 1 _ rfl s1 { on := 0, ground := .data } (by simp) rfl
    have s6 := hD 7 _ rfl s7 { on := 6, ground := .data } (by simp) rfl
    have s5 := hD 6 _ rfl s6 { on := 5, ground := .data } (by simp) rfl
    have s4 := hD 5 _ rfl s5 { on := 4, ground := .data } (by simp) rfl
    have s2 := hD 4 _ rfl s4 { on := 2, ground := .data } (by simp) rfl
    have s3 := hD 4 _ rfl s4 { on := 3, ground := .data } (by simp) rfl
    match i, hi with
    | 0, _ => exact s0
    | 1, _ => exact s1
    | 2, _ => exact s2
    | 3, _ => exact s3
    | 4, _ => exact s4
    | 5, _ => exact s5
    | 6, _ => exact s6
    | 7, _ => exact s7
    | k + 8, hk => exact absurd hk (by omega)
  · intro ol ho
    obtain rfl := Option.some.inj ho
    decide
  · intro ol ho
    obtain rfl := Option.some.inj ho
    decide
  · clear hend
    intro i q ho hi a1 w1 hF hA hb1
    have hz1 := hb1.size
    have f1 := (hF 1 (by decide)).trans hf1
    have f5 := (hF 5 (by decide)).trans hf5
    have f7 := (hF 7 (by decide)).trans hf7
    have hc : w1.cell? ⟨b, o + j, none⟩ = some (.int .i64 x) := (hb1.cell (p := ⟨b, _, none⟩) hblt).trans hcell
    have hm1 : w1.cell? ⟨m, 2, none⟩ = some v0 := hpCell (hpBelow hmb hb1 hmlt) hv0
    clear hF hcell hO
    match i with
    | 0 =>
      obtain rfl := Option.some.inj ho
      refine wpOp_do rfl rfl ?_
      clear hA ho
      unfold Oper.wp
      simp [go_sem, f5]
      exact ⟨_, rfl, rfl, Below.refl _ _⟩
    | 1 =>
      obtain rfl := Option.some.inj ho
      refine wpOp_do rfl rfl ?_
      have p0 := hA { on := 0, ground := .data } (by simp) rfl; simp only [TMR, slotMR] at p0
      clear hA ho
      unfold Oper.wp
      simp [go_sem, p0, hm1]
      exact ⟨_, rfl, rfl, Below.refl _ _⟩
    | 2 =>
      obtain rfl := Option.some.inj ho
      refine wpOp_do rfl rfl ?_
      clear hA ho
      unfold Oper.wp
      simp [go_sem, f1]
      exact ⟨_, rfl, rfl, Below.refl _ _⟩
    | 3 =>
      obtain rfl := Option.some.inj ho
      refine wpOp_do rfl rfl ?_
      clear hA ho
      unfold Oper.wp
      simp [go_sem, f7]
      exact ⟨_, rfl, rfl, Below.refl _ _⟩
    | 4 =>
      obtain rfl := Option.some.inj ho
      refine wpOp_do rfl rfl ?_
      have p2 := hA { on := 2, ground := .data } (by simp) rfl; simp only [TMR, slotMR] at p2
      have p3 := hA { on := 3, ground := .data } (by simp) rfl; simp only [TMR, slotMR] at p3
      clear hA ho
      unfold Oper.wp
      have hj' : (j : Int) < (len : Int) := by omega
      simp [go_sem, p2, p3, hj']
      exact ⟨_, rfl, rfl, Below.refl _ _⟩
    | 5 =>
      obtain rfl := Option.some.inj ho
      refine wpOp_do rfl rfl ?_
      have p4 := hA { on := 4, ground := .data } (by simp) rfl; simp only [TMR, slotMR] at p4
      clear hA ho
      unfold Oper.wp
      simp [go_sem, p4, hc]
      exact ⟨_, rfl, rfl, Below.refl _ _⟩
    | 6 =>
      obtain rfl := Option.some.inj ho
      refine wpOp_do rfl rfl ?_
      have p5 := hA { on := 5, ground := .data } (by simp) rfl; simp only [TMR, slotMR] at p5
      clear hA ho
      unfold Oper.wp
      simp [go_sem, p5]
      exact ⟨_, rfl, rfl, Below.refl _ _⟩
    | 7 =>
      obtain rfl := Option.some.inj ho
      refine wpOp_do rfl rfl ?_
      have p6 := hA { on := 6, ground := .data } (by simp) rfl; simp only [TMR, slotMR] at p6
      clear hA ho
      unfold Oper.wp
      simp [go_sem, p6]
      exact ⟨_, rfl, ⟨w1.heap.size, rfl, hz1, hpNew _ _⟩, (Below.refl _ _).alloc (Nat.le_refl _) _⟩
    | k + 8 => exact absurd hi (by omega)
  · intro y w2 hb2 hall hF
    refine wpOp_do rfl rfl ?_
    have eR := hall 1 (by omega)
    obtain ⟨g, eN, hg1, hg2⟩ := hall 7 (by omega)
    simp only [TMR, slotMR] at eR eN
    have hz2' := hb2.size
    have hO2 : w2.ownsRow base 45 3 v0 n xs := ownsUnder hO hb2 (Nat.le_refl _)
    have hm2 := hpBelow hmb hb2 hmlt
    have F := fun w3 v' h1 h2 h3 => hend y w2 w3 v' hb2 h1 h2 h3
    clear hend hall
    rw [show ((List.range 73).map y).toArray = #[y 0, y 1, y 2, y 3, y 4, y 5, y 6, y 7, y 8, y 9, y 10, y 11, y 12, y 13, y 14, y 15, y 16, y 17, y 18, y 19, y 20, y 21, y 22, y 23, y 24, y 25, y 26, y 27, y 28, y 29, y 30, y 31, y 32, y 33, y 34, y 35, y 36, y 37, y 38, y 39, y 40, y 41, y 42, y 43, y 44, y 45, y 46, y 47, y 48, y 49, y 50, y 51, y 52, y 53, y 54, y 55, y 56, y 57, y 58, y 59, y 60, y 61, y 62, y 63, y 64, y 65, y 66, y 67, y 68, y 69, y 70, y 71, y 72] from rfl]
    rw [hF 0 (by decide), hF 1 (by decide), hF 2 (by decide), hF 3 (by decide), hF 4 (by decide), hF 5 (by decide), hF 6 (by decide), hF 7 (by decide), hF 8 (by decide), hF 9 (by decide), hF 10 (by decide), hF 11 (by decide), hF 12 (by decide), hF 13 (by decide), hF 14 (by decide), hF 15 (by decide), hF 16 (by decide), hF 17 (by decide), hF 18 (by decide), hF 19 (by decide), hF 20 (by decide), hF 21 (by decide), hF 22 (by decide), hF 23 (by decide), hF 24 (by decide), hF 25 (by decide), hF 26 (by decide), hF 27 (by decide), hF 28 (by decide), hF 29 (by decide), hF 30 (by decide), hF 31 (by decide), hF 32 (by decide), hF 33 (by decide), hF 34 (by decide), hF 35 (by decide), hF 36 (by decide), hF 37 (by decide), hF 38 (by decide), hF 39 (by decide), hF 40 (by decide), hF 41 (by decide), hF 42 (by decide), hF 43 (by decide), hF 44 (by decide), hF 45 (by decide), hF 46 (by decide), hF 47 (by decide), hF 48 (by decide), hF 49 (by decide), hF 50 (by decide), hF 51 (by decide), hF 52 (by decide), hF 53 (by decide), hF 54 (by decide), hF 55 (by decide), hF 56 (by decide), hF 57 (by decide), hF 58 (by decide), hF 59 (by decide), hF 60 (by decide), hF 61 (by decide), hF 70 (by decide), hF 71 (by decide), hF 72 (by decide)]
    refine wp_append_at (.tmp 63) (.tmp 69) 23 rfl base 45 i0 (.agg #[.int .i64 0, .slice none 0 0, .slice none 0 0]) 3 56 Try.underlying23 hi hz0 hz1 hz2 rfl (by decide) v0 n xs (by simp [go_sem, eR]) hO2 ⟨g, 0, none⟩ 1 1 [.int .i64 x, .slice none 0 0, .slice none 0 0] (by simp [go_sem, eN]) rfl ?_ (fun u hu => by simp at hu; first | (subst hu; rfl) | (rcases hu with rfl | rfl | rfl <;> rfl) | (rcases hu with rfl | rfl <;> rfl)) (by unfold maxLen; omega) (by omega) (by omega) ?_
    · intro k u hu
      have e : (⟨g, 0, none⟩ : Addr).add k = ⟨g, k, none⟩ := by unfold Addr.add; split <;> simp_all
      rw [e]
      exact hpCell hg2 (by simpa using hu)
    · intro v' w3 h1 h2 h3
      have hm3 := hpBy hm2 h2 hne
      have cc : w3.cell? ⟨m, 2, none⟩ = some v0 := hpCell hm3 hv0
      have cf : w3.frozen? ⟨m, 2, none⟩ = false := hpFrozen hm3
      have F' := F w3 v' h1 h2 h3
      rw [hf5] at F'
      clear F
      obtain ⟨V, hV⟩ : ∃ V, V = v' := ⟨_, rfl⟩
      refine wpOp_do rfl rfl ?_
      unfold Oper.wp
      simp [go_sem, hf5]
      refine wpOp_do rfl rfl ?_
      unfold Oper.wp
      obtain ⟨Av, nv, cv, rfl⟩ : ∃ A n c, v' = .slice A n c := by
        rcases h1.2 with ⟨rfl, _⟩ | ⟨g', cap', cur', rfl, _⟩
        · exact ⟨_, _, _, rfl⟩
        · exact ⟨_, _, _, rfl⟩
      simp [go_sem, cc, cf]
      exact F'
end Go.Proofs.Ytknbmgdfcejlkaa.W
