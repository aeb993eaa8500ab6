/-
  The walk of the draw of entries: some entries, at most six, their names of at most 64 bytes, in memory of their own; the reader has gone on, and of what lay nothing but the reader has turned.
  The walks of the draws of ids and of digits: some number, some text of at most 64 bytes; of what lay nothing but the reader has turned.
  The walks of the draws of objects: some bytes, some entries, some text of at most 800 bytes; of what lay nothing has turned.
-/
import Derived.Test.YthfffpdkmoclbaaGreatDoorMg22
import Derived.Test.YthfffpdkmoclbaaGreatDoorMg17
import Derived.Test.YthfffpdkmoclbaaGreatDoorMg14
import Derived.Test.YthfffpdkmoclbaaGreatDoorMg08
import Derived.Test.YthfffpdkmoclbaaGreatDoorMg12
import Derived.Test.YthfffpdkmoclbaaGreatDoorMg10
namespace Go.Proofs.YthfffpdkmoclbaaGreatDoor.W
open Go.RowKit Go.Proofs.YthfffpdkmoclbaaGreatDoor.M

theorem own_ne {w : World} {b z n g : Nat} {e t : TypeId} {v : Value} {xs : List Value} {cs : Array Value} (h : w.ownsRow b e z v n xs) (hg : w.heap[g]? = some (.cells cs t (0, 0))) (hne : t ≠ e) : v.ownBlock ≠ some g := by
  rcases h.2 with ⟨rfl, _⟩ | ⟨g', cap, cur, rfl, _, h2, _⟩
  · simp [Value.ownBlock]
  · intro q
    simp [Value.ownBlock] at q
    subst q
    rw [hg] at h2
    cases h2
    exact hne rfl
theorem ownRd {w w' : World} {rb b z n : Nat} {e : TypeId} {v : Value} {xs : List Value} (o : w.ownsRow b e z v n xs) (hb : rb < b) (hg : w.grownBy w' (some rb)) : w'.ownsRow b e z v n xs := by
  refine o.kept hg ?_
  cases h : v.ownBlock with
  | none => exact .inl rfl
  | some k => exact .inr fun e => by cases e; have := (o.lt _ h).1; omega
theorem growBy {w w' : World} {rb b z n : Nat} {a : World} {e : TypeId} {v : Value} {xs : List Value} (o : w.ownsRow b e z v n xs) (hb : a.heap.size ≤ b) (h : a.grownBy w (some rb)) (hg : w.grownBy w' v.ownBlock) : a.grownBy w' (some rb) :=
  ⟨hg.os.trans h.os, hg.tape.trans h.tape, hg.output.trans h.output, Nat.le_trans h.size hg.size, fun j hj hne => (hg.block j (Nat.lt_of_lt_of_le hj h.size) (fun e => by have := (o.lt j e.symm).1; omega)).trans (h.block j hj hne)⟩
theorem rdBy {w w' : World} {rb p b z n : Nat} {ad : Option Addr} {len cap : Nat} {zs : Nat → Int} {e : TypeId} {v : Value} {xs : List Value} (h : Rd w rb p ad len cap zs) (o : w.ownsRow b e z v n xs) (hb : rb < b) (hg : w.grownBy w' v.ownBlock) (hlt : rb < w.heap.size) : Rd w' rb p ad len cap zs :=
  h.kept hg (fun r e => by have := (o.lt r e).1; omega) hlt
theorem bkBy {w w' : World} {row : Option Nat} {g : Nat} {o : Obj} (h : w.heap[g]? = some o) (hg : w.grownBy w' row) (hne : row ≠ some g) : w'.heap[g]? = some o :=
  (hg.block g (Array.getElem?_eq_some_iff.1 h).1 (fun e => hne e.symm)).trans h
theorem ownNil {w : World} {b z n : Nat} {e : TypeId} {v : Value} {xs : List Value} (o : w.ownsRow b e z v n xs) (hn : 0 < n) : v ≠ .slice none 0 0 := by
  rintro rfl
  rcases o.2 with ⟨_, h0⟩ | ⟨g, cap, cur, h, _⟩
  · omega
  · cases h
theorem ownsUpEn {w : World} {b b' z n : Nat} {e : TypeId} {v : Value} {xs : List Value} (h : w.ownsRow b e z v n xs) (hb : b' ≤ b) : w.ownsRow b' e z v n xs := by
  refine ⟨h.1, ?_⟩
  rcases h.2 with h | ⟨g, cap, cur, h1, h2, h3⟩
  · exact .inl h
  · exact .inr ⟨g, cap, cur, h1, by omega, h3⟩
/-- names of at most 64 bytes -/
def SmO (L : List OE) : Prop := ∀ x ∈ L, x.nm.size ≤ 64
theorem SmO.snoc {L : List OE} {x : OE} (h : SmO L) (h1 : x.nm.size ≤ 64) : SmO (L ++ [x]) := fun y hy => by
  rcases List.mem_append.1 hy with hy | hy
  · exact h y hy
  · rw [List.mem_singleton] at hy; subst hy; exact h1
theorem SmO.set {L : List OE} {x : OE} (h : SmO L) (k : Nat) (h1 : x.nm.size ≤ 64) : SmO (L.set k x) := fun y hy => by
  rcases List.mem_or_eq_of_mem_set hy with hy | hy
  · exact h y hy
  · rw [hy]; exact h1
theorem cellsO_set0 : ∀ (L : List OE) (k : Nat) (h : k < L.length) (t : ByteArray), (cellsO L).set (k * 3) (.string t) = cellsO (L.set k ⟨t, (L[k]).sh, (L[k]).id⟩)
  | x :: l, 0, _, t => by rw [cellsO_cons]; simp [cellsO_cons]
  | x :: l, k + 1, h, t => by
    rw [cellsO_cons, show (k + 1) * 3 = k * 3 + 1 + 1 + 1 by omega]
    simp only [List.set_cons_succ, cellsO_cons, List.getElem_cons_succ]
    rw [cellsO_set0 l k (by simpa using h) t]
theorem cellsO_set2 : ∀ (L : List OE) (k : Nat) (h : k < L.length) (n : Int), (cellsO L).set (k * 3 + 2) (.int .i64 n) = cellsO (L.set k ⟨(L[k]).nm, (L[k]).sh, n⟩)
  | x :: l, 0, _, n => by rw [cellsO_cons]; simp [cellsO_cons]
  | x :: l, k + 1, h, n => by
    rw [cellsO_cons, show (k + 1) * 3 + 2 = k * 3 + 2 + 1 + 1 + 1 by omega]
    simp only [List.set_cons_succ, cellsO_cons, List.getElem_cons_succ]
    rw [cellsO_set2 l k (by simpa using h) n]

set_option maxRecDepth 100000 in
set_option maxHeartbeats 4000000 in
theorem entries_any (w : World) (rb n p : Nat) (ad : Option Addr) (len cap : Nat) (zs : Nat → Int) (h : Rd w rb p ad len cap zs) (hp : p ≤ 400000) (hlt : rb < w.heap.size) (hn : 1 ≤ n) (hn2 : n ≤ 1000000) :
    Calls Tryz.prog 82 #[.pointer (some ⟨rb, 0, none⟩), .int .i64 n] w fun e w' => ∃ (v : Value) (L : List OE) (p' : Nat), e = .returned v ∧ v ≠ .slice none 0 0 ∧ L.length ≤ 6 ∧ SmO L ∧ w'.ownsRow w.heap.size 90 3 v L.length (cellsO L) ∧ p' ≤ p + 400 ∧ Rd w' rb p' ad len cap zs ∧ w.grownBy w' (some rb) := by
  obtain ⟨i0, hi, hz0, hz1, hz2⟩ := info_parts infoO
  have hown0 : (w.alloc (.cells #[] 90)).ownsRow w.heap.size 90 3 (.slice (some ⟨w.heap.size, 0, none⟩) 0 0) 0 [] := by simpa using World.ownsRow_lit (base := w.heap.size) (e := 90) (size := 3) w #[] 0 (Nat.le_refl _) (by unfold maxLen; omega) rfl
  have HO0 : Hid (((w.alloc (.cells #[] 90)).alloc (.cells #[.string ⟨#[97]⟩, .string ⟨#[97, 98]⟩, .string ⟨#[98]⟩, .string ⟨#[99]⟩, .string ⟨#[122, 122, 122]⟩] 9)).ownsRow w.heap.size 90 3 (.slice (some ⟨w.heap.size, 0, none⟩) 0 0) 0 []) := hown0.alloc _
  have HR0 : Hid (Rd ((w.alloc (.cells #[] 90)).alloc (.cells #[.string ⟨#[97]⟩, .string ⟨#[97, 98]⟩, .string ⟨#[98]⟩, .string ⟨#[99]⟩, .string ⟨#[122, 122, 122]⟩] 9)) rb p ad len cap zs) := (h.alloc hlt _).alloc (by simp; omega) _
  have HN0 : Hid (((w.alloc (.cells #[] 90)).alloc (.cells #[.string ⟨#[97]⟩, .string ⟨#[97, 98]⟩, .string ⟨#[98]⟩, .string ⟨#[99]⟩, .string ⟨#[122, 122, 122]⟩] 9)).heap[w.heap.size + 1]? = some (.cells #[.string ⟨#[97]⟩, .string ⟨#[97, 98]⟩, .string ⟨#[98]⟩, .string ⟨#[99]⟩, .string ⟨#[122, 122, 122]⟩] 9 (0, 0))) := by
    have := bkNew (w.alloc (.cells #[] 90)) (.cells #[.string ⟨#[97]⟩, .string ⟨#[97, 98]⟩, .string ⟨#[98]⟩, .string ⟨#[99]⟩, .string ⟨#[122, 122, 122]⟩] 9)
    simp only [World.size_alloc] at this
    exact this
  clear h hown0
  go_enter Tryz.func82, Tryz.ntmps82
  go_wp2
  go_loopw [5, 7] (fun v iv wr => ∃ (j q : Nat) (L : List OE), iv = .int .i64 j ∧ j ≤ 5 ∧ L.length ≤ j ∧ q ≤ p + 60 * j ∧ v ≠ .slice none 0 0 ∧ Hid (SmO L) ∧ Hid (wr.ownsRow w.heap.size 90 3 v L.length (cellsO L)) ∧ Hid (Rd wr rb q ad len cap zs) ∧ Hid (w.grownBy wr (some rb)) ∧ Hid (wr.heap[w.heap.size + 1]? = some (.cells #[.string ⟨#[97]⟩, .string ⟨#[97, 98]⟩, .string ⟨#[98]⟩, .string ⟨#[99]⟩, .string ⟨#[122, 122, 122]⟩] 9 (0, 0)))) (fun _ i _ => 5 - (intOf i).toNat)
  case atStart => exact ⟨0, p, [], rfl, by omega, by simp, by omega, by simp, (fun x hx => by cases hx), HO0, HR0, gtrans (galloc _ _) (galloc _ _), HN0⟩
  case round =>
    obtain ⟨j, q, L, rfl, hj, hL, hq, hv, HS, HO, HR, HG, HN⟩ := hrel
    have hsz := HG.out.size
    clear HO0 HR0 HN0
    by_cases hlt5 : j < 5
    · go_wp2_with (go_at_call 49; refine (pick_any wr rb q ad len cap 2 zs HR.out (by omega) (by omega) (by omega)).mono ?_; rintro e w2 ⟨v2, hv2, rfl, hR2, hg2⟩; have hs2 := hg2.size; have hO2 := ownRd HO.out hlt hg2; have hG2 := gtrans HG.out hg2; have hN2 := bkKept HN.out hg2 (by omega); clear HR HO HG HN)
      · rename_i K hK _h
        refine frontEN (p := q + 1) (g := w.heap.size + 1) (j := j) (base := w.heap.size) (n := L.length) (xs := cellsO L) (by kernel_rfl) rfl rfl rfl rfl rfl rfl hR2 (by omega) (by omega) hlt5 (by omega) (by omega) (fun w3 hg3 => ?_) (fun w3 hg3 => ownRd hO2 hlt hg3) ?_
        · have hN3 := bkKept hN2 hg3 (by omega)
          rcases (show j = 0 ∨ j = 1 ∨ j = 2 ∨ j = 3 ∨ j = 4 from by omega) with rfl | rfl | rfl | rfl | rfl <;> exact ⟨_, bkCell hN3 rfl, by decide⟩
        · intro y w3 w4 q3 x v' hx hq3 hR3 hg3 hO4 hg4
          have hO3 := ownRd hO2 hlt hg3
          have hs3 := hg3.size
          have hN3 := bkKept hN2 hg3 (by omega)
          have hN4 := bkBy hN3 hg4 (own_ne hO3 hN3 (by decide))
          have hR4 := rdBy hR3 hO3 hlt hg4 (by omega)
          have hG4 := growBy hO3 (Nat.le_refl _) (gtrans hG2 hg3) hg4
          rw [← cellsO_snoc] at hO4
          try simp only [Exit.inBlock, Exit.then]
          refine hK _ _ ?_
          clear hK
          simp only [List.getElem?_toArray, List.getElem?_cons_succ, List.getElem?_cons_zero, Option.getD_some]
          go_wp2
          go_roundw
          case rel => exact ⟨j + 1, q3, L ++ [x], by go_num, by omega, by simp; omega, by omega, ownNil hO4 (by omega), HS.out.snoc hx, by rw [List.length_append]; exact hO4, hR4, hG4, hN4⟩
          case measure => simp [intOf]; omega
      · go_roundw
        case rel => exact ⟨j + 1, q + 1, L, by go_num, by omega, by omega, by omega, hv, HS, hO2, hR2, hG2, hN2⟩
        case measure => simp [intOf]; omega
    · obtain rfl : j = 5 := by omega
      rcases HO.out.2 with ⟨rfl, _⟩ | ⟨ob, cp, cur, rfl, hob, _⟩
      · exact absurd rfl hv
      rcases Nat.eq_zero_or_pos L.length with hL0 | hL0
      · have _t := trivial
        go_wp2
        refine bodyPost_ret (v := .slice (some ⟨ob, 0, none⟩) L.length cp) (by simp [results, Tryz.results82, go_sem, hL0]) rfl ?_
        exact ⟨_, L, q, rfl, hv, by omega, HS.out, HO.out, by omega, HR.out, HG.out⟩
      go_wp2_with (first
        | (go_at_call 49; refine (pick_any wr rb q ad len cap n zs HR.out (by omega) (by omega) (by omega)).mono ?_; rintro e w2 ⟨v2, hv2, rfl, hR2, hg2⟩; have hs2 := hg2.size; have hO2 := ownRd HO.out hlt hg2; have hG2 := gtrans HG.out hg2; clear HR HO HG HN)
        | (go_at_call 49; refine (pick_any w2 rb (q + 1) ad len cap L.length zs hR2 (by omega) (by omega) (by omega)).mono ?_; rintro e w3 ⟨k, hk, rfl, hR3, hg3⟩; have hs3 := hg3.size; have hO3 := ownRd hO2 hlt hg3; have hG3 := gtrans hG2 hg3; clear hR2 hO2)
        | (go_at_call 49; refine (pick_any w3 rb (q + 1 + 1) ad len cap 3 zs hR3 (by omega) (by omega) (by omega)).mono ?_; rintro e w4 ⟨v4, hv4, rfl, hR4, hg4⟩; have hs4 := hg4.size; have hO4 := ownRd hO3 hlt hg4; have hG4 := gtrans hG3 hg4; clear hR3 hO3; obtain ⟨A4, c4, ev, rd4⟩ := rdO_of_own hO4; cases ev; obtain ⟨b4, o4, ev, hbl4, c41, c42, c43⟩ := rd4 k hk; cases ev; have hym := HS.out _ (List.getElem_mem hk); obtain ⟨y, hy⟩ : ∃ y, L[k] = y := ⟨_, rfl⟩; rw [hy] at c41 c42 c43 hym; simp only [Nat.zero_add] at c41 c42 c43)
        | (go_at_call 49; refine (pick_any (w4.alloc (.cells #[.string ⟨#[]⟩, .string ⟨#[97, 98, 99, 100]⟩, .string ⟨#[65]⟩, .string ⟨#[97]⟩] _)) rb (q + 1 + 1 + 1) ad len cap 4 zs (hR4.alloc (by omega) _) (by omega) (by omega) (by omega)).mono ?_; rintro e w5 ⟨v5, hv5, rfl, hR5, hg5⟩; have hs5 := hg5.size; simp only [World.size_alloc] at hs5; obtain ⟨u, hcell, hu⟩ : ∃ u : ByteArray, w5.cell? ⟨w4.heap.size, v5, none⟩ = some (.string u) ∧ u.size ≤ 64 := (by rw [litCell hg5 (by omega) v5]; rcases (show v5 = 0 ∨ v5 = 1 ∨ v5 = 2 ∨ v5 = 3 from by omega) with rfl | rfl | rfl | rfl <;> exact ⟨_, rfl, by decide⟩); have hO5 := ownRd (hO4.alloc (.cells #[.string ⟨#[]⟩, .string ⟨#[97, 98, 99, 100]⟩, .string ⟨#[65]⟩, .string ⟨#[97]⟩] 9)) hlt hg5; have hG5 := gtrans (gtrans hG4 (galloc _ _)) hg5; have hf5 := hO5.frozenAt (k * 3); obtain ⟨z5, hz5⟩ := ownsCell hO5 (k * 3) (by omega); have hst := (hO5.stored (k * 3) (.string u)).1; rw [cellsO_set0 L k hk u] at hst)
        | (go_at_call 49; refine (pick_any (w4.alloc (.cells #[.int .i64 0, .int .i64 (-1), .int .i64 4294967295, .int .i64 4294967296] _)) rb (q + 1 + 1 + 1) ad len cap 4 zs (hR4.alloc (by omega) _) (by omega) (by omega) (by omega)).mono ?_; rintro e w5 ⟨v5, hv5, rfl, hR5, hg5⟩; have hs5 := hg5.size; simp only [World.size_alloc] at hs5; obtain ⟨u, hcell⟩ : ∃ u : Int, w5.cell? ⟨w4.heap.size, v5, none⟩ = some (.int .i64 u) := (by rw [litCell hg5 (by omega) v5]; rcases (show v5 = 0 ∨ v5 = 1 ∨ v5 = 2 ∨ v5 = 3 from by omega) with rfl | rfl | rfl | rfl <;> exact ⟨_, rfl⟩); have hO5 := ownRd (hO4.alloc (.cells #[.int .i64 0, .int .i64 (-1), .int .i64 4294967295, .int .i64 4294967296] 3)) hlt hg5; have hG5 := gtrans (gtrans hG4 (galloc _ _)) hg5; have hf5 := hO5.frozenAt (k * 3 + 2); obtain ⟨z5, hz5⟩ := ownsCell hO5 (k * 3 + 2) (by omega); have hst := (hO5.stored (k * 3 + 2) (.int .i64 u)).1; rw [cellsO_set2 L k hk u] at hst)
        | (at_builtin; refine wpList_append_own _ rfl _ _ 81 rfl w.heap.size 90 i0 (.agg #[.string ByteArray.empty, .bool false, .int .i64 0]) 3 32 Tryz.underlying81 hi hz0 hz1 hz2 rfl (by decide) _ _ _ rfl (hO4.alloc _) ⟨w4.heap.size, 0, none⟩ 1 1 [.string y.nm, .bool y.sh, .int .i64 y.id] rfl rfl (cells_new _ #[.string y.nm, .bool y.sh, .int .i64 y.id] _) (fun u hu => by simp at hu; rcases hu with rfl | rfl | rfl <;> rfl) (by unfold maxLen; omega) (by omega) (by simp; omega) ?_; intro v5 w5 hO5 hg5 _; have hR5 := rdBy (hR4.alloc (by omega) _) (hO4.alloc _) hlt hg5 (by simp; omega); have hG5 := growBy (hO4.alloc _) (Nat.le_refl _) (gtrans hG4 (galloc _ _)) hg5; rw [← cellsO_snoc] at hO5))
      all_goals (try simp only [Exit.inBlock, Exit.then])
      · go_ret
        exact ⟨_, L.set k ⟨u, (L[k]).sh, (L[k]).id⟩, q + 1 + 1 + 1 + 1, rfl, by simp, by simp; omega, HS.out.set k hu, by simpa using hst, by omega, hR5.kept (gSet w5 ob (k * 3) (.string u)) (fun r e => by cases e; omega) (by omega), gNew hG5 (gSet w5 ob (k * 3) (.string u)) hob⟩
      · go_ret
        exact ⟨_, L.set k ⟨(L[k]).nm, (L[k]).sh, u⟩, q + 1 + 1 + 1 + 1, rfl, by simp, by simp; omega, HS.out.set k (show (L[k]).nm.size ≤ 64 from HS.out _ (List.getElem_mem hk)), by simpa using hst, by omega, hR5.kept (gSet w5 ob (k * 3 + 2) (.int .i64 u)) (fun r e => by cases e; omega) (by omega), gNew hG5 (gSet w5 ob (k * 3 + 2) (.int .i64 u)) hob⟩
      · go_ret
        exact ⟨v5, L ++ [y], q + 1 + 1 + 1, rfl, ownNil hO5 (by omega), by simp; omega, HS.out.snoc hym, by rw [List.length_append]; exact hO5, by omega, hR5, hG5⟩
      · go_ret
        exact ⟨_, L, q + 1, rfl, hv, by omega, HS.out, hO2, by omega, hR2, hG2⟩
end Go.Proofs.YthfffpdkmoclbaaGreatDoor.W
namespace Go.Proofs.YthfffpdkmoclbaaGreatDoor.W
open Go.RowKit Go.Proofs.YthfffpdkmoclbaaGreatDoor.M

theorem conv1i (w : World) (v : Int) : (convert 22 9 (.slice (some ⟨w.heap.size, 0, none⟩) 1 1)).run Tryz.prog (w.alloc (.cells #[.int .u8 v] 5)) = .ok (.string (strOfNums [v])) (w.alloc (.cells #[.int .u8 v] 5)) :=
  run_convert_bytes_arg (P := Tryz.prog) (w.alloc (.cells #[.int .u8 v] 5)) 22 5 Tryz.underlying22 Tryz.underlying5 w.heap.size 0 1 1 [v] rfl (fun i hi => by
    obtain rfl : i = 0 := by omega
    simp) 9 Tryz.underlying9
theorem gdrewN (w : World) (n : Nat) {row : Option Nat} : w.grownBy (w.drewN n) row := ⟨rfl, rfl, rfl, Nat.le_refl _, fun _ _ _ => rfl⟩
theorem gbelow {w w' : World} (h : Below w.heap.size w w') : w.grownBy w' none := ⟨h.os, h.tape, h.output, h.size, fun k hk _ => h.block k hk⟩
theorem idHexB_le (n : Int) : (idHexB n).size ≤ 8 := by
  by_cases h : 1 ≤ n ∧ n ≤ 4294967295
  · obtain ⟨m, rfl⟩ := Int.eq_ofNat_of_zero_le (show 0 ≤ n by omega)
    rw [idHexB_size m (by omega) (by omega)]; omega
  · rw [idHexB_out n h]; decide
theorem str1_size (v : Int) : (strOfNums [v]).size = 1 := by rw [str_one]; rfl

theorem litInts7 {w w2 : World} {rb : Nat} {t : TypeId} (x : Int) (hg : (w.alloc (.cells #[.int .i64 1, .int .i64 4294967295, .int .i64 0, .int .i64 4294967296, .int .i64 (-1), .int .i64 255, .int .i64 x] t)).grownBy w2 (some rb)) (hlt : rb < w.heap.size) (v : Nat) (hv : v < 7) (h1 : 0 ≤ x) (h2 : x ≤ 5000000000) :
    ∃ n : Int, w2.cell? ⟨w.heap.size, v, none⟩ = some (.int .i64 n) ∧ -1 ≤ n ∧ n ≤ 5000000000 := by
  rw [litCell hg hlt v]
  rcases (show v = 0 ∨ v = 1 ∨ v = 2 ∨ v = 3 ∨ v = 4 ∨ v = 5 ∨ v = 6 from by omega) with rfl | rfl | rfl | rfl | rfl | rfl | rfl
  · exact ⟨_, rfl, by omega, by omega⟩
  · exact ⟨_, rfl, by omega, by omega⟩
  · exact ⟨_, rfl, by omega, by omega⟩
  · exact ⟨_, rfl, by omega, by omega⟩
  · exact ⟨_, rfl, by omega, by omega⟩
  · exact ⟨_, rfl, by omega, by omega⟩
  · exact ⟨x, rfl, by omega, by omega⟩
theorem litInts8 {w w2 : World} {rb : Nat} {t : TypeId} (x : Int) (hg : (w.alloc (.cells #[.int .i64 32, .int .i64 48, .int .i64 97, .int .i64 47, .int .i64 61, .int .i64 0, .int .i64 33, .int .i64 x] t)).grownBy w2 (some rb)) (hlt : rb < w.heap.size) (v : Nat) (hv : v < 8) (h1 : 0 ≤ x) (h2 : x ≤ 255) :
    ∃ n : Int, w2.cell? ⟨w.heap.size, v, none⟩ = some (.int .i64 n) ∧ 0 ≤ n ∧ n ≤ 255 := by
  rw [litCell hg hlt v]
  rcases (show v = 0 ∨ v = 1 ∨ v = 2 ∨ v = 3 ∨ v = 4 ∨ v = 5 ∨ v = 6 ∨ v = 7 from by omega) with rfl | rfl | rfl | rfl | rfl | rfl | rfl | rfl
  · exact ⟨_, rfl, by omega, by omega⟩
  · exact ⟨_, rfl, by omega, by omega⟩
  · exact ⟨_, rfl, by omega, by omega⟩
  · exact ⟨_, rfl, by omega, by omega⟩
  · exact ⟨_, rfl, by omega, by omega⟩
  · exact ⟨_, rfl, by omega, by omega⟩
  · exact ⟨_, rfl, by omega, by omega⟩
  · exact ⟨x, rfl, by omega, by omega⟩

set_option maxHeartbeats 1000000 in
theorem id_any (w : World) (rb p : Nat) (a : Option Addr) (len cap : Nat) (zs : Nat → Int) (h : Rd w rb p a len cap zs) (hp : p ≤ 900000) (hlt : rb < w.heap.size) :
    Calls Tryz.prog 60 #[.pointer (some ⟨rb, 0, none⟩)] w fun e w' => ∃ n : Int, e = .returned (.int .i64 n) ∧ -1 ≤ n ∧ n ≤ 5000000000 ∧ w.grownBy w' (some rb) := by
  go_enter Tryz.func60, Tryz.ntmps60
  go_wp2_with (first
    | (go_at_call 49; refine (pick_any _ rb p a len cap 256 zs h (by omega) (by omega) (by omega)).mono ?_; rintro e w1 ⟨v0, hv0, rfl, hR1, hg1⟩; clear h; have hl1 : rb < w1.heap.size := Nat.lt_of_lt_of_le hlt hg1.size)
    | (go_at_call 49; refine (pick_any _ rb _ a len cap 256 zs hR1 (by omega) (by omega) (by omega)).mono ?_; rintro e w2 ⟨v1, hv1, rfl, hR2, hg2⟩; clear hR1; have hl2 : rb < w2.heap.size := Nat.lt_of_lt_of_le hl1 hg2.size)
    | (go_at_call 49; refine (pick_any _ rb _ a len cap 7 zs (hR2.alloc hl2 _) (by omega) (by omega) (by omega)).mono ?_; rintro e w3 ⟨v, hv, rfl, hR3, hg3⟩; clear hR2; obtain ⟨n, hcell, hn1, hn2⟩ := litInts7 _ hg3 hl2 v hv (by omega) (by omega)))
  go_ret
  exact ⟨n, rfl, hn1, hn2, gtrans (gtrans (gtrans hg1 hg2) (galloc _ _)) hg3⟩

set_option maxHeartbeats 2000000 in
theorem bent_any (w : World) (rb p : Nat) (a : Option Addr) (len cap : Nat) (zs : Nat → Int) (s : ByteArray) (h : Rd w rb p a len cap zs) (hp : p ≤ 900000) (hlt : rb < w.heap.size) (hs : s.size ≤ 200) :
    Calls Tryz.prog 83 #[.pointer (some ⟨rb, 0, none⟩), .string s] w fun e w' => ∃ t : ByteArray, e = .returned (.string t) ∧ t.size ≤ s.size + 1 ∧ w.grownBy w' (some rb) := by
  have kc := conv1i
  have ks := str1_size
  go_enter Tryz.func83, Tryz.ntmps83
  go_wp2_with (first
    | (go_at_call 49; refine (pick_any _ rb p a len cap (s.size + 1) zs h (by omega) (by omega) (by omega)).mono ?_; rintro e w1 ⟨k, hk, rfl, hR1, hg1⟩; clear h; have hl1 : rb < w1.heap.size := Nat.lt_of_lt_of_le hlt hg1.size)
    | (go_at_call 49; refine (pick_any _ rb _ a len cap 256 zs hR1 (by omega) (by omega) (by omega)).mono ?_; rintro e w2 ⟨v1, hv1, rfl, hR2, hg2⟩; clear hR1; have hl2 : rb < w2.heap.size := Nat.lt_of_lt_of_le hl1 hg2.size)
    | (go_at_call 49; refine (pick_any _ rb _ a len cap 8 zs (hR2.alloc hl2 _) (by omega) (by omega) (by omega)).mono ?_; rintro e w3 ⟨v, hv, rfl, hR3, hg3⟩; clear hR2; obtain ⟨n, hcell, hn1, hn2⟩ := litInts8 _ hg3 hl2 v hv (by omega) (by omega); have hl3 : rb < w3.heap.size := Nat.lt_of_lt_of_le (by simp; omega) hg3.size)
    | (go_at_call 49; refine (pick_any _ rb _ a len cap 3 zs (hR3.alloc hl3 _) (by omega) (by omega) (by omega)).mono ?_; rintro e w4 ⟨v4, hv4, rfl, hR4, hg4⟩; clear hR3; have hl4 : rb < w4.heap.size := Nat.lt_of_lt_of_le (by simp; omega) hg4.size)
    | (go_at_call 49; refine (pick_any _ rb _ a len cap 2 zs hR4 (by omega) (by omega) (by omega)).mono ?_; rintro e w5 ⟨v5, hv5, rfl, hR5, hg5⟩; clear hR4))
  · go_quiet (fail)
    go_wp2
    go_ret
    exact ⟨_, rfl, by simp [ByteArray.size_append, ByteArray.size_extract, ks]; omega, gtrans (gtrans (gtrans (gtrans (gtrans (gtrans hg1 hg2) (galloc _ _)) hg3) (galloc _ _)) hg4) (gdrewN _ _)⟩
  · go_ret
    exact ⟨_, rfl, by simp [ByteArray.size_append, ks], gtrans (gtrans (gtrans (gtrans (gtrans hg1 hg2) (galloc _ _)) hg3) (galloc _ _)) hg4⟩
  all_goals
    have hk' : k < s.size := by
      have := ‹((k : Int) == (s.size : Int)) = false›
      simp at this; omega
    go_quiet (fail)
    go_wp2
    go_ret
    exact ⟨_, rfl, by simp [ByteArray.size_append, ByteArray.size_extract, ks]; omega, gtrans (gtrans (gtrans (gtrans (gtrans (gtrans (gtrans hg1 hg2) (galloc _ _)) hg3) (galloc _ _)) hg4) hg5) (gdrewN _ _)⟩

end Go.Proofs.YthfffpdkmoclbaaGreatDoor.W
namespace Go.Proofs.YthfffpdkmoclbaaGreatDoor.W
open Go.RowKit Go.Proofs.YthfffpdkmoclbaaGreatDoor.M

end Go.Proofs.YthfffpdkmoclbaaGreatDoor.W
