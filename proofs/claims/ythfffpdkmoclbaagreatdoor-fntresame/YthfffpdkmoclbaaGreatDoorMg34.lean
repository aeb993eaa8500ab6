/-
  Draws of pools: l20Pool, l20AnyPool and the draws that stand on them. At most 701 items, texts of at most 1000 bytes.
  spec.DrawPolGet, spec.DrawPolPut: their region that draws its order, by what each operation leaves in its slot. (Written by genslotpg.py.) No condition but that the reader is open.
  Draws of pools that may be bent: l20AnyPool; DrawPolGet, DrawPolOut, DrawPolPut. At most 701 items, texts of at most 1000 bytes.
-/
import Derived.Test.YthfffpdkmoclbaaGreatDoorMg29
import Derived.Test.YthfffpdkmoclbaaGreatDoorMg32
import Derived.Test.YthfffpdkmoclbaaGreatDoorMg33
import Derived.Test.YthfffpdkmoclbaaGreatDoorMg21
import Derived.Test.YthfffpdkmoclbaaGreatDoorMg30
import Derived.Test.YthfffpdkmoclbaaGreatDoorMg22
namespace Go.Proofs.YthfffpdkmoclbaaGreatDoor.W
open Go.RowKit Go.Proofs.YthfffpdkmoclbaaGreatDoor.M
set_option linter.unusedVariables false

theorem txtSize (T : List ByteArray) (h : ∀ t ∈ T, t.size ≤ 1000) (j : Nat) (hj : j < (sL T).length) : (ByteArray.mk ((sL T)[j]).toArray).size ≤ 1000 := by
  have hm : (sL T)[j] ∈ sL T := List.getElem_mem hj
  obtain ⟨t, ht, e⟩ := List.mem_map.1 hm
  rw [size_mk, ← e, Array.length_toList]
  exact h t ht
theorem shSizes {L : List PI} (h : shP L) : ∀ j (h : j < L.length), (L[j]).tx.size ≤ 1048576 := fun j hj => by
  have := h _ (List.getElem_mem hj); omega
theorem smallOf {F : List TF} (h : shortF F) : smallF 1048576 F := fun x hx => by have := h x hx; omega
theorem smP_nil : smP [] := fun x hx => by cases hx
/-- what the draw of a pool leaves -/
def DrewP (m k : Nat) (w : World) (rb p : Nat) (a : Option Addr) (len cap : Nat) (zs : Nat → Int) (e : Ending) (w' : World) : Prop :=
  (∃ (v u : Value) (L : List PI) (R : List Int), e = .returned (.tuple #[v, u]) ∧ L.length ≤ m ∧ smP L ∧ R.length ≤ 3 ∧ w'.ownsRow w.heap.size 35 2 v L.length (cellsP L) ∧ w'.ownsRow w.heap.size 3 1 u R.length (cellsI R)) ∧ w.grownBy w' (some rb) ∧ ∃ p', p' ≤ p + k ∧ Rd w' rb p' a len cap zs
set_option maxHeartbeats 8000000 in
set_option maxRecDepth 100000 in
theorem pool_any (w : World) (rb p : Nat) (a : Option Addr) (len cap : Nat) (zs : Nat → Int) (h : Rd w rb p a len cap zs) (hp : p ≤ 400) (hlt : rb < w.heap.size) :
    Calls Tryz.prog 78 #[.pointer (some ⟨rb, 0, none⟩)] w (DrewP 700 1200 w rb p a len cap zs) := by
  obtain ⟨i0, hi, hz0, hz1, hz2⟩ := info_parts infoI
  have O0 : ((w.alloc (.cells #[] 35)).alloc (.cells #[] 3)).ownsRow w.heap.size 35 2 (.slice (some ⟨w.heap.size, 0, none⟩) 0 0) 0 [] := (World.ownsRow_lit w #[] 0 (Nat.le_refl _) (by unfold maxLen; omega) rfl).alloc _
  have U0 : ((w.alloc (.cells #[] 35)).alloc (.cells #[] 3)).ownsRow w.heap.size 3 1 (.slice (some ⟨w.heap.size + 1, 0, none⟩) 0 0) 0 [] := by
    have := World.ownsRow_lit (base := w.heap.size) (e := 3) (size := 1) (w.alloc (.cells #[] 35)) #[] 0 (by simp) (by unfold maxLen; omega) rfl
    simpa using this
  go_enter Tryz.func78, Tryz.ntmps78
  go_wp2_with (go_at_call 49; refine (pick_any _ rb p a len cap 4 zs ((h.alloc hlt _).alloc (by simp; omega) _) (by omega) (by omega) (by omega)).mono ?_; rintro e w1 ⟨n, hn, rfl, R1, g1⟩; have z1 := g1.size; simp at z1; have O1 := O0.kept g1 (.inr (by simp [Value.ownBlock]; omega)); have U1 := U0.kept g1 (.inr (by simp [Value.ownBlock]; omega)); have G1 : w.grownBy w1 (some rb) := gtrans (gtrans (galloc _ _) (galloc _ _)) g1; clear O0 U0 g1 h)
  go_loopw [4, 5, 6] (fun v u kv wr => ∃ (m p' : Nat) (L : List PI) (R : List Int), m ≤ 3 ∧ kv = .int .i64 m ∧ p' + 25 * m ≤ p + 76 ∧ L.length ≤ 700 ∧ R.length + m ≤ 3 ∧ Hid (smP L) ∧ Rd wr rb p' a len cap zs ∧ wr.ownsRow w.heap.size 35 2 v L.length (cellsP L) ∧ wr.ownsRow w.heap.size 3 1 u R.length (cellsI R) ∧ w.grownBy wr (some rb)) (fun _ _ k _ => (RowKit.intOf k).toNat)
  case atStart => exact ⟨n, p + 1, [], [], by omega, rfl, by omega, by simp, by simp; omega, smP_nil, R1, O1, U1, G1⟩
  case round =>
    obtain ⟨m, p', L, R, hm, rfl, hp', hL, hR, HS, RR, O, U, G⟩ := hrel
    have hz := G.size
    clear O1 U1 R1 G1
    by_cases hm0 : 0 < m
    · go_wp2_with (first
        | (go_at_call 95; refine (filesD_any _ rb p' a len cap zs RR (by omega) (by omega)).mono ?_; rintro e w2 ⟨⟨vf, F, rfl, hF, hSF, OF⟩, g2, p2, hp2, R2⟩; have z2 := g2.size; have O2 := O.kept g2 (ownNot O hlt); have U2 := U.kept g2 (ownNot U hlt); have G2 := gtrans G g2; obtain ⟨AF, cF, rfl, FF⟩ := rdF_of_own OF; have HT : Hid (∀ t ∈ texT F, t.size ≤ 1000) := texT_short F hSF; have HF : Hid (shortF F) := hSF; clear O U G g2 RR OF hSF)
        | (go_at_call 33; refine (treLay_spec AF cF F _ FF (by omega) (smallOf HF.out)).mono ?_; rintro e w3 ⟨⟨vt, rfl, ot⟩, hb⟩; have z3 := hb.size; obtain ⟨T, hT⟩ : ∃ T, texT F = T := ⟨_, rfl⟩; obtain ⟨id, hid⟩ : ∃ id, texI F = id := ⟨_, rfl⟩; have hTn := texT_len F; rw [hT] at ot HT hTn; rw [hid]; rw [← sL_len T] at ot hTn; obtain ⟨AT, cT, rfl, TT⟩ := rdT_of_own ot; have R3 := rdBelF R2 hb (by omega); have O3 := ownsUnder O2 hb (Nat.le_refl _); have U3 := ownsUnder U2 hb (Nat.le_refl _); have G3 : w.grownBy w3 (some rb) := gtrans G2 (gBelow hb); clear hT hid ot FF HF O2 U2 R2 G2 hb))
      go_loopw [4, 9] (fun v' iv wr => ∃ (j : Nat) (L' : List PI), j ≤ (sL T).length ∧ iv = .int .i64 j ∧ L'.length ≤ 700 ∧ Hid (smP L') ∧ Rd wr rb p2 a len cap zs ∧ wr.ownsRow w.heap.size 35 2 v' L'.length (cellsP L') ∧ wr.ownsRow w.heap.size 3 1 u5 R.length (cellsI R) ∧ RdT wr.heap.size wr AT (sL T) ∧ w.grownBy wr (some rb)) (fun _ i _ => (sL T).length - (RowKit.intOf i).toNat)
      case atStart => exact ⟨0, L, by omega, rfl, hL, HS, R3, O3, U3, TT, G3⟩
      case round =>
        obtain ⟨j, L', hj, rfl, hL', HS', RQ, OQ, UQ, TQ, GQ⟩ := hrel
        have hzq := GQ.size
        clear O3 U3 R3 G3 TT
        by_cases hjl : j < (sL T).length
        · obtain ⟨b, rfl, hbl, c1⟩ := TQ j hjl
          have hts := txtSize T HT.out j hjl
          obtain ⟨s, hs⟩ : ∃ s, ByteArray.mk ((sL T)[j]).toArray = s := ⟨_, rfl⟩
          rw [hs] at c1 hts
          clear hs
          go_wp2_with (go_at_call 11; refine (polPut_spec _ L' s _ OQ (by omega) (shSizes HS'.out.sh) (by omega)).mono ?_; rintro e w4 ⟨⟨vx, rfl, ox⟩, hb⟩; have z4 := hb.size; have HSX := smP_put L' s HS'.out hts; have hXl := putR_len L' s hL'; obtain ⟨⟨X, n, c⟩, hX⟩ : ∃ X, putR L' s = X := ⟨_, rfl⟩; rw [hX] at ox HSX hXl; rw [hX]; have HX : Hid (smP X) := HSX; have R4 := rdBelF RQ hb (by omega); have O4 := ownsUnder OQ hb (Nat.le_refl _); have U4 := ownsUnder UQ hb (Nat.le_refl _); have T4 := TQ.up hb; have G4 : w.grownBy w4 (some rb) := gtrans GQ (gBelow hb); have X4 := ownsUpF ox (show w.heap.size ≤ wr.heap.size by omega); clear hX HSX ox OQ UQ TQ GQ RQ hb; rcases (show c = 1 ∨ (c == 1) = false by rcases Classical.em (c = 1) with h9 | h9; exact .inl h9; exact .inr (by simpa using h9)) with rfl | hcb)
          · go_roundw
            case rel => exact ⟨j + 1, X, by omega, by go_num, hXl, HX, R4, X4, U4, T4, G4⟩
            case measure => simp [RowKit.intOf]; omega
          · go_roundw
            case rel => exact ⟨j + 1, L', by omega, by go_num, hL', HS', R4, O4, U4, T4, G4⟩
            case measure => simp [RowKit.intOf]; omega
        · have X1 := UQ.alloc (.cells #[.int .i64 (id : Int)] 3)
          have X2 := cells_new wr #[.int .i64 (id : Int)] 3
          have X3 : w.heap.size ≤ (wr.alloc (.cells #[.int .i64 (id : Int)] 3)).heap.size := by simp; omega
          have X4 := OQ.alloc (.cells #[.int .i64 (id : Int)] 3)
          have X5 := rowsApart2 X4 X1 (by decide)
          have X6 := gtrans GQ (galloc wr (.cells #[.int .i64 (id : Int)] 3))
          have X7 := RQ.alloc (by omega) (.cells #[.int .i64 (id : Int)] 3)
          have X8 : rb < (wr.alloc (.cells #[.int .i64 (id : Int)] 3)).heap.size := by simp; omega
          go_wp2_with (at_builtin; refine wpList_append_own _ rfl _ _ 41 rfl w.heap.size 3 i0 (.int .i64 0) 1 8 Tryz.underlying41 hi hz0 hz1 hz2 rfl (by decide) _ _ _ rfl X1 ⟨wr.heap.size, 0, none⟩ 1 1 [.int .i64 id] rfl rfl X2 (fun u hu => by simp at hu; subst hu; rfl) (by unfold maxLen; omega) (by omega) X3 ?_; intro v5 w5 U5 g5 _; have O5 := X4.kept g5 X5; have G5 := grOwn X6 X1 (Nat.le_refl _) g5; have R5 := rdOwn X7 X1 hlt X8 g5)
          go_roundw
          case rel => exact ⟨m - 1, p2, L', R ++ [(id : Int)], by omega, by go_num, by omega, hL', by simp; omega, HS', R5, O5, by rw [List.length_append, show cellsI (R ++ [(id : Int)]) = cellsI R ++ [.int .i64 id] by simp [cellsI]]; exact U5, G5⟩
          case measure => simp [RowKit.intOf]; omega
    · obtain rfl : m = 0 := by omega
      go_wp2_with (go_at_call 49; refine (pick_any _ rb p' a len cap 3 zs RR (by omega) (by omega) (by omega)).mono ?_; rintro e w2 ⟨n2, hn2, rfl, R2, g2⟩; have z2 := g2.size; have O2 := O.kept g2 (ownNot O hlt); have U2 := U.kept g2 (ownNot U hlt); have G2 := gtrans G g2; clear O U G g2 RR)
      go_loopw [4, 13] (fun v' kv wr => ∃ (m p3 : Nat) (L' : List PI), m ≤ 2 ∧ kv = .int .i64 m ∧ p3 + 500 * m ≤ p' + 1001 ∧ L'.length ≤ 700 ∧ Hid (smP L') ∧ Rd wr rb p3 a len cap zs ∧ wr.ownsRow w.heap.size 35 2 v' L'.length (cellsP L') ∧ wr.ownsRow w.heap.size 3 1 u5 R.length (cellsI R) ∧ w.grownBy wr (some rb)) (fun _ k _ => (RowKit.intOf k).toNat)
      case atStart => exact ⟨n2, p' + 1, L, by omega, rfl, by omega, hL, HS, R2, O2, U2, G2⟩
      case round =>
        obtain ⟨m, p3, L', hm, rfl, hp3, hL', HS', RQ, OQ, UQ, GQ⟩ := hrel
        have hzq := GQ.size
        clear O2 U2 R2 G2
        by_cases hm1 : 0 < m
        · go_wp2_with (first
            | (go_at_call 50; refine (text_on _ rb 99 p3 a len cap zs RQ (by omega) (by omega) (by omega) (by omega)).mono ?_; rintro e w3 ⟨s, p4, rfl, hs, hp4, R3, g3⟩; have z3 := g3.size; have O3 := OQ.kept g3 (ownNot OQ hlt); have U3 := UQ.kept g3 (ownNot UQ hlt); have G3 := gtrans GQ g3; clear OQ UQ GQ g3 RQ)
            | (go_at_call 11; refine (polPut_spec _ L' s _ O3 (by omega) (shSizes HS'.out.sh) (by omega)).mono ?_; rintro e w4 ⟨⟨vx, rfl, ox⟩, hb⟩; have z4 := hb.size; have HSX := smP_put L' s HS'.out (by omega); have hXl := putR_len L' s hL'; obtain ⟨⟨X, n, c⟩, hX⟩ : ∃ X, putR L' s = X := ⟨_, rfl⟩; rw [hX] at ox HSX hXl; rw [hX]; have HX : Hid (smP X) := HSX; have R4 := rdBelF R3 hb (by omega); have O4 := ownsUnder O3 hb (Nat.le_refl _); have U4 := ownsUnder U3 hb (Nat.le_refl _); have G4 : w.grownBy w4 (some rb) := gtrans G3 (gBelow hb); have X4 := ownsUpF ox (show w.heap.size ≤ w3.heap.size by omega); clear hX HSX ox O3 U3 G3 R3 hb; rcases (show c = 1 ∨ (c == 1) = false by rcases Classical.em (c = 1) with h9 | h9; exact .inl h9; exact .inr (by simpa using h9)) with rfl | hcb))
          · go_roundw
            case rel => exact ⟨m - 1, p4, X, by omega, by go_num, by omega, hXl, HX, R4, X4, U4, G4⟩
            case measure => simp [RowKit.intOf]; omega
          · go_roundw
            case rel => exact ⟨m - 1, p4, L', by omega, by go_num, by omega, hL', HS', R4, O4, U4, G4⟩
            case measure => simp [RowKit.intOf]; omega
        · go_wp2
          go_ret2
          exact ⟨⟨_, _, L', R, rfl, hL', HS'.out, by omega, OQ, UQ⟩, GQ, p3, by omega, RQ⟩
end Go.Proofs.YthfffpdkmoclbaaGreatDoor.W
namespace Go.Proofs.YthfffpdkmoclbaaGreatDoor.W
open Go.RowKit Go.Proofs.YthfffpdkmoclbaaGreatDoor.M

/-- the first region that draws its order, under tests too -/
def firstDrawnP : Code → Option (Array Oper)
  | .region _ ops true => some ops
  | .seq a b => (firstDrawnP a).orElse fun _ => firstDrawnP b
  | .cond _ a b => (firstDrawnP a).orElse fun _ => firstDrawnP b
  | _ => none
/-- what each operation leaves -/
def TPG (rb g n cp : Nat) : Nat → Value → World → Prop
  | 0 => fun v _ => v = .slice (some ⟨g, 0, none⟩) n cp
  | 1 => fun v _ => v = .slice (some ⟨g, 0, none⟩) n cp
  | 2 => fun v _ => v = .pointer (some ⟨rb, 0, none⟩)
  | 3 => fun v _ => v = .slice (some ⟨g, 0, none⟩) n cp
  | 4 => fun v _ => v = .int .i64 n
  | 5 => fun v _ => ∃ k : Nat, k < n ∧ v = .int .i64 k
  | 6 => fun v _ => ∃ k : Nat, k < n ∧ v = .pointer (some ⟨g, k * 2, none⟩)
  | 7 => fun v _ => ∃ k : Nat, k < n ∧ v = .pointer (some ⟨g, k * 2, none⟩)
  | 8 => fun v _ => ∃ x : Int, v = .int .i64 x
  | 9 => fun v _ => v = .slice (some ⟨g, 0, none⟩) n cp
  | 10 => fun v _ => ∃ x : Int, v = .int .i64 x
  | _ => fun _ _ => True
def slotPG : Nat → Nat
  | 0 => 22
  | 1 => 23
  | 2 => 24
  | 3 => 25
  | 4 => 26
  | 5 => 27
  | 6 => 28
  | 7 => 29
  | 8 => 30
  | 9 => 2
  | 10 => 3
  | _ => 999
theorem keepPG (rb g n cp : Nat) (i : Nat) (v : Value) (w w' : World) (hi : i < 11) (h : TPG rb g n cp i v w) : TPG rb g n cp i v w' := by
  match i, hi with
  | 0, _ => exact h
  | 1, _ => exact h
  | 2, _ => exact h
  | 3, _ => exact h
  | 4, _ => exact h
  | 5, _ => exact h
  | 6, _ => exact h
  | 7, _ => exact h
  | 8, _ => exact h
  | 9, _ => exact h
  | 10, _ => exact h
  | n + 11, hk => exact absurd hk (by omega)
set_option maxRecDepth 100000 in
set_option maxHeartbeats 4000000 in
theorem frontPG {rid : Nat} {ops : Array Oper} (hops : Tryz.f59.body.bind firstDrawnP = some ops) {Q : Exit → Act → World → Prop} {a : Act} {w : World} {rb g n cp p : Nat} {ad : Option Addr} {len cap : Nat} {zs : Nat → Int}
    (hsz : a.tmps.size = 34) (hdf : a.defers = []) (hf4 : a.tmps[4]?.getD undef = .pointer (some ⟨rb, 0, none⟩)) (hf5 : a.tmps[5]?.getD undef = .slice (some ⟨g, 0, none⟩) n cp) (hRd : Rd w rb p ad len cap zs) (hp : p ≤ 500000) (hlt : rb < w.heap.size) (hn : 1 ≤ n) (hn2 : n ≤ 100000) (hgr : rb ≠ g) (hgs : g < w.heap.size) (hc : ∀ k, k < n → ∃ x : Int, w.cell? ⟨g, k * 2, none⟩ = some (.int .i64 x))
    (hend : ∀ (y : Nat → Value) (w2 : World) (q : Nat), q ≤ p + 110 → Rd w2 rb q ad len cap zs → w.grownBy w2 (some rb) → (∀ i, i < 11 → TPG rb g n cp i (y (slotPG i)) w2) →
      Q .normal ⟨#[y 0, y 1, y 2, y 3, y 4, y 5, y 6, y 7, y 8, y 9, y 10, y 11, y 12, y 13, y 14, y 15, y 16, y 17, y 18, y 19, y 20, y 21, y 22, y 23, y 24, y 25, y 26, y 27, y 28, y 29, y 30, y 31, y 32, y 33], []⟩ w2) : (Code.region rid ops true).wp Tryz.prog Q a w := by
  simp only [Tryz.f59, Option.bind, firstDrawnP, Option.orElse] at hops
  obtain rfl := Option.some.inj hops
  clear hops
  refine region_slots (p := p) 10 34 slotPG [4, 5] (TPG rb g n cp) (by kernel_rfl) ?_ hsz hdf hRd (fun i v w1 w2 hi h hg => keepPG rb g n cp i v w1 w2 hi h) ?_ ?_ ?_ ?_
  · clear hend
    intro i o ho e he hb
    match i with
    | 0 => obtain rfl := Option.some.inj ho; revert hb; revert e; decide
    | 1 => obtain rfl := Option.some.inj ho; revert hb; revert e; decide
    | 2 => obtain rfl := Option.some.inj ho; revert hb; revert e; decide
    | 3 => obtain rfl := Option.some.inj ho; revert hb; revert e; decide
    | 4 => obtain rfl := Option.some.inj ho; revert hb; revert e; decide
    | 5 => obtain rfl := Option.some.inj ho; revert hb; revert e; decide
    | 6 => obtain rfl := Option.some.inj ho; revert hb; revert e; decide
    | 7 => obtain rfl := Option.some.inj ho; revert hb; revert e; decide
    | 8 => obtain rfl := Option.some.inj ho; revert hb; revert e; decide
    | 9 => obtain rfl := Option.some.inj ho; revert hb; revert e; decide
    | 10 => obtain rfl := Option.some.inj ho; revert hb; revert e; decide
    | i + 11 => cases ho
  · show ∀ i, i < 11 → ∀ j, j < 11 → slotPG i = slotPG j → i = j
    decide
  · show ∀ i, i < 11 → slotPG i < 34 ∧ ∀ s ∈ [4, 5], slotPG i ≠ s
    decide
  · clear hend
    intro i o ho a1 w1 q hF hA hq hR1 hg1
    have hq' : q + 10 ≤ p + 10 * 11 := hq
    clear hq
    have hz1 := hg1.size
    have hl1 : rb < w1.heap.size := by omega
    have f4 := (hF 4 (by simp)).trans hf4
    have f5 := (hF 5 (by simp)).trans hf5
    clear hF
    match i with
    | 0 =>
      obtain rfl := Option.some.inj ho
      refine wpOp_do rfl rfl ?_
      clear hA ho
      unfold Oper.wp
      simp [go_sem, f5]
      exact ⟨_, q, rfl, rfl, ⟨rfl, rfl, rfl, Nat.le_refl _, fun _ _ _ => rfl⟩, by omega, hR1⟩
    | 1 =>
      obtain rfl := Option.some.inj ho
      refine wpOp_do rfl rfl ?_
      clear hA ho
      unfold Oper.wp
      simp [go_sem, f5]
      exact ⟨_, q, rfl, rfl, ⟨rfl, rfl, rfl, Nat.le_refl _, fun _ _ _ => rfl⟩, by omega, hR1⟩
    | 2 =>
      obtain rfl := Option.some.inj ho
      refine wpOp_do rfl rfl ?_
      clear hA ho
      unfold Oper.wp
      simp [go_sem, f4]
      exact ⟨_, q, rfl, rfl, ⟨rfl, rfl, rfl, Nat.le_refl _, fun _ _ _ => rfl⟩, by omega, hR1⟩
    | 3 =>
      obtain rfl := Option.some.inj ho
      refine wpOp_do rfl rfl ?_
      clear hA ho
      unfold Oper.wp
      simp [go_sem, f5]
      exact ⟨_, q, rfl, rfl, ⟨rfl, rfl, rfl, Nat.le_refl _, fun _ _ _ => rfl⟩, by omega, hR1⟩
    | 4 =>
      obtain rfl := Option.some.inj ho
      refine wpOp_do rfl rfl ?_
      have p3 := hA { on := 3, ground := .data } (by simp) rfl; simp only [TPG, slotPG] at p3
      clear hA ho
      unfold Oper.wp
      simp [go_sem, p3]
      exact ⟨_, q, rfl, rfl, ⟨rfl, rfl, rfl, Nat.le_refl _, fun _ _ _ => rfl⟩, by omega, hR1⟩
    | 5 =>
      obtain rfl := Option.some.inj ho
      refine wpOp_do rfl rfl ?_
      have p2 := hA { on := 2, ground := .data } (by simp) rfl; simp only [TPG, slotPG] at p2
      have p4 := hA { on := 4, ground := .data } (by simp) rfl; simp only [TPG, slotPG] at p4
      clear hA ho
      unfold Oper.wp
      simp [go_sem, p2, p4]
      refine (pick_any w1 rb q ad len cap n zs hR1 (by omega) (by omega) (by omega)).mono ?_
      rintro e w2 ⟨v, hv, rfl, hR2, hg2⟩
      exact ⟨.int .i64 v, q + 1, rfl, ⟨v, hv, rfl⟩, hg2, by omega, hR2⟩
    | 6 =>
      obtain rfl := Option.some.inj ho
      refine wpOp_do rfl rfl ?_
      have p1 := hA { on := 1, ground := .data } (by simp) rfl; simp only [TPG, slotPG] at p1
      have p5 := hA { on := 5, ground := .data } (by simp) rfl; simp only [TPG, slotPG] at p5
      clear hA ho
      unfold Oper.wp
      obtain ⟨k, hk, e5⟩ := p5
      have hk2 : ((k : Nat) : Int) < n := by omega
      have hk3 : (0 : Int) ≤ k := by omega
      simp [go_sem, p1, e5, hk2]
      exact ⟨_, q, rfl, ⟨k, hk, rfl⟩, ⟨rfl, rfl, rfl, Nat.le_refl _, fun _ _ _ => rfl⟩, by omega, hR1⟩
    | 7 =>
      obtain rfl := Option.some.inj ho
      refine wpOp_do rfl rfl ?_
      have p6 := hA { on := 6, ground := .data } (by simp) rfl; simp only [TPG, slotPG] at p6
      clear hA ho
      unfold Oper.wp
      obtain ⟨k, hk, e6⟩ := p6
      simp [go_sem, e6]
      exact ⟨_, q, rfl, ⟨k, hk, rfl⟩, ⟨rfl, rfl, rfl, Nat.le_refl _, fun _ _ _ => rfl⟩, by omega, hR1⟩
    | 8 =>
      obtain rfl := Option.some.inj ho
      refine wpOp_do rfl rfl ?_
      have p7 := hA { on := 7, ground := .data } (by simp) rfl; simp only [TPG, slotPG] at p7
      clear hA ho
      unfold Oper.wp
      obtain ⟨k, hk, e7⟩ := p7
      obtain ⟨x, hx⟩ := hc k hk
      have hx1 := cellKept hg1 hx hgs (fun e => hgr (Option.some.inj e).symm)
      simp [go_sem, e7, hx1]
      exact ⟨_, q, rfl, ⟨x, rfl⟩, ⟨rfl, rfl, rfl, Nat.le_refl _, fun _ _ _ => rfl⟩, by omega, hR1⟩
    | 9 =>
      obtain rfl := Option.some.inj ho
      refine wpOp_do rfl rfl ?_
      have p0 := hA { on := 0, ground := .data } (by simp) rfl; simp only [TPG, slotPG] at p0
      clear hA ho
      unfold Oper.wp
      simp [go_sem, p0]
      exact ⟨_, q, rfl, rfl, ⟨rfl, rfl, rfl, Nat.le_refl _, fun _ _ _ => rfl⟩, by omega, hR1⟩
    | 10 =>
      obtain rfl := Option.some.inj ho
      refine wpOp_do rfl rfl ?_
      have p8 := hA { on := 8, ground := .data } (by simp) rfl; simp only [TPG, slotPG] at p8
      clear hA ho
      unfold Oper.wp
      simp [go_sem]
      exact ⟨_, q, rfl, p8, ⟨rfl, rfl, rfl, Nat.le_refl _, fun _ _ _ => rfl⟩, by omega, hR1⟩
    | i + 11 => cases ho
  · intro y w2 q hq hR2 hg2 hall _
    exact hend y w2 q hq hR2 hg2 hall
/-- what each operation leaves -/
def TPP (rb g n cp : Nat) : Nat → Value → World → Prop
  | 0 => fun v _ => v = .slice (some ⟨g, 0, none⟩) n cp
  | 1 => fun v _ => v = .slice (some ⟨g, 0, none⟩) n cp
  | 2 => fun v _ => v = .pointer (some ⟨rb, 0, none⟩)
  | 3 => fun v _ => v = .slice (some ⟨g, 0, none⟩) n cp
  | 4 => fun v _ => v = .int .i64 n
  | 5 => fun v _ => ∃ k : Nat, k < n ∧ v = .int .i64 k
  | 6 => fun v _ => ∃ k : Nat, k < n ∧ v = .pointer (some ⟨g, k * 2, none⟩)
  | 7 => fun v _ => ∃ k : Nat, k < n ∧ v = .pointer (some ⟨g, k * 2 + 1, none⟩)
  | 8 => fun v _ => ∃ t : ByteArray, v = .string t ∧ t.size ≤ 1000
  | 9 => fun v _ => v = .slice (some ⟨g, 0, none⟩) n cp
  | 10 => fun v _ => ∃ t : ByteArray, v = .string t ∧ t.size ≤ 1000
  | _ => fun _ _ => True
def slotPP : Nat → Nat
  | 0 => 22
  | 1 => 23
  | 2 => 24
  | 3 => 25
  | 4 => 26
  | 5 => 27
  | 6 => 28
  | 7 => 29
  | 8 => 30
  | 9 => 2
  | 10 => 3
  | _ => 999
theorem keepPP (rb g n cp : Nat) (i : Nat) (v : Value) (w w' : World) (hi : i < 11) (h : TPP rb g n cp i v w) : TPP rb g n cp i v w' := by
  match i, hi with
  | 0, _ => exact h
  | 1, _ => exact h
  | 2, _ => exact h
  | 3, _ => exact h
  | 4, _ => exact h
  | 5, _ => exact h
  | 6, _ => exact h
  | 7, _ => exact h
  | 8, _ => exact h
  | 9, _ => exact h
  | 10, _ => exact h
  | n + 11, hk => exact absurd hk (by omega)
set_option maxRecDepth 100000 in
set_option maxHeartbeats 4000000 in
theorem frontPP {rid : Nat} {ops : Array Oper} (hops : Tryz.f9.body.bind firstDrawnP = some ops) {Q : Exit → Act → World → Prop} {a : Act} {w : World} {rb g n cp p : Nat} {ad : Option Addr} {len cap : Nat} {zs : Nat → Int}
    (hsz : a.tmps.size = 34) (hdf : a.defers = []) (hf4 : a.tmps[4]?.getD undef = .pointer (some ⟨rb, 0, none⟩)) (hf5 : a.tmps[5]?.getD undef = .slice (some ⟨g, 0, none⟩) n cp) (hRd : Rd w rb p ad len cap zs) (hp : p ≤ 500000) (hlt : rb < w.heap.size) (hn : 1 ≤ n) (hn2 : n ≤ 100000) (hgr : rb ≠ g) (hgs : g < w.heap.size) (hc : ∀ k, k < n → ∃ t : ByteArray, w.cell? ⟨g, k * 2 + 1, none⟩ = some (.string t) ∧ t.size ≤ 1000)
    (hend : ∀ (y : Nat → Value) (w2 : World) (q : Nat), q ≤ p + 110 → Rd w2 rb q ad len cap zs → w.grownBy w2 (some rb) → (∀ i, i < 11 → TPP rb g n cp i (y (slotPP i)) w2) →
      Q .normal ⟨#[y 0, y 1, y 2, y 3, y 4, y 5, y 6, y 7, y 8, y 9, y 10, y 11, y 12, y 13, y 14, y 15, y 16, y 17, y 18, y 19, y 20, y 21, y 22, y 23, y 24, y 25, y 26, y 27, y 28, y 29, y 30, y 31, y 32, y 33], []⟩ w2) : (Code.region rid ops true).wp Tryz.prog Q a w := by
  simp only [Tryz.f9, Option.bind, firstDrawnP, Option.orElse] at hops
  obtain rfl := Option.some.inj hops
  clear hops
  refine region_slots (p := p) 10 34 slotPP [4, 5] (TPP rb g n cp) (by kernel_rfl) ?_ hsz hdf hRd (fun i v w1 w2 hi h hg => keepPP rb g n cp i v w1 w2 hi h) ?_ ?_ ?_ ?_
  · clear hend
    intro i o ho e he hb
    match i with
    | 0 => obtain rfl := Option.some.inj ho; revert hb; revert e; decide
    | 1 => obtain rfl := Option.some.inj ho; revert hb; revert e; decide
    | 2 => obtain rfl := Option.some.inj ho; revert hb; revert e; decide
    | 3 => obtain rfl := Option.some.inj ho; revert hb; revert e; decide
    | 4 => obtain rfl := Option.some.inj ho; revert hb; revert e; decide
    | 5 => obtain rfl := Option.some.inj ho; revert hb; revert e; decide
    | 6 => obtain rfl := Option.some.inj ho; revert hb; revert e; decide
    | 7 => obtain rfl := Option.some.inj ho; revert hb; revert e; decide
    | 8 => obtain rfl := Option.some.inj ho; revert hb; revert e; decide
    | 9 => obtain rfl := Option.some.inj ho; revert hb; revert e; decide
    | 10 => obtain rfl := Option.some.inj ho; revert hb; revert e; decide
    | i + 11 => cases ho
  · show ∀ i, i < 11 → ∀ j, j < 11 → slotPP i = slotPP j → i = j
    decide
  · show ∀ i, i < 11 → slotPP i < 34 ∧ ∀ s ∈ [4, 5], slotPP i ≠ s
    decide
  · clear hend
    intro i o ho a1 w1 q hF hA hq hR1 hg1
    have hq' : q + 10 ≤ p + 10 * 11 := hq
    clear hq
    have hz1 := hg1.size
    have hl1 : rb < w1.heap.size := by omega
    have f4 := (hF 4 (by simp)).trans hf4
    have f5 := (hF 5 (by simp)).trans hf5
    clear hF
    match i with
    | 0 =>
      obtain rfl := Option.some.inj ho
      refine wpOp_do rfl rfl ?_
      clear hA ho
      unfold Oper.wp
      simp [go_sem, f5]
      exact ⟨_, q, rfl, rfl, ⟨rfl, rfl, rfl, Nat.le_refl _, fun _ _ _ => rfl⟩, by omega, hR1⟩
    | 1 =>
      obtain rfl := Option.some.inj ho
      refine wpOp_do rfl rfl ?_
      clear hA ho
      unfold Oper.wp
      simp [go_sem, f5]
      exact ⟨_, q, rfl, rfl, ⟨rfl, rfl, rfl, Nat.le_refl _, fun _ _ _ => rfl⟩, by omega, hR1⟩
    | 2 =>
      obtain rfl := Option.some.inj ho
      refine wpOp_do rfl rfl ?_
      clear hA ho
      unfold Oper.wp
      simp [go_sem, f4]
      exact ⟨_, q, rfl, rfl, ⟨rfl, rfl, rfl, Nat.le_refl _, fun _ _ _ => rfl⟩, by omega, hR1⟩
    | 3 =>
      obtain rfl := Option.some.inj ho
      refine wpOp_do rfl rfl ?_
      clear hA ho
      unfold Oper.wp
      simp [go_sem, f5]
      exact ⟨_, q, rfl, rfl, ⟨rfl, rfl, rfl, Nat.le_refl _, fun _ _ _ => rfl⟩, by omega, hR1⟩
    | 4 =>
      obtain rfl := Option.some.inj ho
      refine wpOp_do rfl rfl ?_
      have p3 := hA { on := 3, ground := .data } (by simp) rfl; simp only [TPP, slotPP] at p3
      clear hA ho
      unfold Oper.wp
      simp [go_sem, p3]
      exact ⟨_, q, rfl, rfl, ⟨rfl, rfl, rfl, Nat.le_refl _, fun _ _ _ => rfl⟩, by omega, hR1⟩
    | 5 =>
      obtain rfl := Option.some.inj ho
      refine wpOp_do rfl rfl ?_
      have p2 := hA { on := 2, ground := .data } (by simp) rfl; simp only [TPP, slotPP] at p2
      have p4 := hA { on := 4, ground := .data } (by simp) rfl; simp only [TPP, slotPP] at p4
      clear hA ho
      unfold Oper.wp
      simp [go_sem, p2, p4]
      refine (pick_any w1 rb q ad len cap n zs hR1 (by omega) (by omega) (by omega)).mono ?_
      rintro e w2 ⟨v, hv, rfl, hR2, hg2⟩
      exact ⟨.int .i64 v, q + 1, rfl, ⟨v, hv, rfl⟩, hg2, by omega, hR2⟩
    | 6 =>
      obtain rfl := Option.some.inj ho
      refine wpOp_do rfl rfl ?_
      have p1 := hA { on := 1, ground := .data } (by simp) rfl; simp only [TPP, slotPP] at p1
      have p5 := hA { on := 5, ground := .data } (by simp) rfl; simp only [TPP, slotPP] at p5
      clear hA ho
      unfold Oper.wp
      obtain ⟨k, hk, e5⟩ := p5
      have hk2 : ((k : Nat) : Int) < n := by omega
      have hk3 : (0 : Int) ≤ k := by omega
      simp [go_sem, p1, e5, hk2]
      exact ⟨_, q, rfl, ⟨k, hk, rfl⟩, ⟨rfl, rfl, rfl, Nat.le_refl _, fun _ _ _ => rfl⟩, by omega, hR1⟩
    | 7 =>
      obtain rfl := Option.some.inj ho
      refine wpOp_do rfl rfl ?_
      have p6 := hA { on := 6, ground := .data } (by simp) rfl; simp only [TPP, slotPP] at p6
      clear hA ho
      unfold Oper.wp
      obtain ⟨k, hk, e6⟩ := p6
      simp [go_sem, e6]
      exact ⟨_, q, rfl, ⟨k, hk, rfl⟩, ⟨rfl, rfl, rfl, Nat.le_refl _, fun _ _ _ => rfl⟩, by omega, hR1⟩
    | 8 =>
      obtain rfl := Option.some.inj ho
      refine wpOp_do rfl rfl ?_
      have p7 := hA { on := 7, ground := .data } (by simp) rfl; simp only [TPP, slotPP] at p7
      clear hA ho
      unfold Oper.wp
      obtain ⟨k, hk, e7⟩ := p7
      obtain ⟨x, hx, hxs⟩ := hc k hk
      have hx1 := cellKept hg1 hx hgs (fun e => hgr (Option.some.inj e).symm)
      simp [go_sem, e7, hx1]
      exact ⟨_, q, rfl, ⟨x, rfl, hxs⟩, ⟨rfl, rfl, rfl, Nat.le_refl _, fun _ _ _ => rfl⟩, by omega, hR1⟩
    | 9 =>
      obtain rfl := Option.some.inj ho
      refine wpOp_do rfl rfl ?_
      have p0 := hA { on := 0, ground := .data } (by simp) rfl; simp only [TPP, slotPP] at p0
      clear hA ho
      unfold Oper.wp
      simp [go_sem, p0]
      exact ⟨_, q, rfl, rfl, ⟨rfl, rfl, rfl, Nat.le_refl _, fun _ _ _ => rfl⟩, by omega, hR1⟩
    | 10 =>
      obtain rfl := Option.some.inj ho
      refine wpOp_do rfl rfl ?_
      have p8 := hA { on := 8, ground := .data } (by simp) rfl; simp only [TPP, slotPP] at p8
      clear hA ho
      unfold Oper.wp
      simp [go_sem]
      exact ⟨_, q, rfl, p8, ⟨rfl, rfl, rfl, Nat.le_refl _, fun _ _ _ => rfl⟩, by omega, hR1⟩
    | i + 11 => cases ho
  · intro y w2 q hq hR2 hg2 hall _
    exact hend y w2 q hq hR2 hg2 hall
end Go.Proofs.YthfffpdkmoclbaaGreatDoor.W
namespace Go.Proofs.YthfffpdkmoclbaaGreatDoor.W
open Go.RowKit Go.Proofs.YthfffpdkmoclbaaGreatDoor.M
set_option linter.unusedVariables false

theorem cellsP_set0 : ∀ (L : List PI) (k : Nat) (h : k < L.length) (n : Int), (cellsP L).set (k * 2) (.int .i64 n) = cellsP (L.set k ⟨n, (L[k]).tx⟩)
  | x :: l, 0, _, n => by simp [cellsP]
  | x :: l, k + 1, h, n => by
    have e : ∀ (z : PI) (m : List PI), cellsP (z :: m) = .int .i64 z.id :: .string z.tx :: cellsP m := fun z m => by simp [cellsP]
    rw [List.set_cons_succ, e, e, show (k + 1) * 2 = k * 2 + 1 + 1 by omega]
    simp only [List.set_cons_succ, List.getElem_cons_succ]
    rw [cellsP_set0 l k (by simpa using h) n]
theorem cellsP_set1 : ∀ (L : List PI) (k : Nat) (h : k < L.length) (t : ByteArray), (cellsP L).set (k * 2 + 1) (.string t) = cellsP (L.set k ⟨(L[k]).id, t⟩)
  | x :: l, 0, _, t => by simp [cellsP]
  | x :: l, k + 1, h, t => by
    have e : ∀ (z : PI) (m : List PI), cellsP (z :: m) = .int .i64 z.id :: .string z.tx :: cellsP m := fun z m => by simp [cellsP]
    rw [List.set_cons_succ, e, e, show (k + 1) * 2 + 1 = k * 2 + 1 + 1 + 1 by omega]
    simp only [List.set_cons_succ, List.getElem_cons_succ]
    rw [cellsP_set1 l k (by simpa using h) t]
theorem shP_set {L : List PI} (h : shP L) (k : Nat) (x : PI) (hx : x.tx.size ≤ 1000) : shP (L.set k x) := fun y hy => by
  rcases List.mem_or_eq_of_mem_set hy with hy | rfl
  · exact h y hy
  · exact hx
theorem shP_snoc {L : List PI} (h : shP L) (x : PI) (hx : x.tx.size ≤ 1000) : shP (L ++ [x]) := fun y hy => by
  rcases List.mem_append.1 hy with hy | hy
  · exact h y hy
  · obtain rfl := List.mem_singleton.1 hy
    exact hx
theorem shP_out {L : List PI} (h : shP L) (n : Int) : shP (outP L n) := fun y hy => h y (List.mem_filter.1 hy).1
theorem outP_le (L : List PI) (n : Int) : (outP L n).length ≤ L.length := List.length_filter_le _ _
/-- what the draw of a pool that may be bent leaves -/
def DrewQ (k : Nat) (w : World) (rb p : Nat) (a : Option Addr) (len cap : Nat) (zs : Nat → Int) (e : Ending) (w' : World) : Prop :=
  (∃ (v u : Value) (L : List PI) (R : List Int), e = .returned (.tuple #[v, u]) ∧ L.length ≤ 701 ∧ shP L ∧ R.length ≤ 3 ∧ w'.ownsRow w.heap.size 35 2 v L.length (cellsP L) ∧ w'.ownsRow w.heap.size 3 1 u R.length (cellsI R)) ∧ w.grownBy w' (some rb) ∧ ∃ p', p' ≤ p + k ∧ Rd w' rb p' a len cap zs
theorem rowSplit {w : World} {base : Nat} {e : TypeId} {v : Value} {L : List PI} (h : w.ownsRow base e 2 v L.length (cellsP L)) :
    ((((L.length : Nat) : Int) == 0) = true ∧ L.length = 0 ∧ ∃ A cv, v = .slice A L.length cv) ∨ ((((L.length : Nat) : Int) == 0) = false ∧ 0 < L.length ∧ ∃ g cv, v = .slice (some ⟨g, 0, none⟩) L.length cv ∧ base ≤ g) := by
  rcases Nat.eq_zero_or_pos L.length with h0 | h0
  · obtain ⟨A, cv, e9, _⟩ := rdP_of_own h
    exact .inl ⟨by simp [h0], h0, A, cv, e9⟩
  · obtain ⟨g, cv, e9, hg⟩ := formPos h h0
    have h1 : ¬ ((L.length : Nat) : Int) = 0 := by omega
    exact .inr ⟨by simpa using h1, h0, g, cv, e9, hg⟩
set_option maxHeartbeats 8000000 in
set_option maxRecDepth 100000 in
theorem anyPool_any (w : World) (rb p n : Nat) (a : Option Addr) (len cap : Nat) (zs : Nat → Int) (h : Rd w rb p a len cap zs) (hp : p ≤ 400) (hlt : rb < w.heap.size) (hn : 1 ≤ n) (hn2 : n ≤ 1000) :
    Calls Tryz.prog 48 #[.pointer (some ⟨rb, 0, none⟩), .int .i64 n] w (DrewQ 1800 w rb p a len cap zs) := by
  obtain ⟨i0, hi, hz0, hz1, hz2⟩ := info_parts infoP
  have t1 : True := trivial
  go_enter Tryz.func48, Tryz.ntmps48
  go_wp2_with (first
    | (go_at_call 78; refine (pool_any _ rb p a len cap zs h hp hlt).mono ?_; rintro e w1 ⟨⟨v, u, L, R, rfl, hL, hS, hR, O1, U1⟩, G1, p1, hp1, R1⟩; have z1 := G1.size; have HS : Hid (smP L) := hS; clear hS; rcases rowSplit O1 with ⟨hb0, h0, A, cv, rfl⟩ | ⟨hb0, h0, g, cv, rfl, hg⟩)
    | (go_at_call 49; have _t := t1; refine (pick_any _ rb p1 a len cap n zs R1 (by omega) (by omega) (by omega)).mono ?_; rintro e w2 ⟨k0, hk0, rfl, R2, g2⟩; have z2 := g2.size; have O2 := O1.kept g2 (ownNot O1 hlt); have U2 := U1.kept g2 (ownNot U1 hlt); have G2 := gtrans G1 g2; clear O1 U1 R1 G1 g2 _t t1; rcases Nat.eq_zero_or_pos k0 with rfl | hk1)
    | (go_at_call 49; refine (pick_any _ rb (p1 + 1) a len cap L.length zs R2 (by omega) (by omega) (by omega)).mono ?_; rintro e w3 ⟨k, hk, rfl, R3, g3⟩; have z3 := g3.size; have O3 := O2.kept g3 (ownNot O2 hlt); have U3 := U2.kept g3 (ownNot U2 hlt); have G3 := gtrans G2 g3; clear O2 U2 R2 G2 g3)
    | (go_at_call 49; refine (pick_any _ rb (p1 + 1 + 1) a len cap 4 zs R3 (by omega) (by omega) (by omega)).mono ?_; rintro e w4 ⟨c, hc, rfl, R4, g4⟩; have z4 := g4.size; have O4 := O3.kept g4 (ownNot O3 hlt); have U4 := U3.kept g4 (ownNot U3 hlt); have G4 := gtrans G3 g4; clear O3 U3 R3 G3 g4; obtain ⟨⟨i, t⟩, hx⟩ : ∃ x, L[k] = x := ⟨_, rfl⟩; have HX : Hid (L[k] = ⟨i, t⟩) := hx; have hxs := HS.out _ (List.getElem_mem hk); rw [hx] at hxs; have d1 := (O4.cellAt (k * 2) (by omega)).trans (cellsP_get L k hk).1; have d2 := (O4.cellAt (k * 2 + 1) (by omega)).trans (cellsP_get L k hk).2; rw [hx] at d1 d2; clear hx; have hf0 := O4.frozenAt (k * 2); have HO4 : Hid (w4.ownsRow w.heap.size 35 2 (.slice (some ⟨g, 0, none⟩) L.length cv) L.length (cellsP L)) := O4; clear O4; rcases (show c = 0 ∨ c = 1 ∨ c = 2 ∨ c = 3 by omega) with rfl | rfl | rfl | rfl)
    | (go_at_call 50; refine (text_on _ rb 2 (p1 + 1 + 1 + 1) a len cap zs R4 (by omega) (by omega) (by omega) (by omega)).mono ?_; rintro e w5 ⟨s, p5, rfl, hs, hp5, R5, g5⟩; have z5 := g5.size; have O5 := HO4.out.kept g5 (ownNot HO4.out hlt); have U5 := U4.kept g5 (ownNot U4 hlt); have G5 := gtrans G4 g5; have hf5 := O5.frozenAt (k * 2 + 1); obtain ⟨u5, hu5⟩ := ownsCell O5 (k * 2 + 1) (by omega); have HO5 : Hid (w5.ownsRow w.heap.size 35 2 (.slice (some ⟨g, 0, none⟩) L.length cv) L.length (cellsP L)) := O5; clear O5 R4 G4 g5)
    | (at_builtin; refine wpList_append_own _ rfl _ _ 23 rfl w.heap.size 35 i0 (.agg #[.int .i64 0, .string ByteArray.empty]) 2 24 Tryz.underlying23 hi hz0 hz1 hz2 rfl (by decide) _ _ _ rfl (HO4.out.alloc _) ⟨w4.heap.size, 0, none⟩ 1 1 [.int .i64 i, .string t] rfl rfl (cells_new w4 #[.int .i64 i, .string t] 35) (by simp [Value.oneCell']) (by unfold maxLen; omega) (by omega) (by simp; omega) ?_; intro v6 w6 O6 g6 _; have X1 := HO4.out.alloc (.cells #[.int .i64 i, .string t] 35); have X4 := U4.alloc (.cells #[.int .i64 i, .string t] 35); have U6 := X4.kept g6 (rowsApart2 X4 X1 (by decide)); have G6 := grOwn (gtrans G4 (galloc w4 (.cells #[.int .i64 i, .string t] 35))) X1 (Nat.le_refl _) g6; have R6 := rdOwn (R4.alloc (by omega) _) X1 hlt (by simp; omega) g6)
    | (go_at_call 21; refine (polOutS_own _ L i w4 HO4.out (by omega)).mono ?_; rintro e w7 ⟨⟨v7, rfl, o7⟩, hb7⟩; have z7 := hb7.size; have R7 := rdBelF R4 hb7 (by omega); have U7 := ownsUnder U4 hb7 (Nat.le_refl _); have G7 := gtrans G4 (gBelow (r := some rb) hb7)))
  · obtain rfl := List.eq_nil_of_length_eq_zero h0
    go_ret2
    exact ⟨⟨_, _, [], R, rfl, by simp, HS.out.sh, hR, O1, U1⟩, G1, p1, by omega, R1⟩
  · go_ret2
    have O5 := (HO4.out.stored (k * 2) (.int .i64 (i + 1))).1
    rw [cellsP_set0 L k hk] at O5
    exact ⟨⟨_, _, L.set k ⟨i + 1, (L[k]).tx⟩, R, rfl, by simp; omega, shP_set HS.out.sh _ _ (HS.out _ (List.getElem_mem hk)).1, hR, by rw [List.length_set]; exact O5, U4.kept (grSet w4 g _ _) (rowsApart U4 HO4.out (by decide))⟩, grOwn G4 HO4.out (Nat.le_refl _) (grSet w4 g _ _), p1 + 1 + 1 + 1, by omega, rdOwn R4 HO4.out hlt (by omega) (grSet w4 g _ _)⟩
  · go_ret2
    have O6 := (HO5.out.stored (k * 2 + 1) (.string s)).1
    rw [cellsP_set1 L k hk] at O6
    exact ⟨⟨_, _, L.set k ⟨(L[k]).id, s⟩, R, rfl, by simp; omega, shP_set HS.out.sh _ _ (show s.size ≤ 1000 by omega), hR, by rw [List.length_set]; exact O6, U5.kept (grSet w5 g _ _) (rowsApart U5 HO5.out (by decide))⟩, grOwn G5 HO5.out (Nat.le_refl _) (grSet w5 g _ _), p5, by omega, rdOwn R5 HO5.out hlt (by omega) (grSet w5 g _ _)⟩
  · go_ret2
    exact ⟨⟨_, _, L ++ [⟨i, t⟩], R, rfl, by simp; omega, shP_snoc HS.out.sh _ hxs.1, hR, by rw [cellsP_snoc, List.length_append]; exact O6, U6⟩, G6, p1 + 1 + 1 + 1, by omega, R6⟩
  · go_ret2
    exact ⟨⟨_, _, outP L i, R, rfl, Nat.le_trans (outP_le L i) (by omega), shP_out HS.out.sh i, hR, ownsUpF o7 (by omega), U7⟩, G7, p1 + 1 + 1 + 1, by omega, R7⟩
  · go_ret2
    exact ⟨⟨_, _, L, R, rfl, by omega, HS.out.sh, hR, O2, U2⟩, G2, p1 + 1, by omega, R2⟩
set_option maxHeartbeats 8000000 in
set_option maxRecDepth 100000 in
theorem drawPolGet_any (w : World) (a : Option Addr) (len cap : Nat) (zs : Nat → Int) (h : Src w a len cap zs) :
    Calls Tryz.prog 59 #[.slice a len cap] w fun e w' => (∃ (v : Value) (L : List PI) (id : Int), e = .returned (.tuple #[v, .int .i64 id]) ∧ L.length ≤ 701 ∧ shP L ∧ w'.ownsRow w.heap.size 35 2 v L.length (cellsP L)) ∧ Below w.heap.size w w' := by
  have ta : True := trivial
  go_enter Tryz.func59, Tryz.ntmps59
  go_wp2_with (first
    | (go_at_call 47; refine (open_any _ a len cap zs h).mono ?_; rintro e w1 ⟨a', len', cap', rfl, hR1, hl1, hg1⟩)
    | (go_at_call 48; refine (anyPool_any w1 w.heap.size 0 9 a' len' cap' zs hR1 (by omega) hl1 (by omega) (by omega)).mono ?_; rintro e w2 ⟨⟨v, u, L, R, rfl, hL, hS, hR, O2, U2⟩, G2, p2, hp2, R2⟩; have z2 := G2.size; have HS : Hid (shP L) := hS; clear hS; rcases rowSplit O2 with ⟨hb0, h0, A, cv, rfl⟩ | ⟨hb0, h0, g, cv, rfl, hg⟩)
    | (go_at_call 49; have _t := ta; refine (pick_any _ w.heap.size p2 a' len' cap' 3 zs R2 (by omega) (by omega) (by omega)).mono ?_; rintro e w3 ⟨k0, hk0, rfl, R3, g3⟩; have z3 := g3.size; have O3 := O2.kept g3 (ownNot O2 (by omega)); have G3 := gtrans G2 g3; have tb : True := trivial; clear O2 R2 G2 g3 _t ta; rcases Nat.eq_zero_or_pos k0 with rfl | hk1)
    | (go_at_call 60; have _t := tb; refine (id_any w3 w.heap.size (p2 + 1) a' len' cap' zs R3 (by omega) (by omega)).mono ?_; rintro e w5 ⟨id, rfl, _, _, g5⟩; have z5 := g5.size; have O5 := O3.kept g5 (ownNot O3 (by omega)); have G5 := gtrans G3 g5)
    | (go_at_call 60; refine (id_any w2 w.heap.size p2 a' len' cap' zs R2 (by omega) (by omega)).mono ?_; rintro e w5 ⟨id, rfl, _, _, g5⟩; have z5 := g5.size; have O5 := O2.kept g5 (ownNot O2 (by omega)); have G5 := gtrans G2 g5))
  · obtain rfl := List.eq_nil_of_length_eq_zero h0
    go_ret2
    exact ⟨⟨_, [], id, rfl, by simp, HS.out, ownsUpF O5 (by omega)⟩, belowBy hg1 G5⟩
  · go_ret2
    exact ⟨⟨_, L, id, rfl, hL, HS.out, ownsUpF O5 (by omega)⟩, belowBy hg1 G5⟩
  · rename_i K hK
    refine frontPG (p := p2 + 1) (by kernel_rfl) rfl rfl rfl rfl R3 (by omega) (by omega) h0 (by omega) (by omega) (O3.lt g rfl).2 (fun k hk => ⟨_, (O3.cellAt (k * 2) (by omega)).trans (cellsP_get L k hk).1⟩) ?_
    intro y w4 q hq hR4 hg4 hall
    have hv := hall 9 (by omega)
    obtain ⟨id, e3⟩ := hall 10 (by omega)
    simp only [slotPG] at hv e3
    have O4 := O3.kept hg4 (ownNot O3 (by omega))
    have z4 := hg4.size
    have G4 := gtrans G3 hg4
    refine hK _ _ ?_
    clear hK hall
    rw [hv, e3]
    go_wp2
    go_ret2
    exact ⟨⟨_, L, id, rfl, hL, HS.out, ownsUpF O4 (by omega)⟩, belowBy hg1 G4⟩
theorem drawPolOut_any (w : World) (a : Option Addr) (len cap : Nat) (zs : Nat → Int) (h : Src w a len cap zs) :
    Calls Tryz.prog 19 #[.slice a len cap] w fun e w' => (∃ (v : Value) (L : List PI) (id : Int), e = .returned (.tuple #[v, .int .i64 id]) ∧ L.length ≤ 701 ∧ shP L ∧ w'.ownsRow w.heap.size 35 2 v L.length (cellsP L)) ∧ Below w.heap.size w w' := by
  go_enter Tryz.func19, Tryz.ntmps19
  go_wp2_with (go_at_call 59; refine (drawPolGet_any w a len cap zs h).mono ?_; rintro e w1 ⟨⟨v, L, id, rfl, hL, hS, O⟩, B⟩; have HS : Hid (shP L) := hS; clear hS)
  go_ret2
  exact ⟨⟨_, L, id, rfl, hL, HS.out, O⟩, B⟩
set_option maxHeartbeats 8000000 in
set_option maxRecDepth 100000 in
theorem drawPolPut_any (w : World) (a : Option Addr) (len cap : Nat) (zs : Nat → Int) (h : Src w a len cap zs) :
    Calls Tryz.prog 9 #[.slice a len cap] w fun e w' => (∃ (v : Value) (L : List PI) (id : ByteArray), e = .returned (.tuple #[v, .string id]) ∧ L.length ≤ 701 ∧ shP L ∧ id.size ≤ 1000 ∧ w'.ownsRow w.heap.size 35 2 v L.length (cellsP L)) ∧ Below w.heap.size w w' := by
  have ta : True := trivial
  go_enter Tryz.func9, Tryz.ntmps9
  go_wp2_with (first
    | (go_at_call 47; refine (open_any _ a len cap zs h).mono ?_; rintro e w1 ⟨a', len', cap', rfl, hR1, hl1, hg1⟩)
    | (go_at_call 48; refine (anyPool_any w1 w.heap.size 0 9 a' len' cap' zs hR1 (by omega) hl1 (by omega) (by omega)).mono ?_; rintro e w2 ⟨⟨v, u, L, R, rfl, hL, hS, hR, O2, U2⟩, G2, p2, hp2, R2⟩; have z2 := G2.size; have HS : Hid (shP L) := hS; clear hS; rcases rowSplit O2 with ⟨hb0, h0, A, cv, rfl⟩ | ⟨hb0, h0, g, cv, rfl, hg⟩)
    | (go_at_call 49; have _t := ta; refine (pick_any _ w.heap.size p2 a' len' cap' 3 zs R2 (by omega) (by omega) (by omega)).mono ?_; rintro e w3 ⟨k0, hk0, rfl, R3, g3⟩; have z3 := g3.size; have O3 := O2.kept g3 (ownNot O2 (by omega)); have G3 := gtrans G2 g3; have tb : True := trivial; clear O2 R2 G2 g3 _t ta; obtain rfl | hk1 : k0 = 0 ∨ (k0 : Int) ≠ 0 := by omega)
    | (go_at_call 50; have _t := tb; refine (text_on w3 w.heap.size 6 (p2 + 1) a' len' cap' zs R3 (by omega) (by omega) (by omega) (by omega)).mono ?_; rintro e w5 ⟨id, _, rfl, his, _, _, g5⟩; have z5 := g5.size; have O5 := O3.kept g5 (ownNot O3 (by omega)); have G5 := gtrans G3 g5)
    | (go_at_call 50; refine (text_on w2 w.heap.size 6 p2 a' len' cap' zs R2 (by omega) (by omega) (by omega) (by omega)).mono ?_; rintro e w5 ⟨id, _, rfl, his, _, _, g5⟩; have z5 := g5.size; have O5 := O2.kept g5 (ownNot O2 (by omega)); have G5 := gtrans G2 g5))
  · obtain rfl := List.eq_nil_of_length_eq_zero h0
    go_ret2
    exact ⟨⟨_, [], id, rfl, by simp, HS.out, show id.size ≤ 1000 by omega, ownsUpF O5 (by omega)⟩, belowBy hg1 G5⟩
  · rename_i K hK
    refine frontPP (p := p2 + 1) (by kernel_rfl) rfl rfl rfl rfl R3 (by omega) (by omega) h0 (by omega) (by omega) (O3.lt g rfl).2 (fun k hk => ⟨_, (O3.cellAt (k * 2 + 1) (by omega)).trans (cellsP_get L k hk).2, HS.out _ (List.getElem_mem hk)⟩) ?_
    intro y w4 q hq hR4 hg4 hall
    have hv := hall 9 (by omega)
    obtain ⟨id, e3, hxs⟩ := hall 10 (by omega)
    simp only [slotPP] at hv e3
    have O4 := O3.kept hg4 (ownNot O3 (by omega))
    have z4 := hg4.size
    have G4 := gtrans G3 hg4
    refine hK _ _ ?_
    clear hK hall
    rw [hv, e3]
    go_wp2
    go_ret2
    exact ⟨⟨_, L, id, rfl, hL, HS.out, hxs, ownsUpF O4 (by omega)⟩, belowBy hg1 G4⟩
  · go_ret2
    exact ⟨⟨_, L, id, rfl, hL, HS.out, show id.size ≤ 1000 by omega, ownsUpF O5 (by omega)⟩, belowBy hg1 G5⟩
end Go.Proofs.YthfffpdkmoclbaaGreatDoor.W
