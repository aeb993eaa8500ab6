/-
  A region that draws its order, each operation but the last two with a slot of its own, these two behind all others. No condition but those named.
  A block's cells: written, kept, new; what a reader keeps. No condition.
  An entry is appended: the region of the draw of entries that draws its order. (Written by genslot3.py.) No condition but that the reader is open.
-/
import Derived.Test.YthfffpdkmoclbaaGreatDoorMg21
import Derived.Test.YthfffpdkmoclbaaGreatDoorMg13
import Derived.Test.YthfffpdkmoclbaaGreatDoorMg11
import Derived.Test.YthfffpdkmoclbaaGreatDoorMg14
namespace Go.Proofs.YthfffpdkmoclbaaGreatDoor.W
open Go.RowKit Go.Proofs.YthfffpdkmoclbaaGreatDoor.M

/-- the same where the last two wait for all others, one behind the other -/
theorem region_slots_last2 {P : Program} {id : Nat} {ops : Array Oper} {Q : Exit → Act → World → Prop} {a : Act} {w : World} {rb p : Nat} {ad : Option Addr} {len cap : Nat} {zs : Nat → Int}
    (n c ntm : Nat) (slotOf : Nat → Nat) (fix : List Nat) (T : Nat → Value → World → Prop) (hn : ops.size = n + 2)
    (hm : P.follows .mixedOrders = true) (hB : ∀ i o, ops[i]? = some o → ∀ e ∈ o.after, Region.binds .any e = true → e.on < i)
    (hsz : a.tmps.size = ntm) (hdf : a.defers = []) (hRd : Rd w rb p ad len cap zs)
    (hT : ∀ i v w w', i < n → T i v w → w.grownBy w' (some rb) → T i v w')
    (hinj : ∀ i, i < n → ∀ j, j < n → slotOf i = slotOf j → i = j)
    (hslot : ∀ i, i < n → slotOf i < ntm ∧ ∀ s ∈ fix, slotOf i ≠ s)
    (hall : ∀ S : Nat → Prop, (∀ k ok, ops[k]? = some ok → S k → ∀ e ∈ ok.after, Region.binds .any e = true → S e.on) → (∀ ol, ops[n]? = some ol → ∀ e ∈ ol.after, Region.binds .any e = true → S e.on) → ∀ i, i < n → S i)
    (hall2 : ∀ ol, ops[n + 1]? = some ol → ∃ e ∈ ol.after, Region.binds .any e = true ∧ e.on = n)
    (hop : ∀ i o, ops[i]? = some o → i < n → ∀ (a1 : Act) (w1 : World) (q : Nat), (∀ s ∈ fix, a1.tmps[s]?.getD undef = a.tmps[s]?.getD undef) →
      (∀ e ∈ o.after, Region.binds .any e = true → T e.on (a1.tmps[slotOf e.on]?.getD undef) w1) → q + c ≤ p + c * (n + 2) → Rd w1 rb q ad len cap zs → w.grownBy w1 (some rb) →
      wpOp P ops Q i (Step (T i) rb ad len cap zs (slotOf i) c q a1 w1) a1 w1)
    (hlast : ∀ ol, ops[n]? = some ol → ∀ (y : Nat → Value) (w2 : World) (q : Nat), q ≤ p + c * (n + 2) → Rd w2 rb q ad len cap zs → w.grownBy w2 (some rb) → (∀ i, i < n → T i (y (slotOf i)) w2) → (∀ s ∈ fix, y s = a.tmps[s]?.getD undef) →
      wpOp P ops Q n (fun a' w' => wpOp P ops Q (n + 1) (Q .normal) a' w') ⟨((List.range ntm).map y).toArray, []⟩ w2) : (Code.region id ops true).wp P Q a w := by
  refine region_inv (fun S m a1 w1 => (S (n + 1) → Q .normal a1 w1) ∧ (¬ S (n + 1) → S n → wpOp P ops Q (n + 1) (Q .normal) a1 w1) ∧ (¬ S n → a1.tmps.size = ntm ∧ a1.defers = [] ∧ (∀ s ∈ fix, a1.tmps[s]?.getD undef = a.tmps[s]?.getD undef) ∧ (∃ q, q ≤ p + c * m ∧ Rd w1 rb q ad len cap zs) ∧ w.grownBy w1 (some rb) ∧ ∀ k, S k → k < n → T k (a1.tmps[slotOf k]?.getD undef) w1)) hm hB ⟨fun h => h.elim, fun _ h => h.elim, fun _ => ⟨hsz, hdf, fun _ _ => rfl, ⟨p, by omega, hRd.drew⟩, gdrew' _, fun _ h => h.elim⟩⟩ ?_ ?_
  · intro i o ho S m a1 w1 hm1 ⟨_, hK, hJ⟩ hni _ hA hD
    have hi : i < ops.size := (Array.getElem?_eq_some_iff.1 ho).1
    have hno : ops[n]? = some ops[n] := Array.getElem?_eq_getElem (by omega)
    by_cases e1 : i = n + 1
    · subst e1
      obtain ⟨x, hx, hb, hon⟩ := hall2 o ho
      have hs := hA x hx hb
      rw [hon] at hs
      exact wpOp_mono (fun a' w' h => ⟨fun _ => h, fun h2 => absurd (.inr rfl) h2, fun h2 => absurd (.inl hs) h2⟩) (hK hni hs)
    have hSn : ¬ S n := fun s => by
      by_cases e : i = n
      · subst e; exact hni s
      · exact hni (hall S hD (fun ol hol x hx hb => hD n ol hol s x hx hb) i (by omega))
    have hSn1 : ¬ S (n + 1) := fun s => by
      have hno1 : ops[n + 1]? = some ops[n + 1] := Array.getElem?_eq_getElem (by omega)
      obtain ⟨x, hx, hb, hon⟩ := hall2 _ hno1
      have := hD (n + 1) _ hno1 s x hx hb
      rw [hon] at this
      exact hSn this
    obtain ⟨j1, j2, j3, ⟨q, j4, j5⟩, j6, j7⟩ := hJ hSn
    by_cases e : i = n
    · subst e
      obtain ⟨tm, df⟩ := a1
      simp only at j1 j2
      subst j2
      have ht : tm = ((List.range ntm).map fun k => tm[k]?.getD undef).toArray := by
        refine Array.ext (by simp [j1]) fun i h1 h2 => ?_
        simp [h1]
      have hmul : c * m ≤ c * (i + 2) := Nat.mul_le_mul_left c (by omega)
      have F := hlast o ho (fun k => tm[k]?.getD undef) w1 q (by omega) j5 j6 (fun k hk => j7 k (hall S hD (fun ol hol x hx hb => by rw [ho] at hol; cases hol; exact hA x hx hb) k hk) hk) (fun s hs => j3 s hs)
      rw [← ht] at F
      refine wpOp_mono (fun a' w' h => ⟨fun h2 => ?_, fun _ _ => h, fun h2 => absurd (.inr rfl) h2⟩) F
      rcases h2 with h2 | h2
      · exact absurd h2 hSn1
      · omega
    · have hin : i < n := by omega
      have hmul : c * m + c ≤ c * (n + 2) := by
        have : c * (m + 1) ≤ c * (n + 2) := Nat.mul_le_mul_left c (by omega)
        rw [Nat.mul_add, Nat.mul_one] at this; exact this
      refine wpOp_mono ?_ (hop i o ho hin a1 w1 q j3 (fun e he hb => j7 e.on (hA e he hb) (by have := hB i o ho e he hb; omega)) (by omega) j5 j6)
      rintro a' w' ⟨v, q', rfl, t, g, hq', hR'⟩
      obtain ⟨s1, s2⟩ := hslot i hin
      refine ⟨fun h => ?_, fun _ h => ?_, fun _ => ⟨by rw [put_size]; exact j1, by rw [put_defers]; exact j2, fun s hs => ?_, ⟨q', by rw [Nat.mul_add, Nat.mul_one]; omega, hR'⟩, gtrans j6 g, fun k hk k1 => ?_⟩⟩
      · rcases h with h | h
        · exact absurd h hSn1
        · omega
      · rcases h with h | h
        · exact absurd h hSn
        · exact absurd h.symm e
      · rw [put_get, if_neg (fun e => s2 s hs e.1)]; exact j3 s hs
      · by_cases e2 : k = i
        · subst e2; rw [put_get, if_pos ⟨rfl, by omega⟩]; exact t
        · rw [put_get, if_neg (fun h => e2 (hinj k k1 i hin h.1.symm))]
          exact hT k _ _ _ k1 (j7 k (hk.resolve_right e2) k1) g
  · intro S m a2 w2 hm2 ⟨j1, _⟩ hall3
    exact j1 (hall3 (n + 1) (by omega))
end Go.Proofs.YthfffpdkmoclbaaGreatDoor.W
namespace Go.Proofs.YthfffpdkmoclbaaGreatDoor.W
open Go.RowKit Go.Proofs.YthfffpdkmoclbaaGreatDoor.M

theorem bkSet {w : World} {g k : Nat} {v : Value} {cs : Array Value} {t : TypeId} (h : w.heap[g]? = some (.cells cs t (0, 0))) : (w.setCell ⟨g, k, none⟩ v).heap[g]? = some (.cells (cs.setIfInBounds k v) t (0, 0)) := by
  simp [World.setCell, Array.getElem?_modify, h]
theorem bkCell {w : World} {g k : Nat} {v : Value} {cs : Array Value} {t : TypeId} (h : w.heap[g]? = some (.cells cs t (0, 0))) (hk : cs[k]? = some v) : w.cell? ⟨g, k, none⟩ = some v := by
  simp [World.cell?, h, hk]
theorem bkFrozen {w : World} {g k : Nat} {cs : Array Value} {t : TypeId} (h : w.heap[g]? = some (.cells cs t (0, 0))) : w.frozen? ⟨g, k, none⟩ = false := by
  simp [World.frozen?, h]
theorem bkNew (w : World) (o : Obj) : (w.alloc o).heap[w.heap.size]? = some o := by
  show (w.heap.push o)[w.heap.size]? = _
  simp
theorem gSet (w : World) (g j : Nat) (u : Value) : w.grownBy (w.setCell ⟨g, j, none⟩ u) (some g) :=
  ⟨rfl, rfl, rfl, by simp [World.setCell], fun k _ hn => Below.heap_setCell _ _ _ _ (fun e => hn (by rw [e]))⟩
theorem gNew {w w1 w2 : World} {rb r : Nat} (h : w.grownBy w1 (some rb)) (k : w1.grownBy w2 (some r)) (hr : w.heap.size ≤ r) : w.grownBy w2 (some rb) :=
  ⟨k.os.trans h.os, k.tape.trans h.tape, k.output.trans h.output, Nat.le_trans h.size k.size, fun j hj hne => (k.block j (Nat.lt_of_lt_of_le hj h.size) (fun e => by cases e; omega)).trans (h.block j hj hne)⟩
theorem bkKept {w1 w2 : World} {R rb : Nat} {o : Obj} (h : w1.heap[R]? = some o) (hg : w1.grownBy w2 (some rb)) (hne : R ≠ rb) : w2.heap[R]? = some o :=
  (hg.block R (Array.getElem?_eq_some_iff.1 h).1 (fun e => hne (Option.some.inj e))).trans h
theorem bkOld {w : World} {R : Nat} {o o' : Obj} (h : w.heap[R]? = some o) : (w.alloc o').heap[R]? = some o := (Below.heap_alloc _ _ _ (Array.getElem?_eq_some_iff.1 h).1).trans h
theorem bGrow {w w' : World} (h : Below w.heap.size w w') {row : Option Nat} : w.grownBy w' row := ⟨h.os, h.tape, h.output, h.size, fun j hj _ => h.block j hj⟩
theorem rdBelow {w w' : World} {rb p : Nat} {a : Option Addr} {len cap : Nat} {zs : Nat → Int} (h : Rd w rb p a len cap zs) (hb : Below w.heap.size w w') (hlt : rb < w.heap.size) : Rd w' rb p a len cap zs :=
  h.kept (bGrow (row := none) hb) (fun _ e => by cases e) hlt
theorem belowBy {w w1 w2 : World} (h : w.grownBy w1 none) (k : w1.grownBy w2 (some w.heap.size)) : Below w.heap.size w w2 :=
  ((Below.refl _ _).grown h (Nat.le_refl _) (fun _ e => by cases e)).grown k h.size (fun _ e => by cases e; exact Nat.le_refl _)
theorem out3 {W : World} {R : Nat} {t : TypeId} (a b c : Value) {z0 z1 z2 : Value} (h : W.heap[R]? = some (.cells #[z0, z1, z2] t (0, 0))) :
    (W.cell? ⟨R, 0, none⟩ = some z0 ∧ W.frozen? ⟨R, 0, none⟩ = false) ∧ ((W.setCell ⟨R, 0, none⟩ a).cell? ⟨R, 1, none⟩ = some z1 ∧ (W.setCell ⟨R, 0, none⟩ a).frozen? ⟨R, 1, none⟩ = false) ∧
    (((W.setCell ⟨R, 0, none⟩ a).setCell ⟨R, 1, none⟩ b).cell? ⟨R, 2, none⟩ = some z2 ∧ ((W.setCell ⟨R, 0, none⟩ a).setCell ⟨R, 1, none⟩ b).frozen? ⟨R, 2, none⟩ = false) ∧
    (((W.setCell ⟨R, 0, none⟩ a).setCell ⟨R, 1, none⟩ b).setCell ⟨R, 2, none⟩ c).cell? ⟨R, 0, none⟩ = some a ∧
    (((W.setCell ⟨R, 0, none⟩ a).setCell ⟨R, 1, none⟩ b).setCell ⟨R, 2, none⟩ c).cell? ⟨R, 1, none⟩ = some b ∧
    (((W.setCell ⟨R, 0, none⟩ a).setCell ⟨R, 1, none⟩ b).setCell ⟨R, 2, none⟩ c).cell? ⟨R, 2, none⟩ = some c ∧
    W.grownBy (((W.setCell ⟨R, 0, none⟩ a).setCell ⟨R, 1, none⟩ b).setCell ⟨R, 2, none⟩ c) (some R) := by
  have b1 := bkSet (k := 0) (v := a) h
  have b2 := bkSet (k := 1) (v := b) b1
  have b3 := bkSet (k := 2) (v := c) b2
  exact ⟨⟨bkCell h rfl, bkFrozen h⟩, ⟨bkCell b1 rfl, bkFrozen b1⟩, ⟨bkCell b2 rfl, bkFrozen b2⟩, bkCell b3 rfl, bkCell b3 rfl, bkCell b3 rfl, gtrans (gtrans (gSet W R 0 a) (gSet _ R 1 b)) (gSet _ R 2 c)⟩
end Go.Proofs.YthfffpdkmoclbaaGreatDoor.W
namespace Go.Proofs.YthfffpdkmoclbaaGreatDoor.W
open Go.RowKit Go.Proofs.YthfffpdkmoclbaaGreatDoor.M

/-- the first region that draws, in a body with branches and loops -/
def drawnBy : Code → Option (Array Oper)
  | .region _ ops true => some ops
  | .seq a b => (drawnBy a).orElse fun _ => drawnBy b
  | .cond _ a b => (drawnBy a).orElse fun _ => drawnBy b
  | .block _ a => drawnBy a
  | .loop a => drawnBy a
  | _ => none
/-- what each operation leaves -/
def TEN (rb g j : Nat) (v0 : Value) : Nat → Value → World → Prop
  | 0 => fun v _ => v = v0
  | 1 => fun v _ => v = .slice (some ⟨g, 0, none⟩) 5 5
  | 2 => fun v _ => v = .int .i64 j
  | 3 => fun v _ => v = .pointer (some ⟨g, j, none⟩)
  | 4 => fun v _ => ∃ t : ByteArray, v = .string t ∧ t.size ≤ 64
  | 5 => fun v _ => v = .pointer (some ⟨rb, 0, none⟩)
  | 6 => fun v _ => ∃ k : Nat, k < 2 ∧ v = .int .i64 k
  | 7 => fun v _ => ∃ b, v = .bool b
  | 8 => fun v _ => v = .pointer (some ⟨rb, 0, none⟩)
  | 9 => fun v _ => ∃ k : Nat, k < 256 ∧ v = .int .i64 k
  | 10 => fun v _ => ∃ k : Nat, k < 256 ∧ v = .int .i64 ((k : Int) * 7)
  | 11 => fun v _ => ∃ n : Int, v = .int .i64 n
  | 12 => fun v _ => ∃ x : OE, v = .agg #[.string x.nm, .bool x.sh, .int .i64 x.id] ∧ x.nm.size ≤ 64
  | 13 => fun v w => ∃ (h : Nat) (x : OE), v = .slice (some ⟨h, 0, none⟩) 1 1 ∧ h ≠ rb ∧ w.heap[h]? = some (.cells #[.string x.nm, .bool x.sh, .int .i64 x.id] 90 (0, 0)) ∧ x.nm.size ≤ 64
  | _ => fun _ _ => True
/-- its slot -/
def slotEN : Nat → Nat
  | 0 => 20
  | 1 => 21
  | 2 => 22
  | 3 => 23
  | 4 => 24
  | 5 => 25
  | 6 => 26
  | 7 => 27
  | 8 => 28
  | 9 => 29
  | 10 => 30
  | 11 => 31
  | 12 => 32
  | 13 => 33
  | _ => 999
set_option maxRecDepth 100000 in
set_option maxHeartbeats 4000000 in
theorem frontEN {rid : Nat} {ops : Array Oper} (hops : Tryz.f82.body.bind drawnBy = some ops) {Q : Exit → Act → World → Prop} {a : Act} {w : World} {rb p g j base n : Nat} {v0 : Value} {xs : List Value} {ad : Option Addr} {len cap : Nat} {zs : Nat → Int}
    (hsz : a.tmps.size = 80) (hdf : a.defers = []) (hf0 : a.tmps[0]?.getD undef = .pointer (some ⟨rb, 0, none⟩)) (hf5 : a.tmps[5]?.getD undef = v0) (hf6 : a.tmps[6]?.getD undef = .slice (some ⟨g, 0, none⟩) 5 5) (hf7 : a.tmps[7]?.getD undef = .int .i64 j)
    (hRd : Rd w rb p ad len cap zs) (hp : p ≤ 500000) (hlt : rb < w.heap.size) (hj : j < 5) (hn : n ≤ 100) (hbase : base ≤ w.heap.size)
    (hC : ∀ w1, w.grownBy w1 (some rb) → ∃ t : ByteArray, w1.cell? ⟨g, j, none⟩ = some (.string t) ∧ t.size ≤ 64)
    (hO : ∀ w1, w.grownBy w1 (some rb) → w1.ownsRow base 90 3 v0 n xs)
    (hend : ∀ (y : Nat → Value) (w2 w3 : World) (q : Nat) (x : OE) (v' : Value), x.nm.size ≤ 64 → q ≤ p + 40 → Rd w2 rb q ad len cap zs → w.grownBy w2 (some rb) → w3.ownsRow base 90 3 v' (n + 1) (xs ++ [.string x.nm, .bool x.sh, .int .i64 x.id]) → w2.grownBy w3 v0.ownBlock →
      Q .normal ⟨#[a.tmps[0]?.getD undef, a.tmps[1]?.getD undef, a.tmps[2]?.getD undef, a.tmps[3]?.getD undef, a.tmps[4]?.getD undef, v', a.tmps[6]?.getD undef, a.tmps[7]?.getD undef, a.tmps[8]?.getD undef, a.tmps[9]?.getD undef, a.tmps[10]?.getD undef, a.tmps[11]?.getD undef, a.tmps[12]?.getD undef, a.tmps[13]?.getD undef, a.tmps[14]?.getD undef, a.tmps[15]?.getD undef, a.tmps[16]?.getD undef, a.tmps[17]?.getD undef, a.tmps[18]?.getD undef, a.tmps[19]?.getD undef, y 20, y 21, y 22, y 23, y 24, y 25, y 26, y 27, y 28, y 29, y 30, y 31, y 32, y 33, v', a.tmps[35]?.getD undef, a.tmps[36]?.getD undef, a.tmps[37]?.getD undef, a.tmps[38]?.getD undef, a.tmps[39]?.getD undef, a.tmps[40]?.getD undef, a.tmps[41]?.getD undef, a.tmps[42]?.getD undef, a.tmps[43]?.getD undef, a.tmps[44]?.getD undef, a.tmps[45]?.getD undef, a.tmps[46]?.getD undef, a.tmps[47]?.getD undef, a.tmps[48]?.getD undef, a.tmps[49]?.getD undef, a.tmps[50]?.getD undef, a.tmps[51]?.getD undef, a.tmps[52]?.getD undef, a.tmps[53]?.getD undef, a.tmps[54]?.getD undef, a.tmps[55]?.getD undef, a.tmps[56]?.getD undef, a.tmps[57]?.getD undef, a.tmps[58]?.getD undef, a.tmps[59]?.getD undef, a.tmps[60]?.getD undef, a.tmps[61]?.getD undef, a.tmps[62]?.getD undef, a.tmps[63]?.getD undef, a.tmps[64]?.getD undef, a.tmps[65]?.getD undef, a.tmps[66]?.getD undef, a.tmps[67]?.getD undef, a.tmps[68]?.getD undef, a.tmps[69]?.getD undef, a.tmps[70]?.getD undef, a.tmps[71]?.getD undef, a.tmps[72]?.getD undef, a.tmps[73]?.getD undef, a.tmps[74]?.getD undef, a.tmps[75]?.getD undef, a.tmps[76]?.getD undef, a.tmps[77]?.getD undef, a.tmps[78]?.getD undef, a.tmps[79]?.getD undef], []⟩ w3) : (Code.region rid ops true).wp Tryz.prog Q a w := by
  obtain ⟨i0, hi, hz0, hz1, hz2⟩ := info_parts infoO
  simp only [Tryz.f82, Option.bind, drawnBy, Option.orElse] at hops
  obtain rfl := Option.some.inj hops
  clear hops
  refine region_slots_last2 (p := p) 14 2 80 slotEN [0, 1, 2, 3, 4, 5, 6, 7, 8, 9, 10, 11, 12, 13, 14, 15, 16, 17, 18, 19, 34, 35, 36, 37, 38, 39, 40, 41, 42, 43, 44, 45, 46, 47, 48, 49, 50, 51, 52, 53, 54, 55, 56, 57, 58, 59, 60, 61, 62, 63, 64, 65, 66, 67, 68, 69, 70, 71, 72, 73, 74, 75, 76, 77, 78, 79] (TEN rb g j v0) rfl (by kernel_rfl) ?_ hsz hdf hRd ?_ ?_ ?_ ?_ ?_ ?_ ?_
  · clear hend
    intro i o ho e he hb
    match i with
    | 0 => obtain rfl := Option.some.inj ho; revert hb; revert e; decide
    | 1 => obtain rfl := Option.some.inj ho; revert hb; revert e; decide
    | 2 => obtain rfl := Option.some.inj ho; revert hb; revert e; decide
    | 3 => obtain rfl := Option.some.inj ho; revert hb; revert e; decide
    | 4 => obtain rfl := Option.some.inj ho; revert hb; revert e; decide
    | 5 => obtain rfl := Option.some.inj ho; revert hb; revert e; decide
    | 6 => obtain rfl := Option.some.inj ho; revert hb; revert e; decide
    | 7 => obtain rfl := Option.some.inj ho; revert hb; revert e; decide
    | 8 => obtain rfl := Option.some.inj ho; revert hb; revert e; decide
    | 9 => obtain rfl := Option.some.inj ho; revert hb; revert e; decide
    | 10 => obtain rfl := Option.some.inj ho; revert hb; revert e; decide
    | 11 => obtain rfl := Option.some.inj ho; revert hb; revert e; decide
    | 12 => obtain rfl := Option.some.inj ho; revert hb; revert e; decide
    | 13 => obtain rfl := Option.some.inj ho; revert hb; revert e; decide
    | 14 => obtain rfl := Option.some.inj ho; revert hb; revert e; decide
    | 15 => obtain rfl := Option.some.inj ho; revert hb; revert e; decide
    | i + 16 => cases ho
  · intro i v w1 w2 hi h hg
    match i, hi with
    | 0, _ => exact h
    | 1, _ => exact h
    | 2, _ => exact h
    | 3, _ => exact h
    | 4, _ => exact h
    | 5, _ => exact h
    | 6, _ => exact h
    | 7, _ => exact h
    | 8, _ => exact h
    | 9, _ => exact h
    | 10, _ => exact h
    | 11, _ => exact h
    | 12, _ => exact h
    | 13, _ => obtain ⟨b, x, h1, h2, h3, h4⟩ := h; exact ⟨b, x, h1, h2, bkKept h3 hg h2, h4⟩
    | n + 14, hk => exact absurd hk (by omega)
  · decide
  · decide
  · clear hend
    intro S hD h14 i hi
    have s0 := h14 _ rfl { on := 0, ground := .data } (by simp) rfl
    have s13 := h14 _ rfl { on := 13, ground := .data } (by simp) rfl
    have s12 := hD 13 _ rfl s13 { on := 12, ground := .data } (by simp) rfl
    have s4 := hD 12 _ rfl s12 { on := 4, ground := .data } (by simp) rfl
    have s7 := hD 12 _ rfl s12 { on := 7, ground := .data } (by simp) rfl
    have s11 := hD 12 _ rfl s12 { on := 11, ground := .data } (by simp) rfl
    have s10 := hD 11 _ rfl s11 { on := 10, ground := .data } (by simp) rfl
    have s9 := hD 10 _ rfl s10 { on := 9, ground := .data } (by simp) rfl
    have s8 := hD 9 _ rfl s9 { on := 8, ground := .data } (by simp) rfl
    have s6 := hD 7 _ rfl s7 { on := 6, ground := .data } (by simp) rfl
    have s5 := hD 6 _ rfl s6 { on := 5, ground := .data } (by simp) rfl
    have s3 := hD 4 _ rfl s4 { on := 3, ground := .data } (by simp) rfl
    have s1 := hD 3 _ rfl s3 { on := 1, ground := .data } (by simp) rfl
    have s2 := hD 3 _ rfl s3 { on := 2, ground := .data } (by simp) rfl
    match i, hi with
    | 0, _ => exact s0
    | 1, _ => exact s1
    | 2, _ => exact s2
    | 3, _ => exact s3
    | 4, _ => exact s4
    | 5, _ => exact s5
    | 6, _ => exact s6
    | 7, _ => exact s7
    | 8, _ => exact s8
    | 9, _ => exact s9
    | 10, _ => exact s10
    | 11, _ => exact s11
    | 12, _ => exact s12
    | 13, _ => exact s13
    | n + 14, hk => exact absurd hk (by omega)
  · intro ol ho
    obtain rfl := Option.some.inj ho
    exact ⟨{ on := 14, ground := .data }, by simp, rfl, rfl⟩
  · clear hend
    intro i o ho hi a1 w1 q hF hA hq hR1 hg1
    have hq' : q + 2 ≤ p + 2 * 16 := hq
    clear hq
    have hz1 := hg1.size
    have hl1 : rb < w1.heap.size := by omega
    have f0 := (hF 0 (by simp)).trans hf0
    have f5 := (hF 5 (by simp)).trans hf5
    have f6 := (hF 6 (by simp)).trans hf6
    have f7 := (hF 7 (by simp)).trans hf7
    have hcell := hC w1 hg1
    clear hF hO hC
    match i with
    | 0 =>
      obtain rfl := Option.some.inj ho
      refine wpOp_do rfl rfl ?_
      clear hA ho
      unfold Oper.wp
      simp [go_sem, f5]
      exact ⟨_, q, rfl, rfl, ⟨rfl, rfl, rfl, Nat.le_refl _, fun _ _ _ => rfl⟩, by omega, hR1⟩
    | 1 =>
      obtain rfl := Option.some.inj ho
      refine wpOp_do rfl rfl ?_
      clear hA ho
      unfold Oper.wp
      simp [go_sem, f6]
      exact ⟨_, q, rfl, rfl, ⟨rfl, rfl, rfl, Nat.le_refl _, fun _ _ _ => rfl⟩, by omega, hR1⟩
    | 2 =>
      obtain rfl := Option.some.inj ho
      refine wpOp_do rfl rfl ?_
      clear hA ho
      unfold Oper.wp
      simp [go_sem, f7]
      exact ⟨_, q, rfl, rfl, ⟨rfl, rfl, rfl, Nat.le_refl _, fun _ _ _ => rfl⟩, by omega, hR1⟩
    | 3 =>
      obtain rfl := Option.some.inj ho
      refine wpOp_do rfl rfl ?_
      have p1 := hA { on := 1, ground := .data } (by simp) rfl; simp only [TEN, slotEN] at p1
      have p2 := hA { on := 2, ground := .data } (by simp) rfl; simp only [TEN, slotEN] at p2
      clear hA ho
      unfold Oper.wp
      have hj' : (j : Int) < 5 := by omega
      simp [go_sem, p1, p2, hj']
      exact ⟨_, q, rfl, rfl, ⟨rfl, rfl, rfl, Nat.le_refl _, fun _ _ _ => rfl⟩, by omega, hR1⟩
    | 4 =>
      obtain rfl := Option.some.inj ho
      refine wpOp_do rfl rfl ?_
      have p3 := hA { on := 3, ground := .data } (by simp) rfl; simp only [TEN, slotEN] at p3
      clear hA ho
      unfold Oper.wp
      obtain ⟨t, hc, ht⟩ := hcell
      simp [go_sem, p3, hc]
      exact ⟨_, q, rfl, ⟨t, rfl, ht⟩, ⟨rfl, rfl, rfl, Nat.le_refl _, fun _ _ _ => rfl⟩, by omega, hR1⟩
    | 5 =>
      obtain rfl := Option.some.inj ho
      refine wpOp_do rfl rfl ?_
      clear hA ho
      unfold Oper.wp
      simp [go_sem, f0]
      exact ⟨_, q, rfl, rfl, ⟨rfl, rfl, rfl, Nat.le_refl _, fun _ _ _ => rfl⟩, by omega, hR1⟩
    | 6 =>
      obtain rfl := Option.some.inj ho
      refine wpOp_do rfl rfl ?_
      have p5 := hA { on := 5, ground := .data } (by simp) rfl; simp only [TEN, slotEN] at p5
      clear hA ho
      unfold Oper.wp
      simp [go_sem, p5]
      refine (pick_any w1 rb q ad len cap 2 zs hR1 (by omega) (by omega) (by omega)).mono ?_
      rintro e w2 ⟨v, hv, rfl, hR2, hg2⟩
      exact ⟨.int .i64 v, q + 1, rfl, ⟨v, hv, rfl⟩, hg2, by omega, hR2⟩
    | 7 =>
      obtain rfl := Option.some.inj ho
      refine wpOp_do rfl rfl ?_
      have p6 := hA { on := 6, ground := .data } (by simp) rfl; simp only [TEN, slotEN] at p6
      clear hA ho
      unfold Oper.wp
      obtain ⟨k', hk', e2⟩ := p6
      rcases (show k' = 0 ∨ k' = 1 from by omega) with rfl | rfl
      · simp [go_sem, e2]
        exact ⟨_, q, rfl, ⟨_, rfl⟩, ⟨rfl, rfl, rfl, Nat.le_refl _, fun _ _ _ => rfl⟩, by omega, hR1⟩
      · simp [go_sem, e2]
        exact ⟨_, q, rfl, ⟨_, rfl⟩, ⟨rfl, rfl, rfl, Nat.le_refl _, fun _ _ _ => rfl⟩, by omega, hR1⟩
    | 8 =>
      obtain rfl := Option.some.inj ho
      refine wpOp_do rfl rfl ?_
      clear hA ho
      unfold Oper.wp
      simp [go_sem, f0]
      exact ⟨_, q, rfl, rfl, ⟨rfl, rfl, rfl, Nat.le_refl _, fun _ _ _ => rfl⟩, by omega, hR1⟩
    | 9 =>
      obtain rfl := Option.some.inj ho
      refine wpOp_do rfl rfl ?_
      have p8 := hA { on := 8, ground := .data } (by simp) rfl; simp only [TEN, slotEN] at p8
      clear hA ho
      unfold Oper.wp
      simp [go_sem, p8]
      refine (pick_any w1 rb q ad len cap 256 zs hR1 (by omega) (by omega) (by omega)).mono ?_
      rintro e w2 ⟨v, hv, rfl, hR2, hg2⟩
      exact ⟨.int .i64 v, q + 1, rfl, ⟨v, hv, rfl⟩, hg2, by omega, hR2⟩
    | 10 =>
      obtain rfl := Option.some.inj ho
      refine wpOp_do rfl rfl ?_
      have p9 := hA { on := 9, ground := .data } (by simp) rfl; simp only [TEN, slotEN] at p9
      clear hA ho
      unfold Oper.wp
      obtain ⟨k', hk', e2⟩ := p9
      have hw : IntKind.i64.wrap ((k' : Int) * 7) = (k' : Int) * 7 := by rw [IntKind.wrap_i64]; omega
      simp [go_sem, e2, hw]
      exact ⟨_, q, rfl, ⟨k', hk', rfl⟩, ⟨rfl, rfl, rfl, Nat.le_refl _, fun _ _ _ => rfl⟩, by omega, hR1⟩
    | 11 =>
      obtain rfl := Option.some.inj ho
      refine wpOp_do rfl rfl ?_
      have p10 := hA { on := 10, ground := .data } (by simp) rfl; simp only [TEN, slotEN] at p10
      clear hA ho
      unfold Oper.wp
      obtain ⟨k', hk', e2⟩ := p10
      simp [go_sem, e2]
      exact ⟨_, q, rfl, ⟨_, rfl⟩, ⟨rfl, rfl, rfl, Nat.le_refl _, fun _ _ _ => rfl⟩, by omega, hR1⟩
    | 12 =>
      obtain rfl := Option.some.inj ho
      refine wpOp_do rfl rfl ?_
      have p4 := hA { on := 4, ground := .data } (by simp) rfl; simp only [TEN, slotEN] at p4
      have p7 := hA { on := 7, ground := .data } (by simp) rfl; simp only [TEN, slotEN] at p7
      have p11 := hA { on := 11, ground := .data } (by simp) rfl; simp only [TEN, slotEN] at p11
      clear hA ho
      unfold Oper.wp
      obtain ⟨t', e4, ht'⟩ := p4
      obtain ⟨b', e7⟩ := p7
      obtain ⟨n', e11⟩ := p11
      simp [go_sem, e4, e7, e11]
      exact ⟨_, q, rfl, ⟨⟨t', b', n'⟩, rfl, ht'⟩, ⟨rfl, rfl, rfl, Nat.le_refl _, fun _ _ _ => rfl⟩, by omega, hR1⟩
    | 13 =>
      obtain rfl := Option.some.inj ho
      refine wpOp_do rfl rfl ?_
      have p12 := hA { on := 12, ground := .data } (by simp) rfl; simp only [TEN, slotEN] at p12
      clear hA ho
      unfold Oper.wp
      obtain ⟨x, e12, hx⟩ := p12
      simp [go_sem, e12]
      exact ⟨_, q, rfl, ⟨w1.heap.size, x, rfl, by omega, bkNew _ _, hx⟩, galloc _ _, by omega, hR1.alloc hl1 _⟩
    | i + 14 => exact absurd hi (by omega)
  · intro ol ho y w2 q hq hR2 hg2 hall hF
    obtain rfl := Option.some.inj ho
    refine wpOp_do rfl rfl ?_
    clear ho
    have e20 := hall 0 (by omega)
    obtain ⟨h, x, e33, hne, hblk, hx⟩ := hall 13 (by omega)
    simp only [TEN, slotEN] at e20 e33
    have F := fun w3 v' h1 h2 => hend y w2 w3 q x v' hx (by omega) hR2 hg2 h1 h2
    rw [show ((List.range 80).map y).toArray = #[y 0, y 1, y 2, y 3, y 4, y 5, y 6, y 7, y 8, y 9, y 10, y 11, y 12, y 13, y 14, y 15, y 16, y 17, y 18, y 19, y 20, y 21, y 22, y 23, y 24, y 25, y 26, y 27, y 28, y 29, y 30, y 31, y 32, y 33, y 34, y 35, y 36, y 37, y 38, y 39, y 40, y 41, y 42, y 43, y 44, y 45, y 46, y 47, y 48, y 49, y 50, y 51, y 52, y 53, y 54, y 55, y 56, y 57, y 58, y 59, y 60, y 61, y 62, y 63, y 64, y 65, y 66, y 67, y 68, y 69, y 70, y 71, y 72, y 73, y 74, y 75, y 76, y 77, y 78, y 79] from rfl]
    rw [hF 0 (by decide), hF 1 (by decide), hF 2 (by decide), hF 3 (by decide), hF 4 (by decide), hF 5 (by decide), hF 6 (by decide), hF 7 (by decide), hF 8 (by decide), hF 9 (by decide), hF 10 (by decide), hF 11 (by decide), hF 12 (by decide), hF 13 (by decide), hF 14 (by decide), hF 15 (by decide), hF 16 (by decide), hF 17 (by decide), hF 18 (by decide), hF 19 (by decide), hF 34 (by decide), hF 35 (by decide), hF 36 (by decide), hF 37 (by decide), hF 38 (by decide), hF 39 (by decide), hF 40 (by decide), hF 41 (by decide), hF 42 (by decide), hF 43 (by decide), hF 44 (by decide), hF 45 (by decide), hF 46 (by decide), hF 47 (by decide), hF 48 (by decide), hF 49 (by decide), hF 50 (by decide), hF 51 (by decide), hF 52 (by decide), hF 53 (by decide), hF 54 (by decide), hF 55 (by decide), hF 56 (by decide), hF 57 (by decide), hF 58 (by decide), hF 59 (by decide), hF 60 (by decide), hF 61 (by decide), hF 62 (by decide), hF 63 (by decide), hF 64 (by decide), hF 65 (by decide), hF 66 (by decide), hF 67 (by decide), hF 68 (by decide), hF 69 (by decide), hF 70 (by decide), hF 71 (by decide), hF 72 (by decide), hF 73 (by decide), hF 74 (by decide), hF 75 (by decide), hF 76 (by decide), hF 77 (by decide), hF 78 (by decide), hF 79 (by decide)]
    refine wp_append_own w2 (.tmp 20) (.tmp 33) 81 rfl base 90 i0 (.agg #[.string ByteArray.empty, .bool false, .int .i64 0]) 3 32 Tryz.underlying81 hi hz0 hz1 hz2 rfl (by decide) v0 n xs (by simp [go_sem, e20]) (hO w2 hg2) ⟨h, 0, none⟩ 1 1 [.string x.nm, .bool x.sh, .int .i64 x.id] (by simp [go_sem, e33]) rfl ?_ (fun u hu => by simp at hu; rcases hu with rfl | rfl | rfl <;> rfl) (by unfold maxLen; omega) (by omega) (by have := hg2.size; omega) ?_
    · intro k u hu
      have e : (⟨h, 0, none⟩ : Addr).add k = ⟨h, k, none⟩ := by unfold Addr.add; split <;> simp_all
      rw [e]
      exact bkCell hblk (by simpa using hu)
    · intro v' w3 h1 h2 _
      refine wpOp_do rfl rfl ?_
      unfold Oper.wp
      simp [go_sem]
      exact F w3 v' h1 h2
end Go.Proofs.YthfffpdkmoclbaaGreatDoor.W
