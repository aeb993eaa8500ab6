/-
  Files read from a pool, gathered by the program: what is read so far lies in a block; 'leaf'. Texts of at most 1048576 bytes.
  A region that draws its order, each operation but the last with a slot of its own, the last waiting for all others; all but the last leave what was there as it was. No condition but those named.
  A region that draws its order, whose last two operations come behind all others, the first of the two a call of whatever effect. No condition but those named.
-/
import Derived.Test.YthfffpdkmoclbaaGreatDoorMg40
import Derived.Test.YthfffpdkmoclbaaGreatDoorMg45
import Derived.Test.YthfffpdkmoclbaaGreatDoorMg41
import Derived.Test.YthfffpdkmoclbaaGreatDoorMg06
import Derived.Test.YthfffpdkmoclbaaGreatDoorMg21
namespace Go.Proofs.YthfffpdkmoclbaaGreatDoor.W
open Go.RowKit Go.Proofs.YthfffpdkmoclbaaGreatDoor.M Go.MapKept Go.ChangeMaps
set_option linter.unusedVariables false

/-- what is read so far, and from which map -/
structure Rdg (w : World) (rb b : Nat) (v : Value) (B : List TF) : Prop where
  c0 : w.cell? ⟨rb, 0, none⟩ = some (.map (some b))
  c1 : w.cell? ⟨rb, 1, none⟩ = some v
  fz : w.frozen? ⟨rb, 1, none⟩ = false
  row : w.ownsRow (rb + 1) 98 2 v B.length (cellsF B)
theorem Rdg.lt {w : World} {rb b : Nat} {v : Value} {B : List TF} (h : Rdg w rb b v B) : rb < w.heap.size := World.block_lt_of_cell? _ _ h.c1
theorem Rdg.off {w : World} {rb b : Nat} {v : Value} {B : List TF} (h : Rdg w rb b v B) : v.ownBlock ≠ some rb := fun e => by
  have := (h.row.lt rb e).1
  omega
theorem Rdg.below {w w' : World} {rb b : Nat} {v : Value} {B : List TF} (h : Rdg w rb b v B) (hb : Below w.heap.size w w') : Rdg w' rb b v B :=
  ⟨(hb.cell (p := ⟨rb, 0, none⟩) h.lt).trans h.c0, (hb.cell (p := ⟨rb, 1, none⟩) h.lt).trans h.c1, (hb.frozen (p := ⟨rb, 1, none⟩) h.lt).trans h.fz, ownsUnder h.row hb (Nat.le_refl _)⟩
/-- a row of one's own of another type is kept -/
theorem own_frR {w w' : World} {rb p b n z : Nat} {e : TypeId} {u v v' : Value} {B : List TF} {xs : List Value} (h : w.ownsRow b e z u n xs) (hb : rb < b) (he : e ≠ 98) (hl : Rdg w rb p v B) (f : Fr w w' rb v v') : w'.ownsRow b e z u n xs := by
  refine ⟨h.1, ?_⟩
  rcases h.2 with h2 | ⟨g1, c1, cur1, hu, h1, h2, h3⟩
  · exact .inl h2
  · have hlt : g1 < w.heap.size := by
      rcases Nat.lt_or_ge g1 w.heap.size with h5 | h5
      · exact h5
      · rw [Array.getElem?_eq_none h5] at h2; cases h2
    have hk := f.block g1 hlt (by omega) (fun e9 => by
      obtain ⟨_, cs', h4⟩ := own_typed hl.row e9
      rw [h2] at h4
      cases h4
      exact he rfl)
    exact .inr ⟨g1, c1, cur1, hu, h1, hk.trans h2, h3⟩
/-- the map is kept -/
theorem map_frR {w w' : World} {rb b n : Nat} {v v' : Value} {B : List TF} {P : Program} {k : TypeId} {R : Value → Option (DataW Unit × List MemPlace)} {D : DataW Unit} (h : w.ownsMap P k R b n D) (hb : b ≠ rb) (hl : Rdg w rb b v B) (f : Fr w w' rb v v') : w'.ownsMap P k R b n D := by
  have hlt := h.lt
  obtain ⟨es, clock, hbk, Ft, hs, hD⟩ := h
  refine ⟨es, clock, (f.block b hlt hb (fun e9 => ?_)).trans hbk, Ft, hs, hD⟩
  obtain ⟨_, cs', h4⟩ := own_typed hl.row e9
  rw [hbk] at h4
  cases h4
/-- a block of other cells is kept -/
theorem cells_frR {w w' : World} {rb b g : Nat} {v v' : Value} {B : List TF} {cs : Array Value} {e : TypeId} {fz : Nat × Nat} (h : w.heap[g]? = some (.cells cs e fz)) (hb : g ≠ rb) (he : e ≠ 98) (hl : Rdg w rb b v B) (f : Fr w w' rb v v') : w'.heap[g]? = some (.cells cs e fz) := by
  refine (f.block g (Array.getElem?_eq_some_iff.1 h).1 hb (fun e9 => ?_)).trans h
  obtain ⟨_, cs', h4⟩ := own_typed hl.row e9
  rw [h] at h4
  cases h4
  exact he rfl
theorem fieldP (i : Int) (t : ByteArray) (w : World) : (Instr.field 35 (.agg #[.int .i64 i, .string t]) 1).run Tryz.prog w = .ok (.string t) w := by kernel_rfl
theorem look_item {b nn : Nat} {D : DataW Unit} {F : Int → Option ByteArray} {n : Int} {w : World} (hown : w.ownsMap Tryz.prog 3 itemElem b nn D) (hM : mapP D F) (hn : inI n) : ∃ i : Int, (Instr.lookup 75 (.map (some b)) (.int .i64 n) false).run Tryz.prog w = .ok (.agg #[.int .i64 i, .string (txtF F n)]) w := by
  have law := Maps.int_keyed (P := Tryz.prog) Tryz.underlying3
  have hkey : keyOf Tryz.prog 3 (.int .i64 n) = some (.int .i64 n) := Maps.keyOf_int_mk Tryz.underlying3 (wfI n hn)
  obtain ⟨v9, ps9, hrun, hv9⟩ := hown.lookup law Tryz.underlying75 (zeroPI w) (zd := .agg [.lit (.int .i64 0), .lit (.string [])]) (itemElem_mk 0 ByteArray.empty) hkey
  obtain ⟨h1, h2⟩ := hM n
  unfold txtF
  cases hf : F n with
  | none =>
    rw [hf] at h1
    rw [Maps.atKey_of_not_has h1] at hv9
    obtain ⟨m, t, rfl, hz⟩ := itemElem_inv hv9
    have h9 := congrArg Prod.fst hz
    simp only [DataW.agg.injEq, List.cons.injEq, DataW.lit.injEq, Lit.string.injEq, Lit.int.injEq] at h9
    have ht : t = ByteArray.empty := paEq h9.2.1.symm
    subst ht
    exact ⟨m, hrun⟩
  | some t =>
    rw [h2 t hf] at hv9
    obtain rfl := itemElem_is hv9
    exact ⟨n, hrun⟩
set_option maxHeartbeats 4000000 in
set_option maxRecDepth 100000 in
theorem rleaf_any (rb b nn : Nat) (D : DataW Unit) (F : Int → Option ByteArray) (v : Value) (B : List TF) (p : ByteArray) (n : Int) (w : World) (hg : TypeCell w) (hl : Rdg w rb b v B) (hown : w.ownsMap Tryz.prog 3 itemElem b nn D) (hM : mapP D F) (hn : inI n) (hB : B.length ≤ 60) (ht : (txtF F n).size ≤ 1048576) (hbr : b ≠ rb) :
    Calls Tryz.prog 132 #[.pointer (some ⟨rb, 0, none⟩), .string p, .int .i64 n] w fun e w' => ∃ v', Fr w w' rb v v' ∧
      ((e = .returned (.bool true) ∧ kd (txtF F n) = 1 ∧ B.length < 60 ∧ Rdg w' rb b v' (B ++ [⟨p, byB (txtF F n)⟩])) ∨ (e = .returned (.bool false) ∧ (kd (txtF F n) ≠ 1 ∨ 60 ≤ B.length) ∧ Rdg w' rb b v' B)) := by
  have law := Maps.int_keyed (P := Tryz.prog) Tryz.underlying3
  have hkey : keyOf Tryz.prog 3 (.int .i64 n) = some (.int .i64 n) := Maps.keyOf_int_mk Tryz.underlying3 (wfI n hn)
  have hgl := hg.lt
  have HG : Hid (TypeCell w) := hg
  have HL : Hid (Rdg w rb b v B) := hl
  have HO : Hid (w.ownsMap Tryz.prog 3 itemElem b nn D) := hown
  have c0 := hl.c0
  have hlt := hl.lt
  clear hl hown hg
  obtain ⟨i9, hrun⟩ := look_item HO.out hM hn
  have hfld := fieldP i9 (txtF F n)
  obtain ⟨t, hte⟩ : ∃ t, txtF F n = t := ⟨_, rfl⟩
  rw [hte] at hrun hfld ht ⊢
  obtain ⟨A, c, rfl, hrd⟩ := rdF_of_own HL.out.row
  have c1 := HL.out.c1
  obtain ⟨i0, hi, hz0, hz1, hz2⟩ := info_parts infoF
  clear hte hM hkey hrd
  by_cases hk : kd t = 1
  · have hkd : decide (kd t = 1) = true := by simpa using hk
    by_cases h60 : 60 ≤ B.length
    · have h60' : (60 : Int) ≤ ((B.length : Nat) : Int) := by omega
      go_enter Tryz.func132, Tryz.ntmps132
      go_wp2_with (go_at_call 153; refine (objBytes_impl t _ ht HG.out).mono ?_; rw [hkd]; rintro e w1 ⟨rfl, hb1⟩; have d1 := (hb1.cell (p := ⟨rb, 1, none⟩) hlt).trans c1)
      go_ret
      exact ⟨_, Fr.of hb1, .inr ⟨rfl, .inr h60, HL.out.below hb1⟩⟩
    · have h60' : ¬ (60 : Int) ≤ ((B.length : Nat) : Int) := by omega
      go_enter Tryz.func132, Tryz.ntmps132
      go_wp2_with (first
        | (go_at_call 153; refine (objBytes_impl t _ ht HG.out).mono ?_; rw [hkd]; rintro e w1 ⟨rfl, hb1⟩; have d1 := (hb1.cell (p := ⟨rb, 1, none⟩) hlt).trans c1; have hl1 := HL.out.below hb1; have d2 : (w1.alloc (.cells #[.string p, .string (byB t)] 98)).cell? ⟨rb, 1, none⟩ = some (.slice A B.length c) := (World.cell?_alloc_lt _ _ _ hl1.lt).trans d1)
        | (at_builtin; refine wpList_append_own_at _ rfl _ _ 49 rfl (rb + 1) 98 i0 (.agg #[.string ByteArray.empty, .string ByteArray.empty]) 2 32 Tryz.underlying49 hi hz0 hz1 hz2 rfl (by decide) _ _ _ rfl (hl1.row.alloc _) ⟨w1.heap.size, 0, none⟩ 1 1 [.string p, .string (byB t)] rfl rfl (cells_new w1 #[.string p, .string (byB t)] 98) (by simp [Value.oneCell']) (by unfold maxLen; omega) (by omega) (by simp; have := hl1.lt; omega) ?_; intro v5 w5 O5 g5 _ b5; obtain ⟨A5, n5, k5, rfl⟩ := own_slice O5; have c5 := (World.cell?_of_block (a := ⟨rb, 1, none⟩) (g5.block rb (by simp; have := hl1.lt; omega) (fun e => hl1.off e.symm))).trans d2; have f5 : w5.frozen? ⟨rb, 1, none⟩ = false := (World.frozen?_of_block (a := ⟨rb, 1, none⟩) (g5.block rb (by simp; have := hl1.lt; omega) (fun e => hl1.off e.symm))).trans ((hl1.below ((Below.refl _ _).alloc (Nat.le_refl _) (.cells #[.string p, .string (byB t)] 98))).fz)))
      go_ret
      have hz := g5.size
      simp only [World.size_alloc] at hz
      have hzb := hb1.size
      have hO : (w5.setCell ⟨rb, 1, none⟩ (.slice A5 n5 k5)).ownsRow (rb + 1) 98 2 (.slice A5 n5 k5) (B.length + 1) (cellsF B ++ [.string p, .string (byB t)]) := ownsRow_setCell_below O5 (a := ⟨rb, 1, none⟩) (by simp) _
      refine ⟨_, ?_, .inl ⟨rfl, hk, by omega, ?_, World.cell?_setCell_same _ _ _ c5, by simpa using f5, ?_⟩⟩
      · refine (Fr.of hb1).trans ⟨g5.os, g5.tape, g5.output, by simp; omega, fun k hk1 h1 h2 => ?_, ?_⟩
        · refine (Below.heap_setCell _ _ _ _ (fun e => h1 e)).trans ?_
          refine (g5.block k (by simp; omega) (fun e => h2 e.symm)).trans ?_
          exact ((Below.refl w1.heap.size w1).alloc (Nat.le_refl _) (.cells #[.string p, .string (byB t)] 98)).block k hk1
        · rcases b5 with b5 | b5
          · exact .inl b5
          · exact .inr ⟨_, b5, by simp⟩
      · have h0 : w1.cell? ⟨rb, 0, none⟩ = some (.map (some b)) := hl1.c0
        have h1 : (w1.alloc (.cells #[.string p, .string (byB t)] 98)).cell? ⟨rb, 0, none⟩ = some (.map (some b)) := (World.cell?_alloc_lt _ _ _ hl1.lt).trans h0
        have h2 : w5.cell? ⟨rb, 0, none⟩ = some (.map (some b)) := (World.cell?_of_block (a := ⟨rb, 0, none⟩) (g5.block rb (by simp; have := hl1.lt; omega) (fun e => hl1.off e.symm))).trans h1
        exact (World.cell?_setCell_other _ _ _ _ (by simp)).trans h2
      · rw [cellsF_snoc, List.length_append]
        exact hO
  · have hkd : decide (kd t = 1) = false := by simpa using hk
    go_enter Tryz.func132, Tryz.ntmps132
    go_wp2_with (go_at_call 153; refine (objBytes_impl t _ ht HG.out).mono ?_; rw [hkd]; rintro e w1 ⟨rfl, hb1⟩)
    go_ret
    exact ⟨_, Fr.of hb1, .inr ⟨rfl, .inl hk, HL.out.below hb1⟩⟩
end Go.Proofs.YthfffpdkmoclbaaGreatDoor.W
namespace Go.Proofs.YthfffpdkmoclbaaGreatDoor.W
open Go.RowKit

theorem region_ext_last {P : Program} {id : Nat} {ops : Array Oper} {Q : Exit → Act → World → Prop} {a : Act} {w : World}
    (n ntm : Nat) (slotOf : Nat → Nat) (fix : List Nat) (T : Nat → Value → World → Prop) (hn : ops.size = n + 1)
    (hm : P.follows .mixedOrders = true) (hB : ∀ i o, ops[i]? = some o → ∀ e ∈ o.after, Region.binds .any e = true → e.on < i)
    (hsz : a.tmps.size = ntm) (hdf : a.defers = [])
    (hT : ∀ i v w1 w2, i < n → T i v w1 → Below w1.heap.size w1 w2 → T i v w2)
    (hinj : ∀ i, i < n → ∀ j, j < n → slotOf i = slotOf j → i = j)
    (hslot : ∀ i, i < n → slotOf i < ntm ∧ ∀ s ∈ fix, slotOf i ≠ s)
    (hall : ∀ ol, ops[n]? = some ol → ∀ i, i < n → ∃ e ∈ ol.after, Region.binds .any e = true ∧ e.on = i)
    (hop : ∀ i o, ops[i]? = some o → i < n → ∀ (a1 : Act) (w1 : World), (∀ s ∈ fix, a1.tmps[s]?.getD undef = a.tmps[s]?.getD undef) →
      (∀ e ∈ o.after, Region.binds .any e = true → T e.on (a1.tmps[slotOf e.on]?.getD undef) w1) → Below w.heap.size w w1 →
      wpOp P ops Q i (fun a' w' => ∃ v, a' = a1.put (some (slotOf i)) v ∧ T i v w' ∧ Below w1.heap.size w1 w') a1 w1)
    (hlast : ∀ ol, ops[n]? = some ol → ∀ (y : Nat → Value) (w2 : World), Below w.heap.size w w2 → (∀ i, i < n → T i (y (slotOf i)) w2) → (∀ s ∈ fix, y s = a.tmps[s]?.getD undef) →
      wpOp P ops Q n (Q .normal) ⟨((List.range ntm).map y).toArray, []⟩ w2) : (Code.region id ops true).wp P Q a w := by
  refine region_inv (fun S _ a1 w1 => (S n → Q .normal a1 w1) ∧ (¬ S n → a1.tmps.size = ntm ∧ a1.defers = [] ∧ (∀ s ∈ fix, a1.tmps[s]?.getD undef = a.tmps[s]?.getD undef) ∧ Below w.heap.size w w1 ∧ ∀ k, S k → k < n → T k (a1.tmps[slotOf k]?.getD undef) w1)) hm hB ⟨fun h => h.elim, fun _ => ⟨hsz, hdf, fun _ _ => rfl, (Below.refl _ w).drew, fun _ h => h.elim⟩⟩ ?_ ?_
  · intro i o ho S m a1 w1 hm1 ⟨_, hJ⟩ hni _ hA hD
    have hi : i < ops.size := (Array.getElem?_eq_some_iff.1 ho).1
    have hno : ops[n]? = some ops[n] := Array.getElem?_eq_getElem (by omega)
    have hSn : ¬ S n := fun s => by
      by_cases e : i = n
      · subst e; exact hni s
      · obtain ⟨x, hx, hb, hon⟩ := hall _ hno i (by omega)
        have := hD n _ hno s x hx hb
        rw [hon] at this
        exact hni this
    obtain ⟨j1, j2, j3, j6, j7⟩ := hJ hSn
    by_cases e : i = n
    · subst e
      obtain ⟨tm, df⟩ := a1
      simp only at j1 j2
      subst j2
      have ht : tm = ((List.range ntm).map fun k => tm[k]?.getD undef).toArray := by
        refine Array.ext (by simp [j1]) fun i h1 h2 => ?_
        simp [h1]
      have F := hlast o ho (fun k => tm[k]?.getD undef) w1 j6 (fun k hk => by
        obtain ⟨x, hx, hb, hon⟩ := hall o ho k hk
        have := hA x hx hb
        rw [hon] at this
        exact j7 k this hk) (fun s hs => j3 s hs)
      rw [← ht] at F
      exact wpOp_mono (fun a' w' h => ⟨fun _ => h, fun h2 => absurd (.inr rfl) h2⟩) F
    · have hin : i < n := by omega
      refine wpOp_mono ?_ (hop i o ho hin a1 w1 j3 (fun e he hb => j7 e.on (hA e he hb) (by have := hB i o ho e he hb; omega)) j6)
      rintro a' w' ⟨v, rfl, t, g⟩
      obtain ⟨s1, s2⟩ := hslot i hin
      refine ⟨fun h => ?_, fun _ => ⟨by rw [put_size]; exact j1, by rw [put_defers]; exact j2, fun s hs => ?_, j6.trans (g.mono j6.size), fun k hk k1 => ?_⟩⟩
      · rcases h with h | h
        · exact absurd h hSn
        · exact absurd h.symm e
      · rw [put_get, if_neg (fun e => s2 s hs e.1)]; exact j3 s hs
      · by_cases e2 : k = i
        · subst e2; rw [put_get, if_pos ⟨rfl, by omega⟩]; exact t
        · rw [put_get, if_neg (fun h => e2 (hinj k k1 i hin h.1.symm))]
          exact hT k _ _ _ k1 (j7 k (hk.resolve_right e2) k1) g
  · intro S m a2 w2 hm2 ⟨j1, _⟩ hall2
    exact j1 (hall2 n (by omega))
end Go.Proofs.YthfffpdkmoclbaaGreatDoor.W
namespace Go.Proofs.YthfffpdkmoclbaaGreatDoor.W
open Go.RowKit

theorem region_tail2 {P : Program} {id : Nat} {ops : Array Oper} {Q : Exit → Act → World → Prop} {a : Act} {w : World}
    (n ntm : Nat) (slotOf : Nat → Nat) (fix : List Nat) (T : Nat → Value → World → Prop) (hn : ops.size = n + 2)
    (hm : P.follows .mixedOrders = true) (hB : ∀ i o, ops[i]? = some o → ∀ e ∈ o.after, Region.binds .any e = true → e.on < i)
    (hsz : a.tmps.size = ntm) (hdf : a.defers = [])
    (hT : ∀ i v w1 w2, i < n → T i v w1 → Below w1.heap.size w1 w2 → T i v w2)
    (hinj : ∀ i, i < n → ∀ j, j < n → slotOf i = slotOf j → i = j)
    (hslot : ∀ i, i < n → slotOf i < ntm ∧ ∀ s ∈ fix, slotOf i ≠ s)
    (hall : ∀ S : Nat → Prop, (∀ k ok, ops[k]? = some ok → S k → ∀ e ∈ ok.after, Region.binds .any e = true → S e.on) → (∀ ol, ops[n]? = some ol → ∀ e ∈ ol.after, Region.binds .any e = true → S e.on) → ∀ i, i < n → S i)
    (hall1 : ∀ ol, ops[n + 1]? = some ol → ∃ e ∈ ol.after, Region.binds .any e = true ∧ e.on = n)
    (hop : ∀ i o, ops[i]? = some o → i < n → ∀ (a1 : Act) (w1 : World), (∀ s ∈ fix, a1.tmps[s]?.getD undef = a.tmps[s]?.getD undef) →
      (∀ e ∈ o.after, Region.binds .any e = true → T e.on (a1.tmps[slotOf e.on]?.getD undef) w1) → Below w.heap.size w w1 →
      wpOp P ops Q i (fun a' w' => ∃ v, a' = a1.put (some (slotOf i)) v ∧ T i v w' ∧ Below w1.heap.size w1 w') a1 w1)
    (hlast : ∀ (y : Nat → Value) (w2 : World), Below w.heap.size w w2 → (∀ i, i < n → T i (y (slotOf i)) w2) → (∀ s ∈ fix, y s = a.tmps[s]?.getD undef) →
      wpOp P ops Q n (fun a3 w3 => wpOp P ops Q (n + 1) (Q .normal) a3 w3) ⟨((List.range ntm).map y).toArray, []⟩ w2) : (Code.region id ops true).wp P Q a w := by
  refine region_inv (fun S _ a1 w1 => (S (n + 1) → Q .normal a1 w1) ∧ (¬ S (n + 1) → S n → wpOp P ops Q (n + 1) (Q .normal) a1 w1) ∧ (¬ S n → a1.tmps.size = ntm ∧ a1.defers = [] ∧ (∀ s ∈ fix, a1.tmps[s]?.getD undef = a.tmps[s]?.getD undef) ∧ Below w.heap.size w w1 ∧ ∀ k, S k → k < n → T k (a1.tmps[slotOf k]?.getD undef) w1)) hm hB ⟨fun h => h.elim, fun _ h => h.elim, fun _ => ⟨hsz, hdf, fun _ _ => rfl, (Below.refl _ w).drew, fun _ h => h.elim⟩⟩ ?_ ?_
  · intro i o ho S m a1 w1 hm1 ⟨_, hK1, hJ⟩ hni _ hA hD
    have hi : i < ops.size := (Array.getElem?_eq_some_iff.1 ho).1
    have o1 : ops[n + 1]? = some ops[n + 1] := Array.getElem?_eq_getElem (by omega)
    have s10 : S (n + 1) → S n := fun s => by
      obtain ⟨x, hx, hb, hon⟩ := hall1 _ o1
      have := hD _ _ o1 s x hx hb
      rwa [hon] at this
    have s0 : S n → ∀ i, i < n → S i := fun s => hall S hD (fun ol hol e he hb => hD n ol hol s e he hb)
    by_cases e1 : i = n + 1
    · subst e1
      obtain ⟨x, hx, hb, hon⟩ := hall1 o ho
      have hs := hA x hx hb
      rw [hon] at hs
      refine wpOp_mono (fun a' w' h => ?_) (hK1 hni hs)
      exact ⟨fun _ => h, fun h2 => absurd (.inr rfl) h2, fun h2 => absurd (.inl hs) h2⟩
    have n1 : ¬ S (n + 1) := fun s => by
      by_cases e0 : i = n
      · subst e0; exact hni (s10 s)
      · exact hni (s0 (s10 s) i (by omega))
    by_cases e0 : i = n
    · subst e0
      have hall' := hall S hD (fun ol hol e he hb => by rw [ho] at hol; cases hol; exact hA e he hb)
      obtain ⟨j1, j2, j3, j6, j7⟩ := hJ hni
      obtain ⟨tm, df⟩ := a1
      simp only at j1 j2
      subst j2
      have ht : tm = ((List.range ntm).map fun k => tm[k]?.getD undef).toArray := by
        refine Array.ext (by simp [j1]) fun i h1 h2 => ?_
        simp [h1]
      have F := hlast (fun k => tm[k]?.getD undef) w1 j6 (fun k hk => j7 k (hall' k hk) hk) (fun s hs => j3 s hs)
      rw [← ht] at F
      refine wpOp_mono (fun a' w' h => ?_) F
      exact ⟨fun h2 => h2.elim (fun q => absurd q n1) (fun q => by omega), fun _ _ => h, fun h2 => absurd (.inr rfl) h2⟩
    · have hin : i < n := by omega
      have n0 : ¬ S n := fun s => hni (s0 s i hin)
      obtain ⟨j1, j2, j3, j6, j7⟩ := hJ n0
      refine wpOp_mono ?_ (hop i o ho hin a1 w1 j3 (fun e he hb => j7 e.on (hA e he hb) (by have := hB i o ho e he hb; omega)) j6)
      rintro a' w' ⟨v, rfl, t, g⟩
      obtain ⟨s1, s2⟩ := hslot i hin
      refine ⟨fun h2 => h2.elim (fun q => absurd q n1) (fun q => by omega), fun _ h2 => h2.elim (fun q => absurd q n0) (fun q => by omega), fun _ => ⟨by rw [put_size]; exact j1, by rw [put_defers]; exact j2, fun s hs => ?_, j6.trans (g.mono j6.size), fun k hk k1 => ?_⟩⟩
      · rw [put_get, if_neg (fun e => s2 s hs e.1)]; exact j3 s hs
      · by_cases e2 : k = i
        · subst e2; rw [put_get, if_pos ⟨rfl, by omega⟩]; exact t
        · rw [put_get, if_neg (fun h => e2 (hinj k k1 i hin h.1.symm))]
          exact hT k _ _ _ k1 (j7 k (hk.resolve_right e2) k1) g
  · intro S m a2 w2 hm2 ⟨j1, _⟩ hall3
    exact j1 (hall3 (n + 1) (by omega))
end Go.Proofs.YthfffpdkmoclbaaGreatDoor.W
