/-
  impl.fileMap.files: the files that a map has, in the order of their paths, in new memory. Maps of at most 1048576 entries.
  The walks of impl.poolMap.put and of impl.PolPut. Pools of at most 1048576 bytes.
-/
import Derived.Test.YthfffpdkmoclbaaGreatDoorMg36
import Derived.Test.YthfffpdkmoclbaaGreatDoorMg33
namespace Go.Proofs.YthfffpdkmoclbaaGreatDoor.W
open Go.RowKit Go.Shelf Go.Proofs.YthfffpdkmoclbaaGreatDoor.M Go.Maps Go.Sort Go.MapKept Go.ChangeMaps
attribute [local go_sem] Oper.semAt_some
set_option linter.unusedVariables false

theorem kpF_alloc (W : World) (o : Obj) : KpF W (W.alloc o) := ⟨by simp, fun k o' hk _ => (Below.heap_alloc _ _ _ (Array.getElem?_eq_some_iff.1 hk).1).trans hk⟩
theorem kpF_appended {W w1 : World} {n₀ B k : Nat} {v v' : Value} {xs : List Value} {tmp : Obj} (hv : Boxed W B 23 v) (hrow : W.ownsRow n₀ 35 2 v k xs) (hgrow : (W.alloc tmp).grownBy w1 v.ownBlock) : KpF W (w1.setCell ⟨B, 0, none⟩ v') := by
  refine ⟨?_, fun q o hq ho => ?_⟩
  · have := hgrow.size; simp at this; simp [World.setCell]; omega
  have hlt : q < W.heap.size := (Array.getElem?_eq_some_iff.1 hq).1
  have h1 : q ≠ B := fun e => by
    subst e
    rw [show W.heap[q]? = _ from hv] at hq
    obtain rfl := Option.some.inj hq
    simp [keptO] at ho
  have h2 : some q ≠ v.ownBlock := fun e => by
    rcases hrow.2 with ⟨h3, _⟩ | ⟨g, cap, cur, h3, _, h4, _⟩
    · rw [h3] at e; simp [Value.ownBlock] at e
    · rw [h3] at e
      obtain rfl : q = g := by simpa [Value.ownBlock] using e
      rw [h4] at hq
      obtain rfl := Option.some.inj hq
      simp [keptO] at ho
  refine (Below.heap_setCell _ _ _ q (fun e => h1 e)).trans ((hgrow.block q (by simp; omega) h2).trans ((Below.heap_alloc _ _ _ hlt).trans hq))

set_option maxHeartbeats 2000000 in
set_option maxRecDepth 100000 in
theorem items_any (b nn : Nat) (D : DataW Unit) (f : Int → Option ByteArray) (w : World) (hown : w.ownsMap Tryz.prog 3 itemElem b nn D) (hf : mapP D f) (hn : nn ≤ 1048576) :
    Calls Tryz.prog 53 #[.map (some b)] w fun e W' => ∃ v xs, e = .returned v ∧ RiseP xs ∧ (∀ q, findP xs q = f q) ∧ W'.ownsRow w.heap.size 35 2 v xs.length (cellsP xs) ∧ Below w.heap.size w W' := by
  obtain ⟨i0, hi, hz0, hz1, hz2⟩ := info_parts infoP
  have hsz := hown.size_le
  have hrun := hown.len Tryz.underlying75 3
  have hbl := hown.lt
  refine (callsIn_wide (n := 7)).1 ?_
  refine callsIn_of_wp_marks Tryz.func53 rfl trivial ?_ rfl
  simp only [Tryz.ntmps53, List.size_toArray, List.length_cons, List.length_nil, Nat.reduceAdd, Nat.reduceSub, Array.replicate_succ, Array.replicate_zero, List.push_toArray, List.append_toArray, List.nil_append, List.cons_append]
  gi_wp2_with (first
    | (gi_at_make; refine wpListIn_make_own _ rfl _ _ 23 rfl w.heap.size 35 i0 (.agg #[.int .i64 0, .string ByteArray.empty]) 2 Tryz.underlying23 hi hz0 hz1 .i64 .i64 _ (Maps.size D) rfl rfl rfl (by rw [hz2]; omega) (by unfold maxLen; omega) (Nat.le_refl _) ?_; intro w1 hown1 hgrow1)
    | (gi_at_call 84; refine (callsIn_wide.2 (inOrder_any b _)).mono ?_; rintro e w' ⟨rfl, rfl⟩)
    | (refine ⟨trivial, ?_⟩; gi_at_call 84; refine (callsIn_wide.2 (inOrder_any b _)).mono ?_; rintro e w' ⟨rfl, rfl⟩))
  have hs1 := hgrow1.size
  have bO := Boxed.new w1 23 (.slice (some ⟨w.heap.size, 0, none⟩) 0 (Maps.size D))
  have HB0 : Below w.heap.size w ((w1.alloc (.cells #[.slice (some ⟨w.heap.size, 0, none⟩) 0 (Maps.size D)] 23)).alloc (.cells #[.map (some b)] 74)) := (((Below.refl _ w).grown hgrow1 (Nat.le_refl _) (fun k e => by cases e)).alloc hs1 _).alloc (by simp; omega) _
  have bO2 := bO.alloc (.cells #[.map (some b)] 74)
  have hrow0 := (hown1.alloc (.cells #[.slice (some ⟨w.heap.size, 0, none⟩) 0 (Maps.size D)] 23)).alloc (.cells #[.map (some b)] 74)
  have hc0 : ((w1.alloc (.cells #[.slice (some ⟨w.heap.size, 0, none⟩) 0 (Maps.size D)] 23)).alloc (.cells #[.map (some b)] 74)).heap[w1.heap.size + 1]? = some (.cells #[.map (some b)] 74 (0, 0)) := by
    have := World.alloc_heap_new (w1.alloc (.cells #[.slice (some ⟨w.heap.size, 0, none⟩) 0 (Maps.size D)] 23)) (.cells #[.map (some b)] 74)
    rwa [World.size_alloc] at this
  have hown0 : ((w1.alloc (.cells #[.slice (some ⟨w.heap.size, 0, none⟩) 0 (Maps.size D)] 23)).alloc (.cells #[.map (some b)] 74)).ownsMap Tryz.prog 3 itemElem b nn D := by
    obtain ⟨es, clock, hb, Ft, hs, hD⟩ := hown
    exact ⟨es, clock, (HB0.block b hbl).trans hb, Ft, hs, hD⟩
  have hsz0 : ((w1.alloc (.cells #[.slice (some ⟨w.heap.size, 0, none⟩) 0 (Maps.size D)] 23)).alloc (.cells #[.map (some b)] 74)).heap.size = w1.heap.size + 2 := by simp
  obtain ⟨W0, hW0⟩ : ∃ W0, W0 = (w1.alloc (.cells #[.slice (some ⟨w.heap.size, 0, none⟩) 0 (Maps.size D)] 23)).alloc (.cells #[.map (some b)] 74) := ⟨_, rfl⟩
  rw [← hW0] at HB0 bO2 hrow0 hc0 hown0 hsz0 ⊢
  clear hW0
  refine wpIn_rangeFunc_ownH (α := PI) (encs := encsF) (Kp := KpF) rfl (by omega) (gf := 113) (lb := #[.pointer (some ⟨w1.heap.size + 1, 0, none⟩)]) rfl trivial (enters_of Tryz.func113 (by kernel_rfl) rfl)
    (order_stops (w1.heap.size + 1) b nn D f W0 (by omega) hc0 hown0 hf hn) kpF_t (fun W l o o' _ h1 h2 h3 => kpF_b W l o o' h1 h2 h3) (Below.refl _ _) (fun _ => rfl)
    (fun pre W => (∃ v, Boxed W w1.heap.size 23 v ∧ W.ownsRow w.heap.size 35 2 v pre.length (cellsP pre) ∧ True) ∧ Below w.heap.size w W)
    (fun _ _ _ => False)
    (OwnFrom.and (Own.from (holdsRow_own w.heap.size w1.heap.size 23 35 2 (fun pre : List PI => pre.length) (fun pre => cellsP pre) (fun _ _ => True)) _) (ownFrom_below (Nat.le_refl _) (by omega)))
    (fun _ _ _ _ _ hs _ _ => hs)
    ⟨⟨_, bO2, hrow0, trivial⟩, HB0⟩
    (fun x a' W => ∃ Bx, W.heap[Bx]? = some (.cells #[.int .i64 x.id, .string x.tx] 35 (0, 0)) ∧ a' = { tmps := #[.map (some b), undef, .slice none 0 0, .pointer (some ⟨w1.heap.size, 0, none⟩), undef, .pointer (some ⟨Bx, 0, none⟩), .map (some b), .int .i64 (Maps.size D), .slice (some ⟨w.heap.size, 0, none⟩) 0 (Maps.size D), .map (some b), .func (.func 113) #[] #[.pointer (some ⟨w1.heap.size + 1, 0, none⟩)], .int .i64 x.id, .agg #[.int .i64 x.id, .string x.tx], undef, undef, undef, undef, undef], defers := [] })
    (fun x a' _ X Y row hs hg hrw => by
      obtain ⟨Bx, hx, ha⟩ := hs
      refine ⟨Bx, (hg.block Bx (Array.getElem?_eq_some_iff.1 hx).1 (fun e => ?_)).trans hx, ha⟩
      obtain ⟨_, o, ho, hcl⟩ := hrw Bx e.symm
      rw [hx] at ho; cases ho; cases hcl) ?assign ?body ?done ?stop
  case assign =>
    rintro l pre x W K ⟨⟨v, hv, hrow, _⟩, hB⟩ hK
    dsimp only [encsF]
    gi_wp2
    exact hK _ _ ((KeepsOthers.alloc _ _).from _) (kpF_alloc _ _) ⟨⟨v, hv.alloc _, hrow.alloc _, trivial⟩, hB.alloc hB.size _⟩ ⟨W.heap.size, World.alloc_heap_new W _, rfl⟩
  case body =>
    rintro l pre x a' W hl ⟨r, hr⟩ ⟨⟨v, hv, hrow, _⟩, hB⟩ ⟨Bx, hx, rfl⟩ hlt
    have hc := hv.cell
    have hx1 : W.cell? ⟨Bx, 0, none⟩ = some (.int .i64 x.id) := by simp [World.cell?, hx]
    have hx2 : W.cell? ⟨Bx, 1, none⟩ = some (.string x.tx) := by simp [World.cell?, hx]
    gi_wp2_with (gi_at_builtin; refine wpListIn_append_own _ rfl _ _ 23 rfl w.heap.size 35 i0 (.agg #[.int .i64 0, .string ByteArray.empty]) 2 24 Tryz.underlying23 hi hz0 hz1 hz2 rfl (by decide) _ _ _ rfl (hrow.alloc _) ⟨W.heap.size, 0, none⟩ 1 1 [.int .i64 x.id, .string x.tx] rfl rfl (cells_new W #[.int .i64 x.id, .string x.tx] 35) (by simp [Value.oneCell']) (by unfold maxLen; omega) (by omega) (by have := hB.size; simp; omega) ?_; intro v' w3 hown' hgrow _; obtain ⟨g', cap', rfl⟩ := ownsRow_succ hown'; obtain ⟨hv1, hv2, hr2, hk2, hb2⟩ := hv.appended (by decide) hrow hB.size hs1 hown' hgrow; have hkp := kpF_appended (v' := .slice (some ⟨g', 0, none⟩) (pre.length + 1) cap') hv hrow hgrow; have hc1 := hv1.cell; have hf1 := hv1.frozen)
    exact ⟨hk2.from _, hkp, ⟨_, hv2, by rw [cellsP_snoc, List.length_append]; exact hr2, trivial⟩, hB.trans hb2⟩
  case done =>
    rintro D' ys W hD hS ⟨⟨v, hv, hrow, _⟩, hB⟩ hK
    have hc := hv.cell
    gi_wp2
    refine ⟨by simp, .inl ⟨_, _, rfl, run_takeDeferred hK, ?_⟩⟩
    exact ⟨_, results_tmp rfl _ _ _, v, ys, rfl, hS.1, hS.2, ownsRow_putObj hrow _ hK rfl, hB.trans (belowK_b (w := w) (Nat.le_refl _) W D' _ _ (by omega) hK rfl rfl)⟩
  case stop =>
    rintro D' c pre W _ _ h _
    exact h.elim
end Go.Proofs.YthfffpdkmoclbaaGreatDoor.W
namespace Go.Proofs.YthfffpdkmoclbaaGreatDoor.W
open Go.RowKit Go.Proofs.YthfffpdkmoclbaaGreatDoor.M Go.Maps Go.MapKept Go.ChangeMaps
set_option linter.unusedVariables false

/-- what put answers, and what the map tells behind it -/
def putFI (f : Int → Option ByteArray) (sz : Nat) (n : Int) (s : ByteArray) : Int × Int × (Int → Option ByteArray) := match f n with
  | some t => if t = s then (n, 2, f) else (0, 3, f)
  | none => if 700 ≤ sz then (0, 3, f) else (n, 1, fun q => if q = n then some s else f q)
theorem putPool_ok (L : List PI) (n : Int) (s : ByteArray) (hr : RiseP L) (h7 : L.length ≤ 700) : RiseP (putPool L n s).1 ∧ (∀ q, findP (putPool L n s).1 q = (putFI (findP L) L.length n s).2.2 q) ∧ (putPool L n s).2.1 = (putFI (findP L) L.length n s).1 ∧ (putPool L n s).2.2 = (putFI (findP L) L.length n s).2.1 := by
  unfold putPool putFI
  cases hf : findP L n with
  | some t =>
    by_cases ht : t = s
    · simp [ht, hr]
    · simp [ht, hr]
  | none =>
    by_cases h : L.length = 700
    · simp [h, hr]
    · have h2 : ¬ 700 ≤ L.length := by omega
      simp only [h, h2, if_false]
      refine ⟨riseP_ins L ⟨n, s⟩ hr hf, fun q => findP_ins L ⟨n, s⟩ q hf, ?_⟩
      simp
theorem putFI_came (f : Int → Option ByteArray) (sz : Nat) (n : Int) (s : ByteArray) : ((putFI f sz n s).2.1 == 4) = false := by
  unfold putFI
  split
  · split <;> rfl
  · split <;> rfl
theorem itemElem_is {v : Value} {n : Int} {t : ByteArray} {ps : List MemPlace} (h : itemElem v = some (.agg [.lit (.int .i64 n), .lit (.string t.data.toList)], ps)) : v = .agg #[.int .i64 n, .string t] := by
  obtain ⟨m, u, rfl, hz⟩ := itemElem_inv h
  have h9 := congrArg Prod.fst hz
  simp only [DataW.agg.injEq, List.cons.injEq, DataW.lit.injEq, Lit.string.injEq, Lit.int.injEq] at h9
  rw [h9.1.2, paEq h9.2.1]
theorem ownsBel {w w' : World} {k : TypeId} {R : Value → Option (DataW Unit × List MemPlace)} {b n B : Nat} {D : DataW Unit} (h : w.ownsMap Tryz.prog k R b n D) (hb : Below B w w') (hB : w.heap.size ≤ B) : w'.ownsMap Tryz.prog k R b n D := by
  have hlt := h.lt
  obtain ⟨es, clock, h1, h2⟩ := h
  exact ⟨es, clock, (hb.block b (by omega)).trans h1, h2⟩
theorem grBelow {w w' : World} {r : Option Nat} (h : Below w.heap.size w w') : w.grownBy w' r := ⟨h.os, h.tape, h.output, h.size, fun k hk _ => h.block k hk⟩
theorem grTr {w w' w'' : World} {r : Option Nat} (h : w.grownBy w' r) (k : w'.grownBy w'' r) : w.grownBy w'' r :=
  ⟨k.os.trans h.os, k.tape.trans h.tape, k.output.trans h.output, Nat.le_trans h.size k.size, fun i hi hn => (k.block i (Nat.lt_of_lt_of_le hi h.size) hn).trans (h.block i hi hn)⟩

set_option maxHeartbeats 4000000 in
set_option maxRecDepth 100000 in
theorem put_any (b nn : Nat) (D : DataW Unit) (f : Int → Option ByteArray) (s : ByteArray) (w : World) (hg : TypeCell w) (hown : w.ownsMap Tryz.prog 3 itemElem b nn D) (hM : mapP D f) (hnn : nn ≤ 1000) (hs : s.size ≤ 1048576) (hkd : kd s ≠ 0) :
    Calls Tryz.prog 52 #[.map (some b), .string s] w fun e w' => e = .returned (.tuple #[.int .i64 (putFI f (Maps.size D) (idOfN s.data.toList) s).1, .int .i64 (putFI f (Maps.size D) (idOfN s.data.toList) s).2.1]) ∧ (∃ D' n', n' ≤ nn + 1 ∧ w'.ownsMap Tryz.prog 3 itemElem b n' D' ∧ mapP D' (putFI f (Maps.size D) (idOfN s.data.toList) s).2.2) ∧ w.grownBy w' (some b) := by
  obtain ⟨m, hm⟩ : ∃ m, kd s = m := ⟨_, rfl⟩
  have hkdc := kdI s m w hs hm hg
  have hmb : (((m : Nat) : Int) == 0) = false := by simp; omega
  obtain ⟨n, hid⟩ : ∃ n, idOfN s.data.toList = n := ⟨_, rfl⟩
  have hidc := fun W => idI s n W hs hid
  have hbd := idOfN_bd s.data.toList
  rw [hid] at hbd
  rw [hid]
  have law := Maps.int_keyed (P := Tryz.prog) Tryz.underlying3
  have hkey : keyOf Tryz.prog 3 (.int .i64 (n : Int)) = some (.int .i64 (n : Int)) := Maps.keyOf_int_mk Tryz.underlying3 (idWf _ (by omega) (by omega))
  have hhas := (hM (n : Int)).1
  have HMP : Hid (mapP D f) := hM
  have HOWN : Hid (w.ownsMap Tryz.prog 3 itemElem b nn D) := hown
  have hlen := fun (W : World) (hW : Below w.heap.size w W) => (ownsBel HOWN.out hW (Nat.le_refl _)).len Tryz.underlying75 3
  have hbl := hown.lt
  obtain ⟨sz, hsz⟩ : ∃ sz, Maps.size D = sz := ⟨_, rfl⟩
  rw [hsz] at hlen
  rw [hsz]
  clear hown hm hid hbd hM hsz hkd
  cases hf : f (n : Int) with
  | some t =>
    have hat := (HMP.out (n : Int)).2 t hf
    rw [hf] at hhas
    simp only [Option.isSome_some] at hhas
    by_cases ht : t = s
    · have HR : Hid (putFI f sz (n : Int) s = ((n : Int), 2, f)) := (show putFI f sz (n : Int) s = _ by unfold putFI; rw [hf]; simp [ht])
      subst ht
      have hbe : (t.toList == t.toList) = true := by simp
      clear hf hlen
      go_enter Tryz.func52, Tryz.ntmps52
      go_wp2_with (first
        | (go_at_call 58; refine hkdc.mono ?_; rintro e w1 ⟨rfl, hb1⟩; have hs1 := hb1.size; clear hkdc)
        | (go_at_call 17; refine (hidc w1).mono ?_; rintro e w2 ⟨rfl, hb2⟩; have HB2 : Below w.heap.size w w2 := hb1.trans (hb2.mono hs1); have hown2 := ownsBel HOWN.out HB2 (Nat.le_refl _); clear hb1 hb2 hidc)
        | (at_lookup; refine wpList_lookup_own_ok _ rfl _ _ 75 rfl 3 35 law Tryz.underlying75 itemElem (zeroPI _) (.agg [.lit (.int .i64 0), .lit (.string [])]) [] (itemElem_mk 0 ByteArray.empty) b nn D rfl hown2 _ _ rfl hkey ?_; intro v ps hv; rw [hat] at hv; obtain rfl := itemElem_is hv; rw [hhas]))
      go_ret2
      have e9 := HR.out
      rw [e9]
      exact ⟨rfl, ⟨D, nn, by omega, hown2.alloc _, HMP.out⟩, grTr (grBelow HB2) (World.grownBy_alloc _ _ _)⟩
    · have HR : Hid (putFI f sz (n : Int) s = (0, 3, f)) := (show putFI f sz (n : Int) s = _ by unfold putFI; rw [hf]; simp [ht])
      have hbe := bytes_ne ht
      clear hf hlen
      go_enter Tryz.func52, Tryz.ntmps52
      go_wp2_with (first
        | (go_at_call 58; refine hkdc.mono ?_; rintro e w1 ⟨rfl, hb1⟩; have hs1 := hb1.size; clear hkdc)
        | (go_at_call 17; refine (hidc w1).mono ?_; rintro e w2 ⟨rfl, hb2⟩; have HB2 : Below w.heap.size w w2 := hb1.trans (hb2.mono hs1); have hown2 := ownsBel HOWN.out HB2 (Nat.le_refl _); clear hb1 hb2 hidc)
        | (at_lookup; refine wpList_lookup_own_ok _ rfl _ _ 75 rfl 3 35 law Tryz.underlying75 itemElem (zeroPI _) (.agg [.lit (.int .i64 0), .lit (.string [])]) [] (itemElem_mk 0 ByteArray.empty) b nn D rfl hown2 _ _ rfl hkey ?_; intro v ps hv; rw [hat] at hv; obtain rfl := itemElem_is hv; rw [hhas]))
      go_ret2
      have e9 := HR.out
      rw [e9]
      exact ⟨rfl, ⟨D, nn, by omega, hown2.alloc _, HMP.out⟩, grTr (grBelow HB2) (World.grownBy_alloc _ _ _)⟩
  | none =>
    rw [hf] at hhas
    simp only [Option.isSome_none] at hhas
    by_cases h7 : 700 ≤ sz
    · have HR : Hid (putFI f sz (n : Int) s = (0, 3, f)) := (show putFI f sz (n : Int) s = _ by unfold putFI; rw [hf]; simp [h7])
      have h7b : decide ((700 : Int) ≤ (sz : Int)) = true := by simp; omega
      have h7c : (700 : Int) ≤ (sz : Int) := by omega
      clear hf
      go_enter Tryz.func52, Tryz.ntmps52
      go_wp2_with (first
        | (go_at_call 58; refine hkdc.mono ?_; rintro e w1 ⟨rfl, hb1⟩; have hs1 := hb1.size; clear hkdc)
        | (go_at_call 17; refine (hidc w1).mono ?_; rintro e w2 ⟨rfl, hb2⟩; have HB2 : Below w.heap.size w w2 := hb1.trans (hb2.mono hs1); have hown2 := ownsBel HOWN.out HB2 (Nat.le_refl _); clear hb1 hb2 hidc)
        | (at_lookup; refine wpList_lookup_own_ok _ rfl _ _ 75 rfl 3 35 law Tryz.underlying75 itemElem (zeroPI _) (.agg [.lit (.int .i64 0), .lit (.string [])]) [] (itemElem_mk 0 ByteArray.empty) b nn D rfl hown2 _ _ rfl hkey ?_; intro v ps hv; obtain ⟨m9, t9, rfl, _⟩ := itemElem_inv hv; rw [hhas]; have hl9 := hlen (w2.alloc (.cells #[.int .i64 m9, .string t9] 35)) (HB2.alloc HB2.size _)))
      go_ret2
      have e9 := HR.out
      rw [e9]
      exact ⟨rfl, ⟨D, nn, by omega, hown2.alloc _, HMP.out⟩, grTr (grBelow HB2) (World.grownBy_alloc _ _ _)⟩
    · have HR : Hid (putFI f sz (n : Int) s = ((n : Int), 1, fun q => if q = (n : Int) then some s else f q)) := (show putFI f sz (n : Int) s = _ by unfold putFI; rw [hf]; simp [h7])
      have h7c : ¬ (700 : Int) ≤ (sz : Int) := by omega
      clear hf
      go_enter Tryz.func52, Tryz.ntmps52
      go_wp2_with (first
        | (go_at_call 58; refine hkdc.mono ?_; rintro e w1 ⟨rfl, hb1⟩; have hs1 := hb1.size; clear hkdc)
        | (go_at_call 17; refine (hidc w1).mono ?_; rintro e w2 ⟨rfl, hb2⟩; have HB2 : Below w.heap.size w w2 := hb1.trans (hb2.mono hs1); have hown2 := ownsBel HOWN.out HB2 (Nat.le_refl _); clear hb1 hb2 hidc)
        | (at_lookup; refine wpList_lookup_own_ok _ rfl _ _ 75 rfl 3 35 law Tryz.underlying75 itemElem (zeroPI _) (.agg [.lit (.int .i64 0), .lit (.string [])]) [] (itemElem_mk 0 ByteArray.empty) b nn D rfl hown2 _ _ rfl hkey ?_; intro v ps hv; obtain ⟨m9, t9, rfl, _⟩ := itemElem_inv hv; rw [hhas]; have hl9 := hlen (w2.alloc (.cells #[.int .i64 m9, .string t9] 35)) (HB2.alloc HB2.size _))
        | (at_mapUpdate; refine wpList_mapUpdate_own _ rfl _ _ _ 75 rfl 3 35 law Tryz.underlying75 itemElem b nn D rfl (hown2.alloc _) (by unfold maxLen; omega) _ _ _ rfl rfl hkey _ [] (itemElem_mk (n : Int) s) ?_; intro w3 o3 g3))
      go_ret2
      have e9 := HR.out
      rw [e9]
      exact ⟨rfl, ⟨_, nn + 1, Nat.le_refl _, o3, mapP_put (law.key hkey) hown2.isMap HMP.out⟩, grTr (grTr (grBelow HB2) (World.grownBy_alloc _ _ _)) g3⟩

set_option maxHeartbeats 1000000 in
set_option maxRecDepth 100000 in
theorem put_none (b : Nat) (s : ByteArray) (w : World) (hg : TypeCell w) (hs : s.size ≤ 1048576) (hkd : kd s = 0) :
    Calls Tryz.prog 52 #[.map (some b), .string s] w fun e w' => e = .returned (.tuple #[.int .i64 0, .int .i64 4]) ∧ Below w.heap.size w w' := by
  have hkdc := kdI s 0 w hs hkd hg
  clear hkd
  go_enter Tryz.func52, Tryz.ntmps52
  go_wp2_with (go_at_call 58; refine hkdc.mono ?_; rintro e w1 ⟨rfl, hb1⟩; clear hkdc)
  go_ret2
  exact ⟨rfl, hb1⟩

set_option maxHeartbeats 4000000 in
set_option maxRecDepth 100000 in
theorem polPut_impl (A : Option Addr) (c : Nat) (L : List PI) (s : ByteArray) (w : World) (hg : TypeCell w) (hL : RdP w.heap.size w A L) (hn : L.length ≤ 1048576) (ht : ∀ j (h : j < L.length), (L[j]).tx.size ≤ 1048576) (hs : s.size ≤ 1048576) :
    Calls Tryz.prog 10 #[.slice A L.length c, .string s] w fun e w' => PutEnd w w' (putR L s) e := by
  have hgl := hg.lt
  by_cases hk : okP L = true
  case neg =>
    have HD : Hid (putR L s = ([], 0, 4)) := (show putR L s = _ by unfold putR; rw [if_neg (fun h => hk h.1)])
    have hp := poolOf_no A c L w hg hL hn ht (by simpa using hk)
    clear hk hL ht
    go_enter Tryz.func10, Tryz.ntmps10
    go_wp2_with (go_at_call 51; refine hp.mono ?_; rintro e w1 ⟨rfl, hb1⟩; clear hp)
    go_ret3
    have e9 := HD.out
    unfold PutEnd
    rw [e9]
    exact ⟨⟨_, rfl, World.ownsRow_nil _ _ _ _⟩, hb1⟩
  case pos =>
    obtain ⟨hr, h7, _⟩ := okP_rise L hk
    have hp := poolOf_yes A c L w hg hL hn ht hk
    by_cases hkd : kd s = 0
    · have HD : Hid (putR L s = ([], 0, 4)) := (show putR L s = _ by unfold putR; rw [if_neg (fun h => h.2 hkd)])
      have HG : Hid (TypeCell w) := hg
      have HK : Hid (kd s = 0) := hkd
      clear hk hL ht hkd hr hg
      go_enter Tryz.func10, Tryz.ntmps10
      go_wp2_with (first
        | (go_at_call 51; refine hp.mono ?_; rintro e w1 ⟨b, D, rfl, hown, hM, hsz, hbw, hb1⟩; clear hp hM hsz hown)
        | (go_at_call 52; refine (put_none b s w1 (HG.out.below hb1 hgl) hs HK.out).mono ?_; rintro e w2 ⟨rfl, hb2⟩))
      go_ret3
      have e9 := HD.out
      unfold PutEnd
      rw [e9]
      exact ⟨⟨_, rfl, World.ownsRow_nil _ _ _ _⟩, hb1.trans (hb2.mono hb1.size)⟩
    · have HD : Hid (putR L s = putPool L (idOfN s.data.toList) s) := (show putR L s = _ by unfold putR; rw [if_pos ⟨hk, hkd⟩])
      obtain ⟨h1, h2, h3, h4⟩ := putPool_ok L (idOfN s.data.toList) s hr h7
      have HP : Hid (RiseP (putPool L (idOfN s.data.toList) s).1 ∧ (∀ q, findP (putPool L (idOfN s.data.toList) s).1 q = (putFI (findP L) L.length (idOfN s.data.toList) s).2.2 q)) := ⟨h1, h2⟩
      have HE : Hid ((putPool L (idOfN s.data.toList) s).2.1 = (putFI (findP L) L.length (idOfN s.data.toList) s).1 ∧ (putPool L (idOfN s.data.toList) s).2.2 = (putFI (findP L) L.length (idOfN s.data.toList) s).2.1) := ⟨h3, h4⟩
      have hcm := putFI_came (findP L) L.length (idOfN s.data.toList) s
      have HG : Hid (TypeCell w) := hg
      have HK : Hid (kd s ≠ 0) := hkd
      obtain ⟨r1, e1⟩ : ∃ r1, (putFI (findP L) L.length (idOfN s.data.toList) s).1 = r1 := ⟨_, rfl⟩
      obtain ⟨r2, e2⟩ : ∃ r2, (putFI (findP L) L.length (idOfN s.data.toList) s).2.1 = r2 := ⟨_, rfl⟩
      rw [e2] at hcm
      have HR : Hid ((putFI (findP L) L.length (idOfN s.data.toList) s).1 = r1 ∧ (putFI (findP L) L.length (idOfN s.data.toList) s).2.1 = r2) := ⟨e1, e2⟩
      clear hk hL ht hkd hr hg h1 h2 h3 h4 e1 e2
      go_enter Tryz.func10, Tryz.ntmps10
      go_wp2_with (first
        | (go_at_call 51; refine hp.mono ?_; rintro e w1 ⟨b, D, rfl, hown, hM, hsz, hbw, hb1⟩; have hs1 := hb1.size; have HM : Hid (mapP D (findP L) ∧ Maps.size D = L.length) := ⟨hM, hsz⟩; have HO : Hid (w1.ownsMap Tryz.prog 3 itemElem b L.length D) := hown; clear hp hM hsz hown)
        | (go_at_call 52; refine (put_any b L.length D (findP L) s w1 (HG.out.below hb1 hgl) HO.out HM.out.1 (by omega) hs HK.out).mono ?_; rw [HM.out.2, HR.out.1, HR.out.2]; rintro e w2 ⟨rfl, ⟨D', n', hn', hown', hM'⟩, hgr⟩; have hs2 := hgr.size; have HB2 : Below w.heap.size w w2 := hb1.grown hgr hs1 (fun k e => by cases e; exact hbw); have HO2 : Hid (w2.ownsMap Tryz.prog 3 itemElem b n' D') := hown'; have HM2 : Hid (mapP D' (putFI (findP L) L.length (idOfN s.data.toList) s).2.2) := hM'; clear hown' hM' hgr)
        | (go_at_call 53; refine (items_any b n' D' _ w2 HO2.out HM2.out (by omega)).mono ?_; rintro e w3 ⟨v3, xs, rfl, hrx, hfx, hox, hb3⟩))
      go_ret3
      have e9 := HD.out
      obtain rfl : xs = (putPool L (idOfN s.data.toList) s).1 := riseP_eq xs _ hrx HP.out.1 (fun q => (hfx q).trans (HP.out.2 q).symm)
      unfold PutEnd
      rw [e9, HE.out.1, HE.out.2, HR.out.1, HR.out.2]
      exact ⟨⟨_, rfl, ownsUpP hox HB2.size⟩, HB2.trans (hb3.mono HB2.size)⟩
end Go.Proofs.YthfffpdkmoclbaaGreatDoor.W
