
/-
  impl.fileMap.files: the files that a map has, in the order of their paths, in new memory. Maps of at most 1048576 entries.
-/
import Derived.Test.YtbceegonaomblaaWalkTurO
namespace Go.Proofs.Ytbceegonaomblaa.W
open Go.RowKit Go.Shelf Go.Proofs.Ytbceegonaomblaa.M Go.Maps Go.Sort Go.MapKept Go.ChangeMaps
attribute [local go_sem] Oper.semAt_some
set_option linter.unusedVariables false

theorem kpF_alloc (W : World) (o : Obj) : KpF W (W.alloc o) := ⟨by simp, fun k o' hk _ => (Below.heap_alloc _ _ _ (Array.getElem?_eq_some_iff.1 hk).1).trans hk⟩
theorem kpF_appended {W w1 : World} {n₀ B k : Nat} {v v' : Value} {xs : List Value} {tmp : Obj} (hv : Boxed W B 23 v) (hrow : W.ownsRow n₀ 51 2 v k xs) (hgrow : (W.alloc tmp).grownBy w1 v.ownBlock) : KpF W (w1.setCell ⟨B, 0, none⟩ v') := by
  refine ⟨?_, fun q o hq ho => ?_⟩
  · have := hgrow.size; simp at this; simp [World.setCell]; omega
  have hlt : q < W.heap.size := (Array.getElem?_eq_some_iff.1 hq).1
  have h1 : q ≠ B := fun e => by
    subst e
    rw [show W.heap[q]? = _ from hv] at hq
    obtain rfl := Option.some.inj hq
    simp [keptO] at ho
  have h2 : some q ≠ v.ownBlock := fun e => by
    rcases hrow.2 with ⟨h3, _⟩ | ⟨g, cap, cur, h3, _, h4, _⟩
    · rw [h3] at e; simp [Value.ownBlock] at e
    · rw [h3] at e
      obtain rfl : q = g := by simpa [Value.ownBlock] using e
      rw [h4] at hq
      obtain rfl := Option.some.inj hq
      simp [keptO] at ho
  refine (Below.heap_setCell _ _ _ q (fun e => h1 e)).trans ((hgrow.block q (by simp; omega) h2).trans ((Below.heap_alloc _ _ _ hlt).trans hq))

set_option maxHeartbeats 2000000 in
set_option maxRecDepth 100000 in
theorem files_any (b nn : Nat) (D : DataW Unit) (f : ByteArray → Option ByteArray) (w : World) (hown : w.ownsMap Try.prog 9 fileElem b nn D) (hf : mapF D f) (hn : nn ≤ 1048576) :
    Calls Try.prog 41 #[.map (some b)] w fun e W' => ∃ v xs, e = .returned v ∧ RiseF xs ∧ (∀ q, findF xs q = f q) ∧ W'.ownsRow w.heap.size 51 2 v xs.length (cellsF xs) ∧ Below w.heap.size w W' := by
  obtain ⟨i0, hi, hz0, hz1, hz2⟩ := info_parts infoF
  have hsz := hown.size_le
  have hrun := hown.len Try.underlying61 3
  have hbl := hown.lt
  refine (callsIn_wide (n := 7)).1 ?_
  refine callsIn_of_wp_marks Try.func41 rfl trivial ?_ rfl
  simp only [Try.ntmps41, List.size_toArray, List.length_cons, List.length_nil, Nat.reduceAdd, Nat.reduceSub, Array.replicate_succ, Array.replicate_zero, List.push_toArray, List.append_toArray, List.nil_append, List.cons_append]
  gi_wp2_with (first
    | (gi_at_make; refine wpListIn_make_own _ rfl _ _ 23 rfl w.heap.size 51 i0 (.agg #[.string ByteArray.empty, .string ByteArray.empty]) 2 Try.underlying23 hi hz0 hz1 .i64 .i64 _ (Maps.size D) rfl rfl rfl (by rw [hz2]; omega) (by unfold maxLen; omega) (Nat.le_refl _) ?_; intro w1 hown1 hgrow1)
    | (gi_at_call 59; refine (callsIn_wide.2 (inOrder_any b _)).mono ?_; rintro e w' ⟨rfl, rfl⟩)
    | (refine ⟨trivial, ?_⟩; gi_at_call 59; refine (callsIn_wide.2 (inOrder_any b _)).mono ?_; rintro e w' ⟨rfl, rfl⟩))
  have hs1 := hgrow1.size
  have bO := Boxed.new w1 23 (.slice (some ⟨w.heap.size, 0, none⟩) 0 (Maps.size D))
  have HB0 : Below w.heap.size w ((w1.alloc (.cells #[.slice (some ⟨w.heap.size, 0, none⟩) 0 (Maps.size D)] 23)).alloc (.cells #[.map (some b)] 60)) := (((Below.refl _ w).grown hgrow1 (Nat.le_refl _) (fun k e => by cases e)).alloc hs1 _).alloc (by simp; omega) _
  have bO2 := bO.alloc (.cells #[.map (some b)] 60)
  have hrow0 := (hown1.alloc (.cells #[.slice (some ⟨w.heap.size, 0, none⟩) 0 (Maps.size D)] 23)).alloc (.cells #[.map (some b)] 60)
  have hc0 : ((w1.alloc (.cells #[.slice (some ⟨w.heap.size, 0, none⟩) 0 (Maps.size D)] 23)).alloc (.cells #[.map (some b)] 60)).heap[w1.heap.size + 1]? = some (.cells #[.map (some b)] 60 (0, 0)) := by
    have := World.alloc_heap_new (w1.alloc (.cells #[.slice (some ⟨w.heap.size, 0, none⟩) 0 (Maps.size D)] 23)) (.cells #[.map (some b)] 60)
    rwa [World.size_alloc] at this
  have hown0 : ((w1.alloc (.cells #[.slice (some ⟨w.heap.size, 0, none⟩) 0 (Maps.size D)] 23)).alloc (.cells #[.map (some b)] 60)).ownsMap Try.prog 9 fileElem b nn D := by
    obtain ⟨es, clock, hb, Ft, hs, hD⟩ := hown
    exact ⟨es, clock, (HB0.block b hbl).trans hb, Ft, hs, hD⟩
  have hsz0 : ((w1.alloc (.cells #[.slice (some ⟨w.heap.size, 0, none⟩) 0 (Maps.size D)] 23)).alloc (.cells #[.map (some b)] 60)).heap.size = w1.heap.size + 2 := by simp
  obtain ⟨W0, hW0⟩ : ∃ W0, W0 = (w1.alloc (.cells #[.slice (some ⟨w.heap.size, 0, none⟩) 0 (Maps.size D)] 23)).alloc (.cells #[.map (some b)] 60) := ⟨_, rfl⟩
  rw [← hW0] at HB0 bO2 hrow0 hc0 hown0 hsz0 ⊢
  clear hW0
  refine wpIn_rangeFunc_ownH (α := TF) (encs := encsF) (Kp := KpF) rfl (by omega) (gf := 67) (lb := #[.pointer (some ⟨w1.heap.size + 1, 0, none⟩)]) rfl trivial (enters_of Try.func67 (by kernel_rfl) rfl)
    (order_stops (w1.heap.size + 1) b nn D f W0 (by omega) hc0 hown0 hf hn) kpF_t (fun W l o o' _ h1 h2 h3 => kpF_b W l o o' h1 h2 h3) (Below.refl _ _) (fun _ => rfl)
    (fun pre W => (∃ v, Boxed W w1.heap.size 23 v ∧ W.ownsRow w.heap.size 51 2 v pre.length (cellsF pre) ∧ True) ∧ Below w.heap.size w W)
    (fun _ _ _ => False)
    (OwnFrom.and (Own.from (holdsRow_own w.heap.size w1.heap.size 23 51 2 (fun pre : List TF => pre.length) (fun pre => cellsF pre) (fun _ _ => True)) _) (ownFrom_below (Nat.le_refl _) (by omega)))
    (fun _ _ _ _ _ hs _ _ => hs)
    ⟨⟨_, bO2, hrow0, trivial⟩, HB0⟩
    (fun x a' W => ∃ Bx, W.heap[Bx]? = some (.cells #[.string x.pa, .string x.by_] 51 (0, 0)) ∧ a' = { tmps := #[.map (some b), undef, .slice none 0 0, .pointer (some ⟨w1.heap.size, 0, none⟩), undef, .pointer (some ⟨Bx, 0, none⟩), .map (some b), .int .i64 (Maps.size D), .slice (some ⟨w.heap.size, 0, none⟩) 0 (Maps.size D), .map (some b), .func (.func 67) #[] #[.pointer (some ⟨w1.heap.size + 1, 0, none⟩)], .string x.pa, .agg #[.string x.pa, .string x.by_], undef, undef, undef, undef, undef], defers := [] })
    (fun x a' _ X Y row hs hg hrw => by
      obtain ⟨Bx, hx, ha⟩ := hs
      refine ⟨Bx, (hg.block Bx (Array.getElem?_eq_some_iff.1 hx).1 (fun e => ?_)).trans hx, ha⟩
      obtain ⟨_, o, ho, hcl⟩ := hrw Bx e.symm
      rw [hx] at ho; cases ho; cases hcl) ?assign ?body ?done ?stop
  case assign =>
    rintro l pre x W K ⟨⟨v, hv, hrow, _⟩, hB⟩ hK
    dsimp only [encsF]
    gi_wp2
    exact hK _ _ ((KeepsOthers.alloc _ _).from _) (kpF_alloc _ _) ⟨⟨v, hv.alloc _, hrow.alloc _, trivial⟩, hB.alloc hB.size _⟩ ⟨W.heap.size, World.alloc_heap_new W _, rfl⟩
  case body =>
    rintro l pre x a' W hl ⟨r, hr⟩ ⟨⟨v, hv, hrow, _⟩, hB⟩ ⟨Bx, hx, rfl⟩ hlt
    have hc := hv.cell
    have hx1 : W.cell? ⟨Bx, 0, none⟩ = some (.string x.pa) := by simp [World.cell?, hx]
    have hx2 : W.cell? ⟨Bx, 1, none⟩ = some (.string x.by_) := by simp [World.cell?, hx]
    gi_wp2_with (gi_at_builtin; refine wpListIn_append_own _ rfl _ _ 23 rfl w.heap.size 51 i0 (.agg #[.string ByteArray.empty, .string ByteArray.empty]) 2 32 Try.underlying23 hi hz0 hz1 hz2 rfl (by decide) _ _ _ rfl (hrow.alloc _) ⟨W.heap.size, 0, none⟩ 1 1 [.string x.pa, .string x.by_] rfl rfl (cells_new W #[.string x.pa, .string x.by_] 51) (by simp [Value.oneCell']) (by unfold maxLen; omega) (by omega) (by have := hB.size; simp; omega) ?_; intro v' w3 hown' hgrow _; obtain ⟨g', cap', rfl⟩ := ownsRow_succ hown'; obtain ⟨hv1, hv2, hr2, hk2, hb2⟩ := hv.appended (by decide) hrow hB.size hs1 hown' hgrow; have hkp := kpF_appended (v' := .slice (some ⟨g', 0, none⟩) (pre.length + 1) cap') hv hrow hgrow; have hc1 := hv1.cell; have hf1 := hv1.frozen)
    exact ⟨hk2.from _, hkp, ⟨_, hv2, by rw [cellsF_snoc, List.length_append]; exact hr2, trivial⟩, hB.trans hb2⟩
  case done =>
    rintro D' ys W hD hS ⟨⟨v, hv, hrow, _⟩, hB⟩ hK
    have hc := hv.cell
    gi_wp2
    refine ⟨by simp, .inl ⟨_, _, rfl, run_takeDeferred hK, ?_⟩⟩
    exact ⟨_, results_tmp rfl _ _ _, v, ys, rfl, hS.1, hS.2, ownsRow_putObj hrow _ hK rfl, hB.trans (belowK_b (w := w) (Nat.le_refl _) W D' _ _ (by omega) hK rfl rfl)⟩
  case stop =>
    rintro D' c pre W _ _ h _
    exact h.elim
end Go.Proofs.Ytbceegonaomblaa.W
