/-
  Of every code: of a drawn request the program and the specification say alike whether it lays a version down, by its kind alone: just a put, a reset and a copy do; they say alike whether it is ok; the code reads as it did. No condition.
-/
import Derived.Test.YtcdkjlbpcihcjaaRows
import Derived.Test.YtcdkjlbpcihcjaaReqK1
import Derived.Test.YtcdkjlbpcihcjaaReqK9
import Derived.Test.YtcdkjlbpcihcjaaReqK10
import Derived.Test.YtcdkjlbpcihcjaaReqK0
import Derived.WalkKit
import Derived.ProofKit
import Derived.OpenShut
import Derived.ShutString
import Derived.ChangeOld
import Derived.Below
namespace Go.Proofs.Ytcdkjlbpcihcjaa.fnReqWrites
open Go.ChangeShapes Go.WideShapes Go.ChangeAt Go.RowKit
open Go.ChangeMaps (open_string shut_string)
set_option linter.unusedVariables false

theorem own : ownKnob Try.prog.godebug = none := by kernel_rfl
theorem laidOut : laidOutB Try.prog = true := by kernel_rfl

/-- WHAT THE WALK IS TOLD OF A SLICE OF INTEGERS THAT CAME IN: it is nil; or it leads to a row of 'cap' cells, the numbers 'zs' (the first 'len' are its elements, the rest its spare room), each fitting its kind. -/
def IsRow (k : IntKind) (w : World) (a : Option Addr) (len cap : Nat) (zs : List Int) : Prop :=
  (a = none ∧ len = 0 ∧ cap = 0 ∧ zs = []) ∨
  ∃ x, a = some x ∧ len ≤ cap ∧ cap ≤ maxLen ∧ zs.length = cap ∧ (∀ i, i < zs.length → w.cell? (x.add i) = some (.int k (zs.getD i 0))) ∧ ∀ n ∈ zs, (Lit.int k n).wf = true

open Go.Proofs.Ytcdkjlbpcihcjaa.W Go.Proofs.Ytcdkjlbpcihcjaa.M in
set_option maxRecDepth 100000 in
set_option maxHeartbeats 8000000 in
theorem walk (a0 : Option Addr) (len0 cap0 : Nat) (z0 : List Int) (w : World) (w0 : IsRow .u8 w a0 len0 cap0 z0) :
    Calls Try.prog 3 #[.slice a0 len0 cap0] w fun e w' => e = .returned (.bool true) ∧ Below w.heap.size w w' := by
  have HS : Hid (W.Src w a0 len0 cap0 (fun i => z0.getD i 0)) := src_of w a0 len0 cap0 z0 w0
  clear w0
  by_cases h : 1048576 < len0
  · go_enter Try.func3, Try.ntmps3
    go_wp2
    go_ret
    exact ⟨rfl, Below.refl _ _⟩
  go_enter Try.func3, Try.ntmps3
  go_upto_region 6 with (first
    | (go_at_call 4; refine (drawReqWrites_any _ _ _ _ _ HS.out).mono ?_; rintro e w1 ⟨x, A, c, rfl, rd, hz, B⟩; clear HS; have hs1 := B.size; have HR : Hid (RdE w1.heap.size w1 A x.edits) := rd; have HZ : Hid (szQ x ≤ 1048576) := hz; have HB : Hid (Below w.heap.size w w1) := B; clear rd hz B; simp only [RQ.at_])
    | (go_at_call 5; refine (writes_impl x (.slice A x.edits.length c) _).mono ?_; rintro e w2 ⟨rfl, hb2⟩; have D2 := (atQ_new w1 x (.slice A x.edits.length c) 27).up hb2; have hs2 := hb2.size; simp only [World.size_alloc] at hs2; have HB2 : Hid (Below w.heap.size w w2) := (HB.out.alloc hs1 _).trans (hb2.mono (by simp; omega)); have HR2 : Hid (RdE w2.heap.size w2 A x.edits) := (HR.out.up ((Below.refl _ _).alloc (Nat.le_refl _) _)).up hb2; clear HB HR hb2; obtain ⟨d0, d1, d2, d3, d4, d5, d6, d7, d8, d9, d10, d11, d12, d13, d14⟩ := D2.all))
  rename ∀ (a : Act) (w : World), Code.wp _ Code.ret _ a w → _ => hK
  have DK := atQ_new w2 ⟨0, 0, 0, x.kind, ⟨#[]⟩, ⟨#[]⟩, 0, 0, [], ⟨0, ⟨#[]⟩, ⟨#[]⟩, false⟩, 0, ⟨#[]⟩⟩ (.slice none 0 0) 27
  have B3 := (Below.refl w2.heap.size w2).alloc (Nat.le_refl _) (.cells (RQ.at_ ⟨0, 0, 0, x.kind, ⟨#[]⟩, ⟨#[]⟩, 0, 0, [], ⟨0, ⟨#[]⟩, ⟨#[]⟩, false⟩, 0, ⟨#[]⟩⟩ (.slice none 0 0)) 27)
  have D3 := D2.up B3
  have HB3 := hidOf (HB2.out.trans (B3.mono (by omega)))
  have HR3 := hidOf (HR2.out.up B3)
  clear HB2 HR2 D2 B3 d0 d1 d2 d3 d4 d5 d6 d7 d8 d9 d10 d11 d12 d13 d14
  simp only [RQ.at_] at DK D3 HB3 HR3
  generalize w2.alloc _ = wr at *
  by_cases hk : x.kind = 1
  · skip
    have hw : wrB x = true := by simp [wrB, hk]
    rw [hw, hk]
    rw [hk] at DK; exact ReqK1 (by kernel_rfl) hk rfl HR3 HZ D3 DK (fun a' w' h54 hdf h2 hb => hK _ _ (wp_ret (bodyPost_ret (v := .bool true) (by simp [results, Try.results3, go_sem, h2]) hdf ⟨rfl, HB3.out.trans (hb.mono HB3.out.size)⟩)))
  by_cases hk : x.kind = 9
  · skip
    have hw : wrB x = true := by simp [wrB, hk]
    rw [hw, hk]
    rw [hk] at DK; exact ReqK9 (by kernel_rfl) hk rfl HR3 HZ D3 DK (fun a' w' h54 hdf h2 hb => hK _ _ (wp_ret (bodyPost_ret (v := .bool true) (by simp [results, Try.results3, go_sem, h2]) hdf ⟨rfl, HB3.out.trans (hb.mono HB3.out.size)⟩)))
  by_cases hk : x.kind = 10
  · skip
    have hw : wrB x = true := by simp [wrB, hk]
    rw [hw, hk]
    rw [hk] at DK; exact ReqK10 (by kernel_rfl) hk rfl HR3 HZ D3 DK (fun a' w' h54 hdf h2 hb => hK _ _ (wp_ret (bodyPost_ret (v := .bool true) (by simp [results, Try.results3, go_sem, h2]) hdf ⟨rfl, HB3.out.trans (hb.mono HB3.out.size)⟩)))
  have hw : wrB x = false := by simp [wrB, *]
  rw [hw]
  exact ReqK0 (by kernel_rfl) rfl (by assumption) (by assumption) (by assumption) rfl HR3 HZ D3 DK (fun a' w' h54 hdf h2 hb => hK _ _ (wp_ret (bodyPost_ret (v := .bool true) (by simp [results, Try.results3, go_sem, h2]) hdf ⟨rfl, HB3.out.trans (hb.mono HB3.out.size)⟩)))

set_option maxRecDepth 100000 in
theorem lifted (os : Os) (started : os.Started) (H : Type) (enc : TypeId × Value → H) :
    ReturnsInHanded {} Try.checked os 3 .any (Rows.fnReqWritesSpec.pre6 enc Try.prog Try.f3 Rows.fnReqWritesRow.domain false) (Rows.fnReqWritesSpec.post enc Try.prog Try.f3 false true false false) := by
  refine returnsInHanded_of_change (C := Try.checked) own started (by kernel_rfl) Try.func3
    (ChangeSpec.witness6 (enc := enc) (C := Try.checked) false ⟨#[], #[.slice none 0 0], []⟩ 8 (by kernel_rfl) (by kernel_rfl) (by kernel_rfl) (by kernel_rfl)) ?_
  intro W base args ds gs before hval0 hW hcnd _
  have hval : ∀ (j : Nat) t v, Try.f3.params[j]? = some t → args[j]? = some v → Value.okWide Try.prog W .any base t v := hval0
  have hW' := hW
  obtain ⟨p, q, hA0, hV, rfl, hfz, hnd⟩ := hW
  have hA : DataW.TrodAll enc Try.prog W 0 (fun _ => true) true Try.f3.params.toList args.toList ds p := hA0
  rw [Try.params3] at hA hval
  obtain ⟨v0, vs0, d0, ds0, p0, q0, hargs, rfl, rfl, h0, r0⟩ := trodAll_cons hA
  obtain ⟨rfl, rfl, rfl⟩ := trodAll_nil r0
  obtain rfl : args = #[v0] := by cases args; simp_all
  obtain ⟨rfl, rfl⟩ := trodVars_none hV
  obtain ⟨a0, len0, cap0, rfl⟩ := okWide_slice Try.underlying22 (hval 0 22 v0 rfl rfl)
  have k0 := h0
  have lt0 : ∀ x ∈ p0, x.block < W.heap.size := by obtain ⟨m, hm⟩ := k0; exact DataW.trod_lt m _ _ _ hm
  obtain ⟨z0, w0⟩ : ∃ zs, IsRow .u8 W a0 len0 cap0 zs := by
    obtain ⟨fuel, hf⟩ := h0
    rcases open_ints Try.underlying22 Try.underlying5 (by kernel_rfl) hf with ⟨hcs, _⟩ | ⟨x, l, c, zs, hcs, _, hl, hm, hz, _, hcell, hwz⟩
    · simp [Value.cells] at hcs
      obtain ⟨rfl, rfl, rfl⟩ := hcs
      exact ⟨[], .inl ⟨rfl, rfl, rfl, rfl⟩⟩
    · simp [Value.cells] at hcs
      obtain ⟨rfl, rfl, rfl⟩ := hcs
      exact ⟨zs, .inr ⟨_, rfl, hl, hm, by simpa using hz, hcell, hwz⟩⟩
  clear hA0 hval0
  refine (walk a0 len0 cap0 z0 W w0).mono fun e W' ⟨he, bel⟩ => ?_
  subst he
  exact ⟨_, rfl, _, _, _, [], _, [], hW', trodAll_mk1 (shut_bool Try.underlying4 _), (trodAll_cons_mk (Below.trod laidOut (by kernel_rfl) (of_decide_eq_true (by kernel_rfl)) k0 bel lt0) trodAll_mk0), rfl, bel.frame _, fun h => by cases h⟩

theorem over : Rows.fnReqWritesRow.holds Try.pinned (OpenSpec.ofChange Rows.fnReqWritesSpec) :=
  OpenClaim.holds_of_wide 3 Try.f3 rfl rfl rfl rfl rfl rfl rfl ⟨rfl, rfl, rfl, rfl, rfl⟩ rfl rfl rfl rfl rfl (by kernel_rfl) Try.func3 (by kernel_rfl)
    (of_decide_eq_true (by kernel_rfl)) (by unfold Func.isWrapper; first | (rw [if_pos (by decide +kernel)]; kernel_rfl) | (rw [if_neg (by decide +kernel)]; exact ⟨rfl, rfl⟩))
    (fun os started H enc _ => lifted os started H enc)

theorem proved : Rows.FnReqWritesSaid := over
#print axioms proved
end Go.Proofs.Ytcdkjlbpcihcjaa.fnReqWrites
