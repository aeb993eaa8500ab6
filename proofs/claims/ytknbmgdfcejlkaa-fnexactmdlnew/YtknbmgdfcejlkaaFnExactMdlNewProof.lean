/-
  At every two lists of numbers MdlNew of the program answers as the specification's MdlNew, field by field, in new memory, which nothing else holds; the lists read as they did. No condition.
-/
import Derived.Test.YtknbmgdfcejlkaaRows
import Derived.Test.YtknbmgdfcejlkaaOpenI
import Derived.Test.YtknbmgdfcejlkaaWalkMdlR
import Derived.WalkKit
import Derived.ProofKit
import Derived.OpenShut
import Derived.ShutString
import Derived.Below
import Derived.Carry
namespace Go.Proofs.Ytknbmgdfcejlkaa.fnExactMdlNew
open Go.ChangeShapes Go.WideShapes Go.ChangeAt Go.RowKit
open Go.ChangeMaps (open_string shut_string)
set_option linter.unusedVariables false

theorem own : ownKnob Try.prog.godebug = none := by kernel_rfl
theorem laidOut : laidOutB Try.prog = true := by kernel_rfl

open Go.Proofs.Ytknbmgdfcejlkaa.W in
set_option maxRecDepth 100000 in
set_option maxHeartbeats 8000000 in
theorem walk (A0 : Option Addr) (c0 : Nat) (L0 : List Int) (A1 : Option Addr) (c1 : Nat) (L1 : List Int) (w : World) (rd0 : Go.Proofs.Ytknbmgdfcejlkaa.W.RdI w.heap.size w A0 L0) (n0 : L0.length ≤ maxLen) (t0 : ∀ j (h : j < L0.length), True) (rd1 : Go.Proofs.Ytknbmgdfcejlkaa.W.RdI w.heap.size w A1 L1) (n1 : L1.length ≤ maxLen) (t1 : ∀ j (h : j < L1.length), True) :
    Calls Try.prog 3 #[.slice A0 L0.length c0, .slice A1 L1.length c1] w fun e w' => e = .returned (.bool true) ∧ Below w.heap.size w w' := by
  unfold maxLen at n0 n1
  by_cases h0 : 1048576 < L0.length
  · go_enter Try.func3, Try.ntmps3
    go_wp2
    go_ret
    exact ⟨rfl, Below.refl _ _⟩
  by_cases h1 : 1048576 < L1.length
  · go_enter Try.func3, Try.ntmps3
    go_wp2
    go_ret
    exact ⟨rfl, Below.refl _ _⟩
  have hk : L0.length ≤ 1048576 := by omega
  have ha : L1.length ≤ 1048576 := by omega
  have R0 : Hid (RdI w.heap.size w A0 L0) := rd0
  have R1 : Hid (RdI w.heap.size w A1 L1) := rd1
  obtain ⟨K', hK'⟩ : ∃ K', newK L0 L1 = K' := ⟨_, rfl⟩
  obtain ⟨U', hU'⟩ : ∃ U', newU L0 L1 = U' := ⟨_, rfl⟩
  obtain ⟨A', hA'⟩ : ∃ A', newA L0 L1 = A' := ⟨_, rfl⟩
  have lK : K'.length ≤ 1048576 := by rw [← hK']; exact newK_le _ _ hk
  have lU : U'.length ≤ 1048576 := by rw [← hU']; exact newU_le _ _ hk
  have lA : A'.length ≤ 1048576 := by rw [← hA']; exact newA_le _ _ ha
  have tk1 : True := trivial
  have tk2 : True := trivial
  have tk3 : True := trivial
  have tk4 : True := trivial
  have tk5 : True := trivial
  have tk6 : True := trivial
  have tk7 : True := trivial
  have tk8 : True := trivial
  have tk9 : True := trivial
  have tk10 : True := trivial
  have tk11 : True := trivial
  have tk12 : True := trivial
  have tk13 : True := trivial
  go_enter Try.func3, Try.ntmps3
  go_wp2_with (first
    | (go_at_call 6; have _t := tk1; clear _t tk1; refine (toIS_any A0 c0 L0 _ R0.out hk).mono ?_; rintro e w1 ⟨⟨v1, rfl, o1⟩, B⟩; clear R0)
    | (go_at_call 6; have _t := tk2; clear _t tk2; refine (toIS_any A1 c1 L1 _ (R1.out.up B) ha).mono ?_; rintro e w2 ⟨⟨v2, rfl, o2⟩, hb⟩; replace o1 := ownsUnder o1 hb (Nat.le_refl _); replace B := B.trans (hb.mono B.size); clear hb)
    | (go_at_call 5; refine (newS_of v1 v2 L0 L1 _ o1 o2 hk ha).mono ?_; rintro e w3 ⟨an, hb⟩; rw [hK', hU', hA'] at an; obtain ⟨Aa, ca, Ab, cb, Ac, cc, rfl, H0⟩ := an; have q0 := B.size; obtain ⟨s0, hs0⟩ : ∃ s0, w2.heap.size = s0 := ⟨_, rfl⟩; rw [hs0] at H0 q0; replace B := B.trans (hb.mono B.size); clear hb o1 o2; have b5 := hpNew w3 (.cells #[.slice Aa K'.length ca, .slice Ab U'.length cb, .slice Ac A'.length cc] 25); have l0 : ∀ g, blkH (.slice Aa K'.length ca) (.slice Ab U'.length cb) (.slice Ac A'.length cc) g → g < w3.heap.size + 1 := (fun g q => by have := H0.lt q; omega); have q1 := B.size; replace B := B.alloc q1 (.cells #[.slice Aa K'.length ca, .slice Ab U'.length cb, .slice Ac A'.length cc] 25); replace H0 := H0.under ((Below.refl _ _).alloc (Nat.le_refl _) (.cells #[.slice Aa K'.length ca, .slice Ab U'.length cb, .slice Ac A'.length cc] 25)); have Bz := B.size; simp only [World.size_alloc] at Bz)
    | (go_at_call 6; have _t := tk3; clear _t tk3; refine (toIS_any A0 c0 L0 _ (rd0.up B) hk).mono ?_; rintro e w4 ⟨⟨x, rfl, ox⟩, hb⟩; simp only [World.size_alloc] at ox; have z4 := hb.size; simp only [World.size_alloc] at z4; replace b5 := hpBelow b5 hb (by simp); replace H0 := H0.under hb; replace B := B.trans (hb.mono B.size); clear hb Bz)
    | (go_at_call 6; have _t := tk4; clear _t tk4; refine (toIS_any A1 c1 L1 _ (rd1.up B) ha).mono ?_; rintro e w5 ⟨⟨y, rfl, oy⟩, hb⟩; have z5 := hb.size; have lx : ∀ g, x.ownBlock = some g → g < w4.heap.size := ownsLt ox; replace ox := ownsUnder ox hb (Nat.le_refl _); replace b5 := hpBelow b5 hb (by omega); replace H0 := H0.under hb; replace B := B.trans (hb.mono B.size); clear hb)
    | (go_at_call 7; have _t := tk5; clear _t tk5; refine (newI_of x y L0 L1 _ ox oy hk ha).mono ?_; rintro e w6 ⟨an, hb⟩; rw [hK', hU', hA'] at an; obtain ⟨Ga, da, Gb, db, Gc, dc, rfl, HG⟩ := an; have z6 := hb.size; have ly : ∀ g, y.ownBlock = some g → g < w5.heap.size := ownsLt oy; replace ox := ownsUnder ox hb (Nat.le_refl _); replace oy := ownsUnder oy hb (Nat.le_refl _); replace b5 := hpBelow b5 hb (by omega); replace H0 := H0.under hb; replace B := B.trans (hb.mono B.size); clear hb; have al := (Below.refl w6.heap.size w6).alloc (Nat.le_refl _) (.cells #[.slice Ga K'.length da, .slice Gb U'.length db, .slice Gc A'.length dc] 25); have Z : LS w (w6.alloc (.cells #[.slice Ga K'.length da, .slice Gb U'.length db, .slice Gc A'.length dc] 25)) w3.heap.size w6.heap.size s0 (w3.heap.size + 1) w4.heap.size w5.heap.size (.slice Aa K'.length ca) (.slice Ab U'.length cb) (.slice Ac A'.length cc) (.slice Ga K'.length da) (.slice Gb U'.length db) (.slice Gc A'.length dc) x y K' U' A' K' U' A' L0 L1 := ⟨B.trans (al.mono B.size), hpBelow b5 al (by omega), hpNew w6 _, H0.under al, HG.under al, ownsUnder ox al (Nat.le_refl _), ownsUnder oy al (Nat.le_refl _), l0, lx, ly, by omega⟩; clear B b5 H0 HG ox oy l0 lx ly al; have e0 := hpCell (k := 0) Z.b5 rfl; have e1 := hpCell (k := 1) Z.b5 rfl; have e2 := hpCell (k := 2) Z.b5 rfl; have f0 := hpCell (k := 0) Z.b8 rfl; have f1 := hpCell (k := 1) Z.b8 rfl; have f2 := hpCell (k := 2) Z.b8 rfl)
    | (go_at_call 8; have _t := tk6; clear _t tk6; refine (eqHS_same _ _ _ _ _ _ K' U' A' _ Z.hg Z.h0 lK lU lA).mono ?_; rintro e w7 ⟨rfl, hb⟩; clear e0 e1 e2 f0 f1 f2; replace Z := Z.under hb; clear hb; have e0 := hpCell (k := 0) Z.b5 rfl; have e1 := hpCell (k := 1) Z.b5 rfl; have e2 := hpCell (k := 2) Z.b5 rfl; have f0 := hpCell (k := 0) Z.b8 rfl; have f1 := hpCell (k := 1) Z.b8 rfl; have f2 := hpCell (k := 2) Z.b8 rfl)
    | (go_at_call 6; have _t := tk7; clear _t tk7; refine (toIS_any A0 c0 L0 _ (rd0.up Z.B) hk).mono ?_; rintro e w8 ⟨⟨v8, rfl, o8⟩, hb⟩; clear e0 e1 e2 f0 f1 f2; replace Z := Z.under hb; clear hb; have e0 := hpCell (k := 0) Z.b5 rfl; have e1 := hpCell (k := 1) Z.b5 rfl; have e2 := hpCell (k := 2) Z.b5 rfl; have f0 := hpCell (k := 0) Z.b8 rfl; have f1 := hpCell (k := 1) Z.b8 rfl; have f2 := hpCell (k := 2) Z.b8 rfl)
    | (go_at_call 9; have _t := tk8; clear _t tk8; refine (eqI_own x v8 L0 _ Z.hx o8 hk).mono ?_; rintro e w9 ⟨rfl, hb⟩; clear o8; clear e0 e1 e2 f0 f1 f2; replace Z := Z.under hb; clear hb; have e0 := hpCell (k := 0) Z.b5 rfl; have e1 := hpCell (k := 1) Z.b5 rfl; have e2 := hpCell (k := 2) Z.b5 rfl; have f0 := hpCell (k := 0) Z.b8 rfl; have f1 := hpCell (k := 1) Z.b8 rfl; have f2 := hpCell (k := 2) Z.b8 rfl)
    | (go_at_call 6; have _t := tk9; clear _t tk9; refine (toIS_any A1 c1 L1 _ (rd1.up Z.B) ha).mono ?_; rintro e w10 ⟨⟨v10, rfl, o10⟩, hb⟩; clear e0 e1 e2 f0 f1 f2; replace Z := Z.under hb; clear hb; have e0 := hpCell (k := 0) Z.b5 rfl; have e1 := hpCell (k := 1) Z.b5 rfl; have e2 := hpCell (k := 2) Z.b5 rfl; have f0 := hpCell (k := 0) Z.b8 rfl; have f1 := hpCell (k := 1) Z.b8 rfl; have f2 := hpCell (k := 2) Z.b8 rfl)
    | (go_at_call 9; refine (eqI_own y v10 L1 _ Z.hy o10 ha).mono ?_; rintro e w11 ⟨rfl, hb⟩; clear o10; clear e0 e1 e2 f0 f1 f2; replace Z := Z.under hb; clear hb; have e0 := hpCell (k := 0) Z.b5 rfl; have e1 := hpCell (k := 1) Z.b5 rfl; have e2 := hpCell (k := 2) Z.b5 rfl; have f0 := hpCell (k := 0) Z.b8 rfl; have f1 := hpCell (k := 1) Z.b8 rfl; have f2 := hpCell (k := 2) Z.b8 rfl)
    | (go_at_call 10; have _t := tk10; clear _t tk10; refine (markIk_own x 1 L0 _ Z.hx (by omega)).mono ?_; rintro e w12 ⟨rfl, hr, hg⟩; clear e0 e1 e2 f0 f1 f2; replace Z := Z.markx (XK' := mkI 1 L0.length) (by rw [mkI_length]; exact hr) hg; clear hr hg; have e0 := hpCell (k := 0) Z.b5 rfl; have e1 := hpCell (k := 1) Z.b5 rfl; have e2 := hpCell (k := 2) Z.b5 rfl; have f0 := hpCell (k := 0) Z.b8 rfl; have f1 := hpCell (k := 1) Z.b8 rfl; have f2 := hpCell (k := 2) Z.b8 rfl)
    | (go_at_call 10; refine (markIk_own y (1 + L0.length) L1 _ Z.hy (by omega)).mono ?_; rintro e w13 ⟨rfl, hr, hg⟩; clear e0 e1 e2 f0 f1 f2; replace Z := Z.marky (XA' := mkI (1 + L0.length) L1.length) (by rw [mkI_length]; exact hr) hg; clear hr hg; have e0 := hpCell (k := 0) Z.b5 rfl; have e1 := hpCell (k := 1) Z.b5 rfl; have e2 := hpCell (k := 2) Z.b5 rfl; have f0 := hpCell (k := 0) Z.b8 rfl; have f1 := hpCell (k := 1) Z.b8 rfl; have f2 := hpCell (k := 2) Z.b8 rfl)
    | (go_at_call 8; have _t := tk11; clear _t tk11; refine (eqHS_same _ _ _ _ _ _ K' U' A' _ Z.hg Z.h0 lK lU lA).mono ?_; rintro e w14 ⟨rfl, hb⟩; clear e0 e1 e2 f0 f1 f2; replace Z := Z.under hb; clear hb; have e0 := hpCell (k := 0) Z.b5 rfl; have e1 := hpCell (k := 1) Z.b5 rfl; have e2 := hpCell (k := 2) Z.b5 rfl; have f0 := hpCell (k := 0) Z.b8 rfl; have f1 := hpCell (k := 1) Z.b8 rfl; have f2 := hpCell (k := 2) Z.b8 rfl)
    | (go_at_call 11; refine (markHS_own' _ _ _ K' U' A' _ Z.hg lK lU lA).mono ?_; rintro e w15 ⟨rfl, hr, hB, hN⟩; clear e0 e1 e2 f0 f1 f2; replace Z := Z.markg hr hB hN; clear hr hB hN; have e0 := hpCell (k := 0) Z.b5 rfl; have e1 := hpCell (k := 1) Z.b5 rfl; have e2 := hpCell (k := 2) Z.b5 rfl; have f0 := hpCell (k := 0) Z.b8 rfl; have f1 := hpCell (k := 1) Z.b8 rfl; have f2 := hpCell (k := 2) Z.b8 rfl)
    | (go_at_call 12; have _t := tk12; clear _t tk12; refine (heldHS_own' _ _ _ K'.length U'.length A'.length _ Z.hg lK lU lA).mono ?_; rintro e w16 ⟨rfl, hb⟩; clear e0 e1 e2 f0 f1 f2; replace Z := Z.under hb; clear hb; have e0 := hpCell (k := 0) Z.b5 rfl; have e1 := hpCell (k := 1) Z.b5 rfl; have e2 := hpCell (k := 2) Z.b5 rfl; have f0 := hpCell (k := 0) Z.b8 rfl; have f1 := hpCell (k := 1) Z.b8 rfl; have f2 := hpCell (k := 2) Z.b8 rfl)
    | (go_at_call 6; have _t := tk13; clear _t tk13; refine (toIS_any A0 c0 L0 _ (rd0.up Z.B) hk).mono ?_; rintro e w17 ⟨⟨v17, rfl, o17⟩, hb⟩; clear e0 e1 e2 f0 f1 f2; replace Z := Z.under hb; clear hb; have e0 := hpCell (k := 0) Z.b5 rfl; have e1 := hpCell (k := 1) Z.b5 rfl; have e2 := hpCell (k := 2) Z.b5 rfl; have f0 := hpCell (k := 0) Z.b8 rfl; have f1 := hpCell (k := 1) Z.b8 rfl; have f2 := hpCell (k := 2) Z.b8 rfl)
    | (go_at_call 6; refine (toIS_any A1 c1 L1 _ (rd1.up Z.B) ha).mono ?_; rintro e w18 ⟨⟨v18, rfl, o18⟩, hb⟩; replace o17 := ownsUnder o17 hb (Nat.le_refl _); clear e0 e1 e2 f0 f1 f2; replace Z := Z.under hb; clear hb; have e0 := hpCell (k := 0) Z.b5 rfl; have e1 := hpCell (k := 1) Z.b5 rfl; have e2 := hpCell (k := 2) Z.b5 rfl; have f0 := hpCell (k := 0) Z.b8 rfl; have f1 := hpCell (k := 1) Z.b8 rfl; have f2 := hpCell (k := 2) Z.b8 rfl)
    | (go_at_call 7; refine (newI_of v17 v18 L0 L1 _ o17 o18 hk ha).mono ?_; rintro e w19 ⟨an, hb⟩; rw [hK', hU', hA'] at an; obtain ⟨Fa, fa, Fb, fb, Fc, fc, rfl, HF⟩ := an; clear o17 o18; clear e0 e1 e2 f0 f1 f2; replace Z := Z.under hb; clear hb; have e0 := hpCell (k := 0) Z.b5 rfl; have e1 := hpCell (k := 1) Z.b5 rfl; have e2 := hpCell (k := 2) Z.b5 rfl; have f0 := hpCell (k := 0) Z.b8 rfl; have f1 := hpCell (k := 1) Z.b8 rfl; have f2 := hpCell (k := 2) Z.b8 rfl; have al := (Below.refl w19.heap.size w19).alloc (Nat.le_refl _) (.cells #[.slice Fa K'.length fa, .slice Fb U'.length fb, .slice Fc A'.length fc] 25); replace HF := HF.under al; clear e0 e1 e2 f0 f1 f2; replace Z := Z.under al; clear al; have e0 := hpCell (k := 0) Z.b5 rfl; have e1 := hpCell (k := 1) Z.b5 rfl; have e2 := hpCell (k := 2) Z.b5 rfl; have f0 := hpCell (k := 0) Z.b8 rfl; have f1 := hpCell (k := 1) Z.b8 rfl; have f2 := hpCell (k := 2) Z.b8 rfl)
    | (go_at_call 8; refine (eqHS_same _ _ _ _ _ _ K' U' A' _ HF Z.h0 lK lU lA).mono ?_; rintro e w20 ⟨rfl, hb⟩; clear HF; clear e0 e1 e2 f0 f1 f2; replace Z := Z.under hb; clear hb; have e0 := hpCell (k := 0) Z.b5 rfl; have e1 := hpCell (k := 1) Z.b5 rfl; have e2 := hpCell (k := 2) Z.b5 rfl; have f0 := hpCell (k := 0) Z.b8 rfl; have f1 := hpCell (k := 1) Z.b8 rfl; have f2 := hpCell (k := 2) Z.b8 rfl)
    | (go_at_call 12; refine (heldHS_own' _ _ _ K'.length U'.length A'.length _ Z.hg lK lU lA).mono ?_; rintro e w21 ⟨rfl, hb⟩; clear e0 e1 e2 f0 f1 f2; replace Z := Z.under hb; clear hb; have e0 := hpCell (k := 0) Z.b5 rfl; have e1 := hpCell (k := 1) Z.b5 rfl; have e2 := hpCell (k := 2) Z.b5 rfl; have f0 := hpCell (k := 0) Z.b8 rfl; have f1 := hpCell (k := 1) Z.b8 rfl; have f2 := hpCell (k := 2) Z.b8 rfl))
  all_goals
    go_ret
    exact ⟨rfl, Z.B⟩

set_option maxRecDepth 100000 in
theorem lifted (os : Os) (started : os.Started) (H : Type) (enc : TypeId × Value → H) :
    ReturnsInHanded {} Try.checked os 3 .any (Rows.fnExactMdlNewSpec.pre6 enc Try.prog Try.f3 Rows.fnExactMdlNewRow.domain false) (Rows.fnExactMdlNewSpec.post enc Try.prog Try.f3 false true false false) := by
  refine returnsInHanded_of_change (C := Try.checked) own started (by kernel_rfl) Try.func3
    (ChangeSpec.witness6 (enc := enc) (C := Try.checked) false ⟨#[], #[.slice none 0 0, .slice none 0 0], []⟩ 8 (by kernel_rfl) (by kernel_rfl) (by kernel_rfl) (by kernel_rfl)) ?_
  intro W base args ds gs before hval0 hW hcnd _
  have hval : ∀ (j : Nat) t v, Try.f3.params[j]? = some t → args[j]? = some v → Value.okWide Try.prog W .any base t v := hval0
  have hW' := hW
  obtain ⟨p, q, hA0, hV, rfl, hfz, hnd⟩ := hW
  have hA : DataW.TrodAll enc Try.prog W 0 (fun _ => true) true Try.f3.params.toList args.toList ds p := hA0
  rw [Try.params3] at hA hval
  obtain ⟨v0, vs0, d0, ds0, p0, q0, hargs, rfl, rfl, h0, r0⟩ := trodAll_cons hA
  obtain ⟨v1, vs1, d1, ds1, p1, q1, rfl, rfl, rfl, h1, r1⟩ := trodAll_cons r0
  obtain ⟨rfl, rfl, rfl⟩ := trodAll_nil r1
  obtain rfl : args = #[v0, v1] := by cases args; simp_all
  obtain ⟨rfl, rfl⟩ := trodVars_none hV
  have k0 := h0
  have k1 := h1
  obtain ⟨A0, c0, L0, rfl, rd0, n0, t0⟩ := Go.Proofs.Ytknbmgdfcejlkaa.W.open_I h0 (okWide_slice Try.underlying22 (hval 0 22 v0 rfl rfl))
  obtain ⟨A1, c1, L1, rfl, rd1, n1, t1⟩ := Go.Proofs.Ytknbmgdfcejlkaa.W.open_I h1 (okWide_slice Try.underlying22 (hval 1 22 v1 rfl rfl))
  clear hA0 hval0
  simp only [List.append_nil] at hW'
  refine (walk A0 c0 L0 A1 c1 L1 W rd0 n0 t0 rd1 n1 t1).mono fun e W' ⟨he, hg⟩ => ?_
  subst he
  exact ⟨_, rfl, _, _, _, [], _, [], hW', (trodAll_cons_mk (shut_bool Try.underlying4 _) trodAll_mk0), (trodAll_cons_mk (Below.trod laidOut (by kernel_rfl) (of_decide_eq_true (by kernel_rfl)) k0 hg (fun x hx => hW'.lt x (by first | (simp [hx]; done) | simp at hx))) (trodAll_cons_mk (Below.trod laidOut (by kernel_rfl) (of_decide_eq_true (by kernel_rfl)) k1 hg (fun x hx => hW'.lt x (by first | (simp [hx]; done) | simp at hx))) trodAll_mk0)), rfl, hg.frame _, fun h => by cases h⟩

theorem over : Rows.fnExactMdlNewRow.holds Try.pinned (OpenSpec.ofChange Rows.fnExactMdlNewSpec) :=
  OpenClaim.holds_of_wide 3 Try.f3 rfl rfl rfl rfl rfl rfl rfl ⟨rfl, rfl, rfl, rfl, rfl⟩ rfl rfl rfl rfl rfl (by kernel_rfl) Try.func3 (by kernel_rfl)
    (of_decide_eq_true (by kernel_rfl)) (by unfold Func.isWrapper; first | (rw [if_pos (by decide +kernel)]; kernel_rfl) | (rw [if_neg (by decide +kernel)]; exact ⟨rfl, rfl⟩))
    (fun os started H enc _ => lifted os started H enc)

theorem proved : Rows.FnExactMdlNewSaid :=
  over
#print axioms proved
end Go.Proofs.Ytknbmgdfcejlkaa.fnExactMdlNew
