/-
  At every request ReqOk of the program answers as the specification's ReqOk; the request reads as it did. No condition.
-/
import Derived.Test.YtjlpainieppfnaaRows
import Derived.Test.YtjlpainieppfnaaOpenQ1
import Derived.Test.YtjlpainieppfnaaWalkToQ
import Derived.Test.YtjlpainieppfnaaWalkEqQ
import Derived.Deep.RegionWith
import Derived.Test.YtjlpainieppfnaaWalkReqO
import Derived.Test.YtjlpainieppfnaaWalkReqQ
import Derived.WalkKit
import Derived.ProofKit
import Derived.OpenShut
import Derived.ShutString
import Derived.Below
import Derived.Carry
namespace Go.Proofs.Ytjlpainieppfnaa.fnExactReqOk
open Go.ChangeShapes Go.WideShapes Go.ChangeAt Go.RowKit
open Go.ChangeMaps (open_string shut_string)
set_option linter.unusedVariables false

theorem own : ownKnob Try.prog.godebug = none := by kernel_rfl
theorem laidOut : laidOutB Try.prog = true := by kernel_rfl

open Go.Proofs.Ytjlpainieppfnaa.W in
set_option maxRecDepth 100000 in
set_option maxHeartbeats 8000000 in
theorem walk (x0 : Go.Proofs.Ytjlpainieppfnaa.W.RQ) (A0 : Option Addr) (c0 : Nat) (y0 : Go.Proofs.Ytjlpainieppfnaa.W.fitQ x0) (w : World) (rd0 : Go.Proofs.Ytjlpainieppfnaa.W.RdE w.heap.size w A0 x0.edits) :
    Calls Try.prog 4 #[.agg (x0.at_ (.slice A0 x0.edits.length c0))] w fun e w' => e = .returned (.bool true) ∧ Below w.heap.size w w' := by
  have hn : szQ x0 ≤ 1048576 → x0.edits.length ≤ 1048576 := fun h => by unfold szQ at h; omega
  generalize hk : okQ x0 = k
  have HK : Hid (okQ x0 = k) := hk
  clear hk
  have tk1 : True := trivial
  have tk2 : True := trivial
  have B := (Below.refl w.heap.size w).alloc (Nat.le_refl _) (.cells (x0.at_ (.slice A0 x0.edits.length c0)) 34)
  have D := atQ_new w x0 (.slice A0 x0.edits.length c0) 34
  replace rd0 := rd0.up B
  obtain ⟨d0, d1, d2, d3, d4, d5, d6, d7, d8, d9, d10, d11, d12, d13, d14⟩ := D.all
  obtain ⟨w0, hw0⟩ : ∃ w0, w.alloc (.cells (x0.at_ (.slice A0 x0.edits.length c0)) 34) = w0 := ⟨_, rfl⟩
  rw [hw0] at B D rd0 d0 d1 d2 d3 d4 d5 d6 d7 d8 d9 d10 d11 d12 d13 d14
  simp only [RQ.at_] at hw0 ⊢
  go_enter Try.func4, Try.ntmps4
  go_wp2_with (first
    | (go_at_call 11; refine (szQ_any x0 A0 c0 _ rd0 y0).mono ?_; rintro e w1 ⟨⟨r, rfl, hr | ⟨hr, hz⟩⟩, hb⟩; rotate_left; clear d0 d1 d2 d3 d4 d5 d6 d7 d8 d9 d10 d11 d12 d13 d14; replace D := D.up hb; replace rd0 := rd0.up hb; replace B := B.trans (hb.mono B.size); clear hb; obtain ⟨d0, d1, d2, d3, d4, d5, d6, d7, d8, d9, d10, d11, d12, d13, d14⟩ := D.all)
    | (go_at_call 12; have _t := tk1; refine (toQ_any x0 A0 c0 _ rd0 (hn hz)).mono ?_; simp only [RQ.at_]; rintro e w2 ⟨⟨v, rfl, o1⟩, hb⟩; clear _t tk1 d0 d1 d2 d3 d4 d5 d6 d7 d8 d9 d10 d11 d12 d13 d14; obtain ⟨A1, c1, rfl, rd1⟩ := rdE_of_own o1; clear o1; replace D := D.up hb; replace rd0 := rd0.up hb; replace B := B.trans (hb.mono B.size); clear hb; obtain ⟨d0, d1, d2, d3, d4, d5, d6, d7, d8, d9, d10, d11, d12, d13, d14⟩ := D.all)
    | (go_at_call 10; refine (reqOk_spec x0 A1 c1 _ rd1 hz).mono ?_; rw [HK.out]; rintro e w3 ⟨rfl, hb⟩; clear d0 d1 d2 d3 d4 d5 d6 d7 d8 d9 d10 d11 d12 d13 d14 rd1; replace D := D.up hb; replace rd0 := rd0.up hb; replace B := B.trans (hb.mono B.size); clear hb; obtain ⟨d0, d1, d2, d3, d4, d5, d6, d7, d8, d9, d10, d11, d12, d13, d14⟩ := D.all)
    | (go_at_call 12; have _t := tk2; refine (toQ_any x0 A0 c0 _ rd0 (hn hz)).mono ?_; simp only [RQ.at_]; rintro e w4 ⟨⟨v, rfl, o2⟩, hb⟩; clear _t tk2 d0 d1 d2 d3 d4 d5 d6 d7 d8 d9 d10 d11 d12 d13 d14; obtain ⟨A2, c2, rfl, rd2⟩ := rdE_of_own o2; clear o2; replace D := D.up hb; replace rd0 := rd0.up hb; replace B := B.trans (hb.mono B.size); clear hb; obtain ⟨d0, d1, d2, d3, d4, d5, d6, d7, d8, d9, d10, d11, d12, d13, d14⟩ := D.all)
    | (go_at_call 9; have ba := (Below.refl w4.heap.size w4).alloc (Nat.le_refl _) (.cells (x0.at_ (.slice A2 x0.edits.length c2)) 27); replace rd2 := rd2.up ba; refine (reqOk_impl x0 A2 c2 _ rd2 hz).mono ?_; rw [HK.out]; rintro e w5 ⟨rfl, hb⟩; clear d0 d1 d2 d3 d4 d5 d6 d7 d8 d9 d10 d11 d12 d13 d14; have E := (atQ_new w4 x0 (.slice A2 x0.edits.length c2) 27).up hb; replace rd2 := rd2.up hb; replace hb := ba.trans (hb.mono ba.size); clear ba; replace D := D.up hb; replace rd0 := rd0.up hb; replace B := B.trans (hb.mono B.size); clear hb; obtain ⟨d0, d1, d2, d3, d4, d5, d6, d7, d8, d9, d10, d11, d12, d13, d14⟩ := D.all; obtain ⟨e0, e1, e2, e3, e4, e5, e6, e7, e8, e9, e10, e11, e12, e13, e14⟩ := E.all))
  · replace D := D.up (Below.refl _ _).drew
    replace E := E.up (Below.refl _ _).drew
    replace rd0 := rd0.up (Below.refl _ _).drew
    replace rd2 := rd2.up (Below.refl _ _).drew
    replace B := B.drew
    clear d0 d1 d2 d3 d4 d5 d6 d7 d8 d9 d10 d11 d12 d13 d14 e0 e1 e2 e3 e4 e5 e6 e7 e8 e9 e10 e11 e12 e13 e14
    obtain ⟨d0, d1, d2, d3, d4, d5, d6, d7, d8, d9, d10, d11, d12, d13, d14⟩ := D.all
    obtain ⟨e0, e1, e2, e3, e4, e5, e6, e7, e8, e9, e10, e11, e12, e13, e14⟩ := E.all
    go_region_with (first
      | (go_at_call 12; refine (toQ_any x0 A0 c0 _ rd0 (hn hz)).mono ?_; simp only [RQ.at_]; rintro e w6 ⟨⟨v, rfl, o3⟩, hb⟩; clear d0 d1 d2 d3 d4 d5 d6 d7 d8 d9 d10 d11 d12 d13 d14 e0 e1 e2 e3 e4 e5 e6 e7 e8 e9 e10 e11 e12 e13 e14; obtain ⟨A3, c3, rfl, rd3⟩ := rdE_of_own o3; clear o3; replace E := E.up hb; replace D := D.up hb; replace rd2 := rd2.up hb; replace B := B.trans (hb.mono B.size); clear hb rd0; obtain ⟨d0, d1, d2, d3, d4, d5, d6, d7, d8, d9, d10, d11, d12, d13, d14⟩ := D.all; obtain ⟨e0, e1, e2, e3, e4, e5, e6, e7, e8, e9, e10, e11, e12, e13, e14⟩ := E.all)
      | (go_at_call 13; refine (eqQ_same x0 A2 A3 c2 c3 _ rd2 rd3 (hn hz)).mono ?_; rintro e w7 ⟨rfl, hb⟩; clear d0 d1 d2 d3 d4 d5 d6 d7 d8 d9 d10 d11 d12 d13 d14 e0 e1 e2 e3 e4 e5 e6 e7 e8 e9 e10 e11 e12 e13 e14; replace B := B.trans (hb.mono B.size); clear hb))
    all_goals
      go_wp2
      go_ret
      exact ⟨rfl, B⟩
  all_goals
    go_ret
    exact ⟨rfl, B.trans (hb.mono B.size)⟩

set_option maxRecDepth 100000 in
theorem lifted (os : Os) (started : os.Started) (H : Type) (enc : TypeId × Value → H) :
    ReturnsInHanded {} Try.checked os 4 .any (Rows.fnExactReqOkSpec.pre6 enc Try.prog Try.f4 Rows.fnExactReqOkRow.domain false) (Rows.fnExactReqOkSpec.post enc Try.prog Try.f4 false true false false) := by
  refine returnsInHanded_of_change (C := Try.checked) own started (by kernel_rfl) Try.func4
    (ChangeSpec.witness6 (enc := enc) (C := Try.checked) false ⟨#[], #[.agg #[.int .i64 0, .int .i64 0, .int .i64 0, .int .i64 0, .string ByteArray.empty, .string ByteArray.empty, .int .i64 0, .int .i64 0, .slice none 0 0, .int .i64 0, .string ByteArray.empty, .string ByteArray.empty, .bool false, .int .i64 0, .string ByteArray.empty]], []⟩ 8 (by kernel_rfl) (by kernel_rfl) (by kernel_rfl) (by kernel_rfl)) ?_
  intro W base args ds gs before hval0 hW hcnd _
  have hval : ∀ (j : Nat) t v, Try.f4.params[j]? = some t → args[j]? = some v → Value.okWide Try.prog W .any base t v := hval0
  have hW' := hW
  obtain ⟨p, q, hA0, hV, rfl, hfz, hnd⟩ := hW
  have hA : DataW.TrodAll enc Try.prog W 0 (fun _ => true) true Try.f4.params.toList args.toList ds p := hA0
  rw [Try.params4] at hA hval
  obtain ⟨v0, vs0, d0, ds0, p0, q0, hargs, rfl, rfl, h0, r0⟩ := trodAll_cons hA
  obtain ⟨rfl, rfl, rfl⟩ := trodAll_nil r0
  obtain rfl : args = #[v0] := by cases args; simp_all
  obtain ⟨rfl, rfl⟩ := trodVars_none hV
  have k0 := h0
  obtain ⟨x0, A0, c0, rfl, rd0, y0⟩ := Go.Proofs.Ytjlpainieppfnaa.W.open_q h0 (okWide_struct Try.underlying34 (hval 0 34 v0 rfl rfl))
  clear hA0 hval0
  simp only [List.append_nil] at hW'
  refine (walk x0 A0 c0 y0 W rd0).mono fun e W' ⟨he, hg⟩ => ?_
  subst he
  exact ⟨_, rfl, _, _, _, [], _, [], hW', (trodAll_cons_mk (shut_bool Try.underlying4 _) trodAll_mk0), (trodAll_cons_mk (Below.trod laidOut (by kernel_rfl) (of_decide_eq_true (by kernel_rfl)) k0 hg (fun x hx => hW'.lt x (by first | (simp [hx]; done) | simp at hx))) trodAll_mk0), rfl, hg.frame _, fun h => by cases h⟩

theorem over : Rows.fnExactReqOkRow.holds Try.pinned (OpenSpec.ofChange Rows.fnExactReqOkSpec) :=
  OpenClaim.holds_of_wide 4 Try.f4 rfl rfl rfl rfl rfl rfl rfl ⟨rfl, rfl, rfl, rfl, rfl⟩ rfl rfl rfl rfl rfl (by kernel_rfl) Try.func4 (by kernel_rfl)
    (of_decide_eq_true (by kernel_rfl)) (by unfold Func.isWrapper; first | (rw [if_pos (by decide +kernel)]; kernel_rfl) | (rw [if_neg (by decide +kernel)]; exact ⟨rfl, rfl⟩))
    (fun os started H enc _ => lifted os started H enc)

theorem proved : Rows.FnExactReqOkSaid :=
  over
#print axioms proved
end Go.Proofs.Ytjlpainieppfnaa.fnExactReqOk
