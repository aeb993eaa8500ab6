/-
  At every list of files and every text TreFind of the program answers as the specification's TreFind; the list reads as it did. No condition.
-/
import Derived.Test.YtckpjpipmmbhhaaRows
import Derived.Test.YtckpjpipmmbhhaaOpenF
import Derived.Test.YtckpjpipmmbhhaaWalkTreG
import Derived.WalkKit
import Derived.ProofKit
import Derived.OpenShut
import Derived.ShutString
import Derived.Below
import Derived.Carry
namespace Go.Proofs.Ytckpjpipmmbhhaa.fnExactTreFind
open Go.ChangeShapes Go.WideShapes Go.ChangeAt Go.RowKit
open Go.ChangeMaps (open_string shut_string)
set_option linter.unusedVariables false

theorem own : ownKnob Try.prog.godebug = none := by kernel_rfl
theorem laidOut : laidOutB Try.prog = true := by kernel_rfl

open Go.Proofs.Ytckpjpipmmbhhaa.W in
set_option maxHeartbeats 1000000 in
theorem walk (A0 : Option Addr) (c0 : Nat) (L0 : List Go.Proofs.Ytckpjpipmmbhhaa.W.TF) (a1 : ByteArray) (w1 : a1.size ≤ maxLen) (w : World) (rd0 : Go.Proofs.Ytckpjpipmmbhhaa.W.RdF w.heap.size w A0 L0) (n0 : L0.length ≤ maxLen) (t0 : ∀ j (h : j < L0.length), (L0[j]).pa.size ≤ maxLen ∧ (L0[j]).by_.size ≤ maxLen) :
    Calls Try.prog 8 #[.slice A0 L0.length c0, .string a1] w fun e w' => e = .returned (.bool true) ∧ Below w.heap.size w w' := by
  by_cases hbig : 1048576 < a1.size
  · unfold maxLen at w1
    go_enter Try.func8, Try.ntmps8
    go_wp2
    go_ret
    exact ⟨rfl, Below.refl _ _⟩
  have tk1 : True := trivial
  have tk2 : True := trivial
  have HV : Hid (findV L0 a1 = _) := rfl
  obtain ⟨x, y, hxy⟩ : ∃ x y, findV L0 a1 = .tuple #[.string x, .bool y] := by unfold findV; split <;> exact ⟨_, _, rfl⟩
  clear HV
  go_enter Try.func8, Try.ntmps8
  go_wp2_with (first
    | (go_at_call 30; refine (szFS_any A0 c0 L0 _ rd0 n0 t0).mono ?_; rintro e wA ⟨⟨r, rfl, hr | ⟨hr, hz⟩⟩, B⟩; rotate_left; replace rd0 := rd0.up B)
    | (go_at_call 32; have _t := tk1; refine (toFS_any A0 c0 L0 _ rd0 (by omega)).mono ?_; rintro e w2 ⟨⟨v, rfl, o1⟩, hb⟩; clear _t tk1; obtain ⟨A1, c1, rfl, rd1⟩ := rdF_of_own o1; clear o1; replace rd0 := rd0.up hb; replace B := B.trans (hb.mono B.size); clear hb)
    | (go_at_call 31; refine (treFind_spec A1 c1 L0 a1 _ rd1 (by omega)).mono ?_; rw [hxy]; rintro e w3 ⟨rfl, rfl⟩)
    | (go_at_call 32; have _t := tk2; refine (toFS_any A0 c0 L0 _ rd0 (by omega)).mono ?_; rintro e w4 ⟨⟨v, rfl, o2⟩, hb⟩; clear _t tk2; obtain ⟨A2, c2, rfl, rd2⟩ := rdF_of_own o2; clear o2; replace rd0 := rd0.up hb; replace B := B.trans (hb.mono B.size); clear hb)
    | (go_at_call 33; refine (treFind_impl A2 c2 L0 a1 _ rd2 (by omega)).mono ?_; rw [hxy]; rintro e w5 ⟨rfl, hb⟩; replace rd0 := rd0.up hb; replace rd2 := rd2.up hb; replace B := B.trans (hb.mono B.size); clear hb)
    | (go_at_call 32; refine (toFS_any A0 c0 L0 _ rd0 (by omega)).mono ?_; rintro e w6 ⟨⟨v, rfl, o3⟩, hb⟩; obtain ⟨A3, c3, rfl, rd3⟩ := rdF_of_own o3; clear o3; replace rd2 := rd2.up hb; replace B := B.trans (hb.mono B.size); clear hb)
    | (go_at_call 34; refine (eqFS_same A2 A3 c2 c3 L0 _ rd2 rd3 n0).mono ?_; rintro e w7 ⟨rfl, hb⟩; replace B := B.trans (hb.mono B.size); clear hb))
  all_goals
    go_ret
    exact ⟨rfl, B⟩

set_option maxRecDepth 100000 in
theorem lifted (os : Os) (started : os.Started) (H : Type) (enc : TypeId × Value → H) :
    ReturnsInHanded {} Try.checked os 8 .any (Rows.fnExactTreFindSpec.pre6 enc Try.prog Try.f8 Rows.fnExactTreFindRow.domain false) (Rows.fnExactTreFindSpec.post enc Try.prog Try.f8 false true false false) := by
  refine returnsInHanded_of_change (C := Try.checked) own started (by kernel_rfl) Try.func8
    (ChangeSpec.witness6 (enc := enc) (C := Try.checked) false ⟨#[], #[.slice none 0 0, .string ByteArray.empty], []⟩ 8 (by kernel_rfl) (by kernel_rfl) (by kernel_rfl) (by kernel_rfl)) ?_
  intro W base args ds gs before hval0 hW hcnd _
  have hval : ∀ (j : Nat) t v, Try.f8.params[j]? = some t → args[j]? = some v → Value.okWide Try.prog W .any base t v := hval0
  have hW' := hW
  obtain ⟨p, q, hA0, hV, rfl, hfz, hnd⟩ := hW
  have hA : DataW.TrodAll enc Try.prog W 0 (fun _ => true) true Try.f8.params.toList args.toList ds p := hA0
  rw [Try.params8] at hA hval
  obtain ⟨v0, vs0, d0, ds0, p0, q0, hargs, rfl, rfl, h0, r0⟩ := trodAll_cons hA
  obtain ⟨v1, vs1, d1, ds1, p1, q1, rfl, rfl, rfl, h1, r1⟩ := trodAll_cons r0
  obtain ⟨rfl, rfl, rfl⟩ := trodAll_nil r1
  obtain rfl : args = #[v0, v1] := by cases args; simp_all
  obtain ⟨rfl, rfl⟩ := trodVars_none hV
  have k0 := h0
  have k1 := h1
  obtain ⟨A0, c0, L0, rfl, rd0, n0, t0⟩ := Go.Proofs.Ytckpjpipmmbhhaa.W.open_F h0 (okWide_slice Try.underlying45 (hval 0 45 v0 rfl rfl))
  obtain ⟨a1, rfl, rfl, rfl, w1⟩ := open_string Try.underlying9 (hval 1 9 v1 rfl rfl) h1
  clear hA0 hval0
  simp only [List.append_nil] at hW'
  refine (walk A0 c0 L0 a1 w1 W rd0 n0 t0).mono fun e W' ⟨he, hg⟩ => ?_
  subst he
  exact ⟨_, rfl, _, _, _, [], _, [], hW', (trodAll_cons_mk (shut_bool Try.underlying4 _) trodAll_mk0), (trodAll_cons_mk (Below.trod laidOut (by kernel_rfl) (of_decide_eq_true (by kernel_rfl)) k0 hg (fun x hx => hW'.lt x (by first | (simp [hx]; done) | simp at hx))) (trodAll_cons_mk (Below.trod laidOut (by kernel_rfl) (of_decide_eq_true (by kernel_rfl)) k1 hg (fun x hx => hW'.lt x (by first | (simp [hx]; done) | simp at hx))) trodAll_mk0)), rfl, hg.frame _, fun h => by cases h⟩

theorem over : Rows.fnExactTreFindRow.holds Try.pinned (OpenSpec.ofChange Rows.fnExactTreFindSpec) :=
  OpenClaim.holds_of_wide 8 Try.f8 rfl rfl rfl rfl rfl rfl rfl ⟨rfl, rfl, rfl, rfl, rfl⟩ rfl rfl rfl rfl rfl (by kernel_rfl) Try.func8 (by kernel_rfl)
    (of_decide_eq_true (by kernel_rfl)) (by unfold Func.isWrapper; first | (rw [if_pos (by decide +kernel)]; kernel_rfl) | (rw [if_neg (by decide +kernel)]; exact ⟨rfl, rfl⟩))
    (fun os started H enc _ => lifted os started H enc)

theorem proved : Rows.FnExactTreFindSaid :=
  over
#print axioms proved
end Go.Proofs.Ytckpjpipmmbhhaa.fnExactTreFind
