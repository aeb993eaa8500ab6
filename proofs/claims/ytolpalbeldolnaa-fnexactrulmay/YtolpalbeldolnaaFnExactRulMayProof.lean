/-
  At every list of rules, user, ref, path and right RulMay of the program answers as the specification's RulMay; the list reads as it did. No condition.
-/
import Derived.Test.YtolpalbeldolnaaRows
import Derived.Test.YtolpalbeldolnaaOpenR
import Derived.Test.YtolpalbeldolnaaWalkRulS
import Derived.Test.YtolpalbeldolnaaWalkRulI
import Derived.WalkKit
import Derived.ProofKit
import Derived.OpenShut
import Derived.ShutString
import Derived.Below
import Derived.Carry
namespace Go.Proofs.Ytolpalbeldolnaa.fnExactRulMay
open Go.ChangeShapes Go.WideShapes Go.ChangeAt Go.RowKit
open Go.ChangeMaps (open_string shut_string)
set_option linter.unusedVariables false

theorem own : ownKnob Try.prog.godebug = none := by kernel_rfl
theorem laidOut : laidOutB Try.prog = true := by kernel_rfl

open Go.Proofs.Ytolpalbeldolnaa.W in
theorem each_le (L : List RR) (j : Nat) (h : j < L.length) : (L[j]).ref.size ≤ szR L ∧ (L[j]).path.size ≤ szR L := by
  have h1 := szR_snoc L j h
  have h2 := szR_le L (j + 1)
  omega
open Go.Proofs.Ytolpalbeldolnaa.W in
set_option maxHeartbeats 1000000 in
theorem walk (A0 : Option Addr) (c0 : Nat) (L0 : List Go.Proofs.Ytolpalbeldolnaa.W.RR) (a1 : Int) (a2 : ByteArray) (w2 : a2.size ≤ maxLen) (a3 : ByteArray) (w3 : a3.size ≤ maxLen) (a4 : Bool) (w : World) (rd0 : Go.Proofs.Ytolpalbeldolnaa.W.RdR w.heap.size w A0 L0) (n0 : L0.length ≤ maxLen) (t0 : ∀ j (h : j < L0.length), (L0[j]).ref.size ≤ maxLen ∧ (L0[j]).path.size ≤ maxLen) :
    Calls Try.prog 5 #[.slice A0 L0.length c0, .int .i64 a1, .string a2, .string a3, .bool a4] w fun e w' => e = .returned (.bool true) ∧ Below w.heap.size w w' := by
  by_cases hbig : 1048576 < a2.size
  · unfold maxLen at w2
    go_enter Try.func5, Try.ntmps5
    go_wp2
    go_ret
    exact ⟨rfl, Below.refl _ _⟩
  by_cases hbig3 : 1048576 < a3.size
  · unfold maxLen at w3
    go_enter Try.func5, Try.ntmps5
    go_wp2
    go_ret
    exact ⟨rfl, Below.refl _ _⟩
  have ht : L0.length + szR L0 ≤ 1048576 → ∀ j (h : j < L0.length), (L0[j]).ref.size ≤ 1048576 ∧ (L0[j]).path.size ≤ 1048576 := fun hz j h => by have := each_le L0 j h; omega
  generalize hk : (L0.any fun x => mayB x a1 a2 a3 a4) = k
  have HK : Hid ((L0.any fun x => mayB x a1 a2 a3 a4) = k) := hk
  clear hk
  have tk1 : True := trivial
  have tk2 : True := trivial
  go_enter Try.func5, Try.ntmps5
  go_wp2_with (first
    | (go_at_call 13; refine (szRS_any A0 c0 L0 _ rd0 n0 t0).mono ?_; rintro e w1 ⟨⟨r, rfl, hr | ⟨hr, hz⟩⟩, B⟩; rotate_left; replace rd0 := rd0.up B)
    | (go_at_call 15; have _t := tk1; refine (toRS_any A0 c0 L0 _ rd0 (by omega)).mono ?_; rintro e w2 ⟨⟨v, rfl, o1⟩, hb⟩; clear _t tk1; obtain ⟨A1, c1, rfl, rd1⟩ := rdR_of_own o1; clear o1; replace rd0 := rd0.up hb; replace B := B.trans (hb.mono B.size); clear hb)
    | (go_at_call 18; refine (rulMay_spec A1 c1 L0 a1 a2 a3 a4 _ rd1 (by omega) (by omega) (ht hz)).mono ?_; rw [HK.out]; rintro e w3 ⟨rfl, hb⟩; replace rd0 := rd0.up hb; replace B := B.trans (hb.mono B.size); clear hb rd1)
    | (go_at_call 15; have _t := tk2; refine (toRS_any A0 c0 L0 _ rd0 (by omega)).mono ?_; rintro e w4 ⟨⟨v, rfl, o2⟩, hb⟩; clear _t tk2; obtain ⟨A2, c2, rfl, rd2⟩ := rdR_of_own o2; clear o2; replace rd0 := rd0.up hb; replace B := B.trans (hb.mono B.size); clear hb)
    | (go_at_call 19; refine (rulMay_impl A2 c2 L0 a1 a2 a3 a4 _ rd2 (by omega) (by omega) (ht hz)).mono ?_; rw [HK.out]; rintro e w5 ⟨rfl, hb⟩; replace rd0 := rd0.up hb; replace rd2 := rd2.up hb; replace B := B.trans (hb.mono B.size); clear hb)
    | (go_at_call 15; refine (toRS_any A0 c0 L0 _ rd0 (by omega)).mono ?_; rintro e w6 ⟨⟨v, rfl, o3⟩, hb⟩; obtain ⟨A3, c3, rfl, rd3⟩ := rdR_of_own o3; clear o3; replace rd2 := rd2.up hb; replace B := B.trans (hb.mono B.size); clear hb)
    | (go_at_call 17; refine (eqRS_same A2 A3 c2 c3 L0 _ rd2 rd3 n0).mono ?_; rintro e w7 ⟨rfl, hb⟩; replace B := B.trans (hb.mono B.size); clear hb))
  all_goals
    go_ret
    exact ⟨rfl, B⟩

set_option maxRecDepth 100000 in
theorem lifted (os : Os) (started : os.Started) (H : Type) (enc : TypeId × Value → H) :
    ReturnsInHanded {} Try.checked os 5 .any (Rows.fnExactRulMaySpec.pre6 enc Try.prog Try.f5 Rows.fnExactRulMayRow.domain false) (Rows.fnExactRulMaySpec.post enc Try.prog Try.f5 false true false false) := by
  refine returnsInHanded_of_change (C := Try.checked) own started (by kernel_rfl) Try.func5
    (ChangeSpec.witness6 (enc := enc) (C := Try.checked) false ⟨#[], #[.slice none 0 0, .int .i64 0, .string ByteArray.empty, .string ByteArray.empty, .bool false], []⟩ 8 (by kernel_rfl) (by kernel_rfl) (by kernel_rfl) (by kernel_rfl)) ?_
  intro W base args ds gs before hval0 hW hcnd _
  have hval : ∀ (j : Nat) t v, Try.f5.params[j]? = some t → args[j]? = some v → Value.okWide Try.prog W .any base t v := hval0
  have hW' := hW
  obtain ⟨p, q, hA0, hV, rfl, hfz, hnd⟩ := hW
  have hA : DataW.TrodAll enc Try.prog W 0 (fun _ => true) true Try.f5.params.toList args.toList ds p := hA0
  rw [Try.params5] at hA hval
  obtain ⟨v0, vs0, d0, ds0, p0, q0, hargs, rfl, rfl, h0, r0⟩ := trodAll_cons hA
  obtain ⟨v1, vs1, d1, ds1, p1, q1, rfl, rfl, rfl, h1, r1⟩ := trodAll_cons r0
  obtain ⟨v2, vs2, d2, ds2, p2, q2, rfl, rfl, rfl, h2, r2⟩ := trodAll_cons r1
  obtain ⟨v3, vs3, d3, ds3, p3, q3, rfl, rfl, rfl, h3, r3⟩ := trodAll_cons r2
  obtain ⟨v4, vs4, d4, ds4, p4, q4, rfl, rfl, rfl, h4, r4⟩ := trodAll_cons r3
  obtain ⟨rfl, rfl, rfl⟩ := trodAll_nil r4
  obtain rfl : args = #[v0, v1, v2, v3, v4] := by cases args; simp_all
  obtain ⟨rfl, rfl⟩ := trodVars_none hV
  have k0 := h0
  have k1 := h1
  have k2 := h2
  have k3 := h3
  have k4 := h4
  obtain ⟨A0, c0, L0, rfl, rd0, n0, t0⟩ := Go.Proofs.Ytolpalbeldolnaa.W.open_R h0 (okWide_slice Try.underlying29 (hval 0 29 v0 rfl rfl))
  obtain ⟨a1, rfl, rfl, rfl, w1⟩ := open_int Try.underlying3 (hval 1 3 v1 rfl rfl) h1
  obtain ⟨a2, rfl, rfl, rfl, w2⟩ := open_string Try.underlying9 (hval 2 9 v2 rfl rfl) h2
  obtain ⟨a3, rfl, rfl, rfl, w3⟩ := open_string Try.underlying9 (hval 3 9 v3 rfl rfl) h3
  obtain ⟨a4, rfl, rfl, rfl⟩ := open_bool Try.underlying4 (hval 4 4 v4 rfl rfl) h4
  clear hA0 hval0
  simp only [List.append_nil] at hW'
  refine (walk A0 c0 L0 a1 a2 w2 a3 w3 a4 W rd0 n0 t0).mono fun e W' ⟨he, hg⟩ => ?_
  subst he
  exact ⟨_, rfl, _, _, _, [], _, [], hW', (trodAll_cons_mk (shut_bool Try.underlying4 _) trodAll_mk0), (trodAll_cons_mk (Below.trod laidOut (by kernel_rfl) (of_decide_eq_true (by kernel_rfl)) k0 hg (fun x hx => hW'.lt x (by first | (simp [hx]; done) | simp at hx))) (trodAll_cons_mk (Below.trod laidOut (by kernel_rfl) (of_decide_eq_true (by kernel_rfl)) k1 hg (fun x hx => hW'.lt x (by first | (simp [hx]; done) | simp at hx))) (trodAll_cons_mk (Below.trod laidOut (by kernel_rfl) (of_decide_eq_true (by kernel_rfl)) k2 hg (fun x hx => hW'.lt x (by first | (simp [hx]; done) | simp at hx))) (trodAll_cons_mk (Below.trod laidOut (by kernel_rfl) (of_decide_eq_true (by kernel_rfl)) k3 hg (fun x hx => hW'.lt x (by first | (simp [hx]; done) | simp at hx))) (trodAll_cons_mk (Below.trod laidOut (by kernel_rfl) (of_decide_eq_true (by kernel_rfl)) k4 hg (fun x hx => hW'.lt x (by first | (simp [hx]; done) | simp at hx))) trodAll_mk0))))), rfl, hg.frame _, fun h => by cases h⟩

theorem over : Rows.fnExactRulMayRow.holds Try.pinned (OpenSpec.ofChange Rows.fnExactRulMaySpec) :=
  OpenClaim.holds_of_wide 5 Try.f5 rfl rfl rfl rfl rfl rfl rfl ⟨rfl, rfl, rfl, rfl, rfl⟩ rfl rfl rfl rfl rfl (by kernel_rfl) Try.func5 (by kernel_rfl)
    (of_decide_eq_true (by kernel_rfl)) (by unfold Func.isWrapper; first | (rw [if_pos (by decide +kernel)]; kernel_rfl) | (rw [if_neg (by decide +kernel)]; exact ⟨rfl, rfl⟩))
    (fun os started H enc _ => lifted os started H enc)

theorem proved : Rows.FnExactRulMaySaid :=
  over
#print axioms proved
end Go.Proofs.Ytolpalbeldolnaa.fnExactRulMay
