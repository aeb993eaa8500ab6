/-
  At every list of lines and every number RolOf of the program answers as the specification's RolOf, line by line, in new memory, which nothing else holds; the list reads as it did. No condition.
-/
import Derived.Test.YtcaimlbibhaigaaRows
import Derived.Test.YtcaimlbibhaigaaOpenH
import Derived.Test.YtcaimlbibhaigaaWalkRol
import Derived.Test.YtcaimlbibhaigaaRowHM
import Derived.WalkKit
import Derived.ProofKit
import Derived.OpenShut
import Derived.ShutString
import Derived.Below
import Derived.Carry
namespace Go.Proofs.Ytcaimlbibhaigaa.fnExactRolOf
open Go.ChangeShapes Go.WideShapes Go.ChangeAt Go.RowKit
open Go.ChangeMaps (open_string shut_string)
set_option linter.unusedVariables false

theorem own : ownKnob Try.prog.godebug = none := by kernel_rfl
theorem laidOut : laidOutB Try.prog = true := by kernel_rfl

open Go.Proofs.Ytcaimlbibhaigaa.W in
set_option maxHeartbeats 4000000 in
theorem walk (A0 : Option Addr) (c0 : Nat) (L0 : List Go.Proofs.Ytcaimlbibhaigaa.W.LN) (a1 : Int) (w : World) (rd0 : Go.Proofs.Ytcaimlbibhaigaa.W.RdH w.heap.size w A0 L0) (n0 : L0.length ≤ maxLen) (t0 : ∀ j (h : j < L0.length), True) :
    Calls Try.prog 3 #[.slice A0 L0.length c0, .int .i64 a1] w fun e w' => e = .returned (.bool true) ∧ Below w.heap.size w w' := by
  have tk1 : True := trivial
  have tk2 : True := trivial
  have tk3 : True := trivial
  have ho := ofH_len L0 a1 L0.length
  rw [List.take_length] at ho
  go_enter Try.func3, Try.ntmps3
  go_wp2_with (first
    | (go_at_call 4; refine (szHS_any A0 c0 L0 _ rd0 n0 t0).mono ?_; rintro e w1 ⟨⟨r, rfl, hr | ⟨hr, hz⟩⟩, B⟩)
    | (go_at_call 6; have _t := tk1; refine (toHS_any A0 c0 L0 _ (rd0.up B) (by omega)).mono ?_; rintro e w2 ⟨⟨v1, rfl, o1⟩, hb⟩; clear _t tk1; replace B := B.trans (hb.mono B.size); clear hb)
    | (go_at_call 5; refine (rolOfS_own v1 L0 a1 _ o1 (by omega)).mono ?_; rintro e w3 ⟨⟨v0, rfl, o0⟩, hb⟩; replace B := B.trans (hb.mono B.size); clear hb o1)
    | (go_at_call 6; have _t := tk2; refine (toHS_any A0 c0 L0 _ (rd0.up B) (by omega)).mono ?_; rintro e w4 ⟨⟨x, rfl, ox⟩, hb⟩; clear _t tk2; have s0x := ownsLt o0; have bx := B.size; replace o0 := ownsUnder o0 hb (Nat.le_refl _); replace B := B.trans (hb.mono B.size); clear hb)
    | (go_at_call_of 7 x; refine (rolOf_own x L0 a1 _ ox (by omega)).mono ?_; rintro e w5 ⟨⟨g, rfl, og⟩, hb⟩; have sxg := ownsLt ox; have s0g := ownsLt o0; have bg := B.size; replace o0 := ownsUnder o0 hb (Nat.le_refl _); replace ox := ownsUnder ox hb (Nat.le_refl _); replace B := B.trans (hb.mono B.size); clear hb)
    | (go_at_call_of 8 g; refine (eqH_own g v0 _ _ og o0 (by omega)).mono ?_; rintro e w6 ⟨rfl, hb⟩; replace o0 := ownsUnder o0 hb (Nat.le_refl _); replace ox := ownsUnder ox hb (Nat.le_refl _); replace og := ownsUnder og hb (Nat.le_refl _); replace B := B.trans (hb.mono B.size); clear hb)
    | (go_at_call 6; have _t := tk3; refine (toHS_any A0 c0 L0 _ (rd0.up B) (by omega)).mono ?_; rintro e w7 ⟨⟨y, rfl, oy⟩, hb⟩; clear _t tk3; replace o0 := ownsUnder o0 hb (Nat.le_refl _); replace ox := ownsUnder ox hb (Nat.le_refl _); replace og := ownsUnder og hb (Nat.le_refl _); replace B := B.trans (hb.mono B.size); clear hb)
    | (go_at_call_of 8 y; refine (eqH_own x y _ _ ox oy (by omega)).mono ?_; rintro e w8 ⟨rfl, hb⟩; replace o0 := ownsUnder o0 hb (Nat.le_refl _); replace ox := ownsUnder ox hb (Nat.le_refl _); replace og := ownsUnder og hb (Nat.le_refl _); replace B := B.trans (hb.mono B.size); clear hb oy)
    | (go_at_call_of 9 x; refine (markH_own x _ _ ox (by omega)).mono ?_; rintro e w9 ⟨rfl, ox', hg⟩; replace o0 := keptLo o0 s0x ox hg; replace og := keptHi og ox sxg hg; replace B := growOwn B B.size ox hg bx; replace ox := ox'; clear ox' hg)
    | (go_at_call_of 9 g; refine (markH_own g _ _ og (by omega)).mono ?_; rintro e w10 ⟨rfl, og', hg⟩; replace o0 := keptLo o0 s0g og hg; replace B := growOwn B B.size og hg bg; clear og hg ox)
    | (go_at_call 10; refine (heldH_own g _ _ og' (by omega)).mono ?_; rintro e w11 ⟨rfl, hb⟩; replace o0 := ownsUnder o0 hb (Nat.le_refl _); replace og' := ownsUnder og' hb (Nat.le_refl _); replace B := B.trans (hb.mono B.size); clear hb)
    | (go_at_call 6; refine (toHS_any A0 c0 L0 _ (rd0.up B) (by omega)).mono ?_; rintro e w12 ⟨⟨z, rfl, oz⟩, hb⟩; replace o0 := ownsUnder o0 hb (Nat.le_refl _); replace og' := ownsUnder og' hb (Nat.le_refl _); replace B := B.trans (hb.mono B.size); clear hb)
    | (go_at_call_of 7 z; refine (rolOf_own z L0 a1 _ oz (by omega)).mono ?_; rintro e w13 ⟨⟨h, rfl, oh⟩, hb⟩; replace o0 := ownsUnder o0 hb (Nat.le_refl _); replace og' := ownsUnder og' hb (Nat.le_refl _); replace B := B.trans (hb.mono B.size); clear hb oz)
    | (go_at_call_of 8 h; refine (eqH_own h v0 _ _ oh o0 (by omega)).mono ?_; rintro e w14 ⟨rfl, hb⟩; replace o0 := ownsUnder o0 hb (Nat.le_refl _); replace og' := ownsUnder og' hb (Nat.le_refl _); replace B := B.trans (hb.mono B.size); clear hb))
  all_goals
    go_ret
    exact ⟨rfl, B⟩

set_option maxRecDepth 100000 in
theorem lifted (os : Os) (started : os.Started) (H : Type) (enc : TypeId × Value → H) :
    ReturnsInHanded {} Try.checked os 3 .any (Rows.fnExactRolOfSpec.pre6 enc Try.prog Try.f3 Rows.fnExactRolOfRow.domain false) (Rows.fnExactRolOfSpec.post enc Try.prog Try.f3 false true false false) := by
  refine returnsInHanded_of_change (C := Try.checked) own started (by kernel_rfl) Try.func3
    (ChangeSpec.witness6 (enc := enc) (C := Try.checked) false ⟨#[], #[.slice none 0 0, .int .i64 0], []⟩ 8 (by kernel_rfl) (by kernel_rfl) (by kernel_rfl) (by kernel_rfl)) ?_
  intro W base args ds gs before hval0 hW hcnd _
  have hval : ∀ (j : Nat) t v, Try.f3.params[j]? = some t → args[j]? = some v → Value.okWide Try.prog W .any base t v := hval0
  have hW' := hW
  obtain ⟨p, q, hA0, hV, rfl, hfz, hnd⟩ := hW
  have hA : DataW.TrodAll enc Try.prog W 0 (fun _ => true) true Try.f3.params.toList args.toList ds p := hA0
  rw [Try.params3] at hA hval
  obtain ⟨v0, vs0, d0, ds0, p0, q0, hargs, rfl, rfl, h0, r0⟩ := trodAll_cons hA
  obtain ⟨v1, vs1, d1, ds1, p1, q1, rfl, rfl, rfl, h1, r1⟩ := trodAll_cons r0
  obtain ⟨rfl, rfl, rfl⟩ := trodAll_nil r1
  obtain rfl : args = #[v0, v1] := by cases args; simp_all
  obtain ⟨rfl, rfl⟩ := trodVars_none hV
  have k0 := h0
  have k1 := h1
  obtain ⟨A0, c0, L0, rfl, rd0, n0, t0⟩ := Go.Proofs.Ytcaimlbibhaigaa.W.open_H h0 (okWide_slice Try.underlying22 (hval 0 22 v0 rfl rfl))
  obtain ⟨a1, rfl, rfl, rfl, w1⟩ := open_int Try.underlying3 (hval 1 3 v1 rfl rfl) h1
  clear hA0 hval0
  simp only [List.append_nil] at hW'
  refine (walk A0 c0 L0 a1 W rd0 n0 t0).mono fun e W' ⟨he, hg⟩ => ?_
  subst he
  exact ⟨_, rfl, _, _, _, [], _, [], hW', (trodAll_cons_mk (shut_bool Try.underlying4 _) trodAll_mk0), (trodAll_cons_mk (Below.trod laidOut (by kernel_rfl) (of_decide_eq_true (by kernel_rfl)) k0 hg (fun x hx => hW'.lt x (by first | (simp [hx]; done) | simp at hx))) (trodAll_cons_mk (Below.trod laidOut (by kernel_rfl) (of_decide_eq_true (by kernel_rfl)) k1 hg (fun x hx => hW'.lt x (by first | (simp [hx]; done) | simp at hx))) trodAll_mk0)), rfl, hg.frame _, fun h => by cases h⟩

theorem over : Rows.fnExactRolOfRow.holds Try.pinned (OpenSpec.ofChange Rows.fnExactRolOfSpec) :=
  OpenClaim.holds_of_wide 3 Try.f3 rfl rfl rfl rfl rfl rfl rfl ⟨rfl, rfl, rfl, rfl, rfl⟩ rfl rfl rfl rfl rfl (by kernel_rfl) Try.func3 (by kernel_rfl)
    (of_decide_eq_true (by kernel_rfl)) (by unfold Func.isWrapper; first | (rw [if_pos (by decide +kernel)]; kernel_rfl) | (rw [if_neg (by decide +kernel)]; exact ⟨rfl, rfl⟩))
    (fun os started H enc _ => lifted os started H enc)

theorem proved : Rows.FnExactRolOfSaid :=
  over
#print axioms proved
end Go.Proofs.Ytcaimlbibhaigaa.fnExactRolOf
