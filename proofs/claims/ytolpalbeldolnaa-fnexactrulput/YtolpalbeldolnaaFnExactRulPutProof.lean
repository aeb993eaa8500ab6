/-
  At every list of rules and every rule RulPut of the program answers as the specification's RulPut, rule by rule, in new memory, which nothing else holds; the list reads as it did. No condition.
-/
import Derived.Test.YtolpalbeldolnaaRows
import Derived.Test.YtolpalbeldolnaaOpenR
import Derived.Test.YtolpalbeldolnaaOpenR1
import Derived.Test.YtolpalbeldolnaaRowRM
import Derived.Deep.DeepCutAuto
import Derived.Deep.RegionWith
import Derived.Test.YtolpalbeldolnaaWalkRulQ
import Derived.Test.YtolpalbeldolnaaWalkToR
import Derived.WalkKit
import Derived.ProofKit
import Derived.OpenShut
import Derived.ShutString
import Derived.Below
import Derived.Carry
namespace Go.Proofs.Ytolpalbeldolnaa.fnExactRulPut
open Go.ChangeShapes Go.WideShapes Go.ChangeAt Go.RowKit
open Go.ChangeMaps (open_string shut_string)
set_option linter.unusedVariables false

theorem own : ownKnob Try.prog.godebug = none := by kernel_rfl
theorem laidOut : laidOutB Try.prog = true := by kernel_rfl

open Go.Proofs.Ytolpalbeldolnaa.W in
theorem each_le (L : List RR) (j : Nat) (h : j < L.length) : (L[j]).ref.size ≤ szR L ∧ (L[j]).path.size ≤ szR L := by
  have h1 := szR_snoc L j h
  have h2 := szR_le L (j + 1)
  omega
open Go.Proofs.Ytolpalbeldolnaa.W in
theorem putR_bd (L : List RR) (r : RR) : (putR L r).length ≤ L.length ∨ (putR L r).length ≤ 6 := by
  cases h : putB L r
  · rw [putR_no h]; exact .inl (Nat.le_refl _)
  · rw [putR_yes h]
    right
    rw [← okR_snoc] at h
    by_cases h6 : 6 < (L ++ [r]).length
    · rw [okR_long _ h6] at h; cases h
    · omega
open Go.Proofs.Ytolpalbeldolnaa.W in
set_option maxRecDepth 100000 in
set_option maxHeartbeats 4000000 in
theorem walk (A0 : Option Addr) (c0 : Nat) (L0 : List Go.Proofs.Ytolpalbeldolnaa.W.RR) (x1 : Go.Proofs.Ytolpalbeldolnaa.W.RR) (y1 : x1.ref.size ≤ maxLen ∧ x1.path.size ≤ maxLen) (w : World) (rd0 : Go.Proofs.Ytolpalbeldolnaa.W.RdR w.heap.size w A0 L0) (n0 : L0.length ≤ maxLen) (t0 : ∀ j (h : j < L0.length), (L0[j]).ref.size ≤ maxLen ∧ (L0[j]).path.size ≤ maxLen) :
    Calls Try.prog 7 #[.slice A0 L0.length c0, .agg #[.int .i64 x1.user, .string x1.ref, .string x1.path, .bool x1.write]] w fun e w' => e = .returned (.bool true) ∧ Below w.heap.size w w' := by
  have ht : L0.length + szR L0 ≤ 1048576 → ∀ j (h : j < L0.length), (L0[j]).ref.size ≤ 1048576 ∧ (L0[j]).path.size ≤ 1048576 := fun hz j h => by have := each_le L0 j h; omega
  have tk3 : True := trivial
  have tk5 : True := trivial
  have ho := putR_bd L0 x1
  go_enter Try.func7, Try.ntmps7
  go_upto_region 8 with (first
    | (go_at_call 13; refine (szRS_anyL A0 c0 L0 _ (rd0.up ((Below.refl _ w).alloc (Nat.le_refl _) _)) n0 t0).mono ?_; rintro e wA ⟨⟨r, rfl, hr | ⟨l, hr, hl, hz⟩⟩, hb⟩; rotate_left; have D := (atR_new w x1 _).up hb; have B := ((Below.refl _ w).alloc (Nat.le_refl _) _).trans (hb.mono (by simp)); clear hb; obtain ⟨d0, d1, d2, d3⟩ := id D; subst hr)
    | (go_at_call 9; refine (szR1_any x1 l _ hl y1).mono ?_; rintro e wB ⟨⟨r, rfl, hr | ⟨hr, hz1⟩⟩, hb⟩; rotate_left; clear d0 d1 d2 d3; replace D := D.up hb; obtain ⟨d0, d1, d2, d3⟩ := id D; replace B := B.trans (hb.mono B.size); clear hb))
  · go_cut [6, 7] (fun s6 s7 wx => ∃ v0 b0, v0 = s6 ∧ s7 = .bool (putB L0 x1) ∧ wx.ownsRow b0 26 4 s6 (putR L0 x1).length (cellsR (putR L0 x1)) ∧ AtR wx w.heap.size x1 ∧ Below w.heap.size w wx)
    case first =>
      clear d0 d1 d2 d3
      replace D := D.up (Below.refl _ _).drew
      replace B := B.drew
      obtain ⟨d0, d1, d2, d3⟩ := id D
      go_region_with (first
        | (go_at_call 15; refine (toRS_new A0 c0 L0 _ (rd0.up B) (by omega)).mono ?_; rintro e w2 ⟨⟨v1, rfl, nev1, o1⟩, hb⟩; clear d0 d1 d2 d3;  replace D := D.up hb; obtain ⟨d0, d1, d2, d3⟩ := id D; replace B := B.trans (hb.mono B.size); clear hb)
        | (go_at_call 11; refine (toRulRule_any _ _ _ _ _).mono ?_; rintro e w3 ⟨rfl, hb⟩; clear d0 d1 d2 d3; replace o1 := ownsUnder o1 hb (Nat.le_refl _); replace D := D.up hb; obtain ⟨d0, d1, d2, d3⟩ := id D; replace B := B.trans (hb.mono B.size); clear hb)
        | (go_at_call 22; refine (rulPutS_own v1 L0 x1 _ nev1 o1 (by omega) (ht hz) (by omega) (by omega)).mono ?_; rintro e w4 ⟨⟨v0, rfl, o0⟩, hb⟩; clear d0 d1 d2 d3; replace D := D.up hb; obtain ⟨d0, d1, d2, d3⟩ := id D; replace B := B.trans (hb.mono B.size); clear hb; clear o1))
      all_goals
        go_wp2_with fail
        go_meet
        exact ⟨_, _, rfl, rfl, o0, D, B⟩
    case rest =>
      clear D B d0 d1 d2 d3
      obtain ⟨v0, b0, rfl, rfl, o0, D, B⟩ := hcut
      obtain ⟨d0, d1, d2, d3⟩ := id D
      go_upto_region 27 with (first
        | (go_at_call 15; have _t := tk3; refine (toRS_new A0 c0 L0 _ (rd0.up B) (by omega)).mono ?_; rintro e w5 ⟨⟨x, rfl, nex, ox⟩, hb⟩; clear d0 d1 d2 d3; clear _t tk3; have s0x := ownsLt o0; have bx := B.size; have D0x := D.lt; replace o0 := ownsUnder o0 hb (Nat.le_refl _); replace D := D.up hb; obtain ⟨d0, d1, d2, d3⟩ := id D; replace B := B.trans (hb.mono B.size); clear hb)
        | (go_at_call 11; refine (toRulRule_any _ _ _ _ _).mono ?_; rintro e w6 ⟨rfl, hb⟩; clear d0 d1 d2 d3; replace o0 := ownsUnder o0 hb (Nat.le_refl _); replace ox := ownsUnder ox hb (Nat.le_refl _); replace D := D.up hb; obtain ⟨d0, d1, d2, d3⟩ := id D; replace B := B.trans (hb.mono B.size); clear hb)
        | (go_at_call_of 23 x; refine (rulPutI_own x L0 x1 _ nex ox (by omega) (ht hz) (by omega) (by omega)).mono ?_; rintro e w7 ⟨⟨g, rfl, og⟩, hb⟩; have sxg := ownsLt ox; have s0g := ownsLt o0; have bg := B.size; have D0g := D.lt; clear d0 d1 d2 d3; replace o0 := ownsUnder o0 hb (Nat.le_refl _); replace ox := ownsUnder ox hb (Nat.le_refl _); replace D := D.up hb; obtain ⟨d0, d1, d2, d3⟩ := id D; replace B := B.trans (hb.mono B.size); clear hb)
        | (go_at_call_of 17 g; refine (eqR_own g v0 _ _ og o0 (by omega)).mono ?_; rintro e w8 ⟨rfl, hb⟩; clear d0 d1 d2 d3; replace o0 := ownsUnder o0 hb (Nat.le_refl _); replace ox := ownsUnder ox hb (Nat.le_refl _); replace og := ownsUnder og hb (Nat.le_refl _); replace D := D.up hb; obtain ⟨d0, d1, d2, d3⟩ := id D; replace B := B.trans (hb.mono B.size); clear hb)
        | (go_at_call 15; have _t := tk5; refine (toRS_new A0 c0 L0 _ (rd0.up B) (by omega)).mono ?_; rintro e w9 ⟨⟨y, rfl, ney, oy⟩, hb⟩; clear d0 d1 d2 d3; clear _t tk5; replace o0 := ownsUnder o0 hb (Nat.le_refl _); replace ox := ownsUnder ox hb (Nat.le_refl _); replace og := ownsUnder og hb (Nat.le_refl _); replace D := D.up hb; obtain ⟨d0, d1, d2, d3⟩ := id D; replace B := B.trans (hb.mono B.size); clear hb)
        | (go_at_call_of 17 y; refine (eqR_own x y _ _ ox oy (by omega)).mono ?_; rintro e w10 ⟨rfl, hb⟩; clear d0 d1 d2 d3; replace o0 := ownsUnder o0 hb (Nat.le_refl _); replace ox := ownsUnder ox hb (Nat.le_refl _); replace og := ownsUnder og hb (Nat.le_refl _); replace D := D.up hb; obtain ⟨d0, d1, d2, d3⟩ := id D; replace B := B.trans (hb.mono B.size); clear hb; clear oy)
        | (go_at_call_of 24 x; refine (markR_own x _ _ ox (by omega)).mono ?_; rintro e w11 ⟨rfl, ox', hg⟩; clear d0 d1 d2 d3; replace o0 := keptLo o0 s0x ox hg; replace og := keptHi og ox sxg hg; replace D := D.kept hg (ownNe ox D0x); replace B := growOwn B B.size ox hg bx; replace ox := ox'; clear ox' hg; obtain ⟨d0, d1, d2, d3⟩ := id D)
        | (go_at_call_of 24 g; refine (markR_own g _ _ og (by omega)).mono ?_; rintro e w12 ⟨rfl, og', hg⟩; clear d0 d1 d2 d3; replace o0 := keptLo o0 s0g og hg; replace D := D.kept hg (ownNe og D0g); replace B := growOwn B B.size og hg bg; clear og hg ox; obtain ⟨d0, d1, d2, d3⟩ := id D)
        | (go_at_call 25; refine (heldR_own g _ _ og' (by omega)).mono ?_; rintro e w13 ⟨rfl, hb⟩; clear d0 d1 d2 d3; replace o0 := ownsUnder o0 hb (Nat.le_refl _); replace og' := ownsUnder og' hb (Nat.le_refl _); replace D := D.up hb; obtain ⟨d0, d1, d2, d3⟩ := id D; replace B := B.trans (hb.mono B.size); clear hb))
      go_cut [14, 15] (fun s14 s15 wx => ∃ h b1, h = s14 ∧ s15 = .bool (putB L0 x1) ∧ wx.ownsRow b1 26 4 s14 (putR L0 x1).length (cellsR (putR L0 x1)) ∧ wx.ownsRow b0 26 4 v0 (putR L0 x1).length (cellsR (putR L0 x1)) ∧ (∃ b2, wx.ownsRow b2 26 4 g (putR L0 x1).length (cellsR (mkR 1 (putR L0 x1).length))) ∧ Below w.heap.size w wx)
      case first =>
        clear d0 d1 d2 d3
        have hb := (Below.refl w13.heap.size w13).drew
        replace o0 := ownsUnder o0 hb (Nat.le_refl _); replace og' := ownsUnder og' hb (Nat.le_refl _); replace D := D.up hb; obtain ⟨d0, d1, d2, d3⟩ := id D; replace B := B.trans (hb.mono B.size); clear hb
        go_region_with (first
          | (go_at_call 15; refine (toRS_new A0 c0 L0 _ (rd0.up B) (by omega)).mono ?_; rintro e w14 ⟨⟨z, rfl, nez, oz⟩, hb⟩; clear d0 d1 d2 d3; replace o0 := ownsUnder o0 hb (Nat.le_refl _); replace og' := ownsUnder og' hb (Nat.le_refl _); replace D := D.up hb; obtain ⟨d0, d1, d2, d3⟩ := id D; replace B := B.trans (hb.mono B.size); clear hb)
          | (go_at_call 11; refine (toRulRule_any _ _ _ _ _).mono ?_; rintro e w15 ⟨rfl, hb⟩; clear d0 d1 d2 d3; replace o0 := ownsUnder o0 hb (Nat.le_refl _); replace og' := ownsUnder og' hb (Nat.le_refl _); replace oz := ownsUnder oz hb (Nat.le_refl _); replace D := D.up hb; obtain ⟨d0, d1, d2, d3⟩ := id D; replace B := B.trans (hb.mono B.size); clear hb)
          | (go_at_call_of 23 z; refine (rulPutI_own z L0 x1 _ nez oz (by omega) (ht hz) (by omega) (by omega)).mono ?_; rintro e w16 ⟨⟨h, rfl, oh⟩, hb⟩; clear d0 d1 d2 d3; replace o0 := ownsUnder o0 hb (Nat.le_refl _); replace og' := ownsUnder og' hb (Nat.le_refl _); replace D := D.up hb; obtain ⟨d0, d1, d2, d3⟩ := id D; replace B := B.trans (hb.mono B.size); clear hb; clear oz))
        all_goals
          go_wp2_with fail
          go_meet
          exact ⟨_, _, rfl, rfl, oh, o0, ⟨_, og'⟩, B⟩
      case rest =>
        clear D B d0 d1 d2 d3 o0 og'
        obtain ⟨h, b1, rfl, rfl, oh, o0, ⟨b2, og'⟩, B⟩ := hcut
        go_wp2_with (first
          | (go_at_call 17; refine (eqR_own h v0 _ _ oh o0 (by omega)).mono ?_; rintro e w17 ⟨rfl, hb⟩; replace og' := ownsUnder og' hb (Nat.le_refl _); replace B := B.trans (hb.mono B.size); clear hb)
          | (go_at_call 25; refine (heldR_own g _ _ og' (by omega)).mono ?_; rintro e w18 ⟨rfl, hb⟩; replace B := B.trans (hb.mono B.size); clear hb))
        go_ret
        exact ⟨rfl, B⟩
  all_goals
    go_wp2
    go_ret
    first
      | exact ⟨rfl, ((Below.refl _ w).alloc (Nat.le_refl _) _).trans (hb.mono (by simp))⟩
      | exact ⟨rfl, B.trans (hb.mono B.size)⟩

set_option maxRecDepth 100000 in
theorem lifted (os : Os) (started : os.Started) (H : Type) (enc : TypeId × Value → H) :
    ReturnsInHanded {} Try.checked os 7 .any (Rows.fnExactRulPutSpec.pre6 enc Try.prog Try.f7 Rows.fnExactRulPutRow.domain false) (Rows.fnExactRulPutSpec.post enc Try.prog Try.f7 false true false false) := by
  refine returnsInHanded_of_change (C := Try.checked) own started (by kernel_rfl) Try.func7
    (ChangeSpec.witness6 (enc := enc) (C := Try.checked) false ⟨#[], #[.slice none 0 0, .agg #[.int .i64 0, .string ByteArray.empty, .string ByteArray.empty, .bool false]], []⟩ 8 (by kernel_rfl) (by kernel_rfl) (by kernel_rfl) (by kernel_rfl)) ?_
  intro W base args ds gs before hval0 hW hcnd _
  have hval : ∀ (j : Nat) t v, Try.f7.params[j]? = some t → args[j]? = some v → Value.okWide Try.prog W .any base t v := hval0
  have hW' := hW
  obtain ⟨p, q, hA0, hV, rfl, hfz, hnd⟩ := hW
  have hA : DataW.TrodAll enc Try.prog W 0 (fun _ => true) true Try.f7.params.toList args.toList ds p := hA0
  rw [Try.params7] at hA hval
  obtain ⟨v0, vs0, d0, ds0, p0, q0, hargs, rfl, rfl, h0, r0⟩ := trodAll_cons hA
  obtain ⟨v1, vs1, d1, ds1, p1, q1, rfl, rfl, rfl, h1, r1⟩ := trodAll_cons r0
  obtain ⟨rfl, rfl, rfl⟩ := trodAll_nil r1
  obtain rfl : args = #[v0, v1] := by cases args; simp_all
  obtain ⟨rfl, rfl⟩ := trodVars_none hV
  have k0 := h0
  have k1 := h1
  obtain ⟨A0, c0, L0, rfl, rd0, n0, t0⟩ := Go.Proofs.Ytolpalbeldolnaa.W.open_R h0 (okWide_slice Try.underlying29 (hval 0 29 v0 rfl rfl))
  obtain ⟨x1, rfl, y1⟩ := Go.Proofs.Ytolpalbeldolnaa.W.open_r h1 (okWide_struct Try.underlying23 (hval 1 23 v1 rfl rfl))
  clear hA0 hval0
  simp only [List.append_nil] at hW'
  refine (walk A0 c0 L0 x1 y1 W rd0 n0 t0).mono fun e W' ⟨he, hg⟩ => ?_
  subst he
  exact ⟨_, rfl, _, _, _, [], _, [], hW', (trodAll_cons_mk (shut_bool Try.underlying4 _) trodAll_mk0), (trodAll_cons_mk (Below.trod laidOut (by kernel_rfl) (of_decide_eq_true (by kernel_rfl)) k0 hg (fun x hx => hW'.lt x (by first | (simp [hx]; done) | simp at hx))) (trodAll_cons_mk (Below.trod laidOut (by kernel_rfl) (of_decide_eq_true (by kernel_rfl)) k1 hg (fun x hx => hW'.lt x (by first | (simp [hx]; done) | simp at hx))) trodAll_mk0)), rfl, hg.frame _, fun h => by cases h⟩

theorem over : Rows.fnExactRulPutRow.holds Try.pinned (OpenSpec.ofChange Rows.fnExactRulPutSpec) :=
  OpenClaim.holds_of_wide 7 Try.f7 rfl rfl rfl rfl rfl rfl rfl ⟨rfl, rfl, rfl, rfl, rfl⟩ rfl rfl rfl rfl rfl (by kernel_rfl) Try.func7 (by kernel_rfl)
    (of_decide_eq_true (by kernel_rfl)) (by unfold Func.isWrapper; first | (rw [if_pos (by decide +kernel)]; kernel_rfl) | (rw [if_neg (by decide +kernel)]; exact ⟨rfl, rfl⟩))
    (fun os started H enc _ => lifted os started H enc)

theorem proved : Rows.FnExactRulPutSaid :=
  over
#print axioms proved
end Go.Proofs.Ytolpalbeldolnaa.fnExactRulPut
