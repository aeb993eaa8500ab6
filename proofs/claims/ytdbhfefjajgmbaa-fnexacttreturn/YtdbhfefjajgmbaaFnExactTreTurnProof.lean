/-
  At every list of files and every list of edits TreTurn of the program answers as the specification's TreTurn, file by file, and whether it could be done, in new memory, which nothing else holds; the lists read as they did. No condition.
-/
import Derived.Test.YtdbhfefjajgmbaaRows
import Derived.Test.YtdbhfefjajgmbaaOpenF
import Derived.Test.YtdbhfefjajgmbaaOpenE
import Derived.Test.YtdbhfefjajgmbaaWalkTurI
import Derived.Test.YtdbhfefjajgmbaaRowFM
import Derived.Test.YtdbhfefjajgmbaaRowEM
import Derived.Test.YtdbhfefjajgmbaaWalkSzF
import Derived.Test.YtdbhfefjajgmbaaWalkSzE
import Derived.WalkKit
import Derived.ProofKit
import Derived.OpenShut
import Derived.ShutString
import Derived.Below
import Derived.Carry
namespace Go.Proofs.Ytdbhfefjajgmbaa.fnExactTreTurn
open Go.ChangeShapes Go.WideShapes Go.ChangeAt Go.RowKit
open Go.ChangeMaps (open_string shut_string)
set_option linter.unusedVariables false

theorem own : ownKnob Try.prog.godebug = none := by kernel_rfl
theorem laidOut : laidOutB Try.prog = true := by kernel_rfl

open Go.Proofs.Ytdbhfefjajgmbaa.W in
theorem each_leF (L : List TF) (j : Nat) (h : j < L.length) : (L[j]).pa.size ≤ szF L ∧ (L[j]).by_.size ≤ szF L := by
  have h1 := szF_snoc L j h
  have h2 := szF_le L (j + 1)
  omega
open Go.Proofs.Ytdbhfefjajgmbaa.W in
theorem each_leE (L : List TE) (j : Nat) (h : j < L.length) : (L[j]).pa.size ≤ szE L ∧ (L[j]).by_.size ≤ szE L := by
  have h1 := szE_snoc L j h
  have h2 := szE_le L (j + 1)
  omega
open Go.Proofs.Ytdbhfefjajgmbaa.W in
theorem turnL_len (L : List TF) (E : List TE) : (turnL L E).length ≤ 60 := by
  unfold turnL turnT
  split
  · cases turnAll L (edOf E) with
    | none => simp
    | some K =>
      simp only [Option.bind]
      split
      · rename_i h; exact (okT_rise K h).2
      · simp
  · simp
open Go.Proofs.Ytdbhfefjajgmbaa.W in
set_option maxRecDepth 100000 in
set_option maxHeartbeats 8000000 in
theorem walk (A0 : Option Addr) (c0 : Nat) (L0 : List Go.Proofs.Ytdbhfefjajgmbaa.W.TF) (A1 : Option Addr) (c1 : Nat) (L1 : List Go.Proofs.Ytdbhfefjajgmbaa.W.TE) (w : World) (rd0 : Go.Proofs.Ytdbhfefjajgmbaa.W.RdF w.heap.size w A0 L0) (n0 : L0.length ≤ maxLen) (t0 : ∀ j (h : j < L0.length), (L0[j]).pa.size ≤ maxLen ∧ (L0[j]).by_.size ≤ maxLen) (rd1 : Go.Proofs.Ytdbhfefjajgmbaa.W.RdE w.heap.size w A1 L1) (n1 : L1.length ≤ maxLen) (t1 : ∀ j (h : j < L1.length), (L1[j]).pa.size ≤ maxLen ∧ (L1[j]).by_.size ≤ maxLen) :
    Calls Try.prog 3 #[.slice A0 L0.length c0, .slice A1 L1.length c1] w fun e w' => e = .returned (.bool true) ∧ Below w.heap.size w w' := by
  obtain ⟨N, hN⟩ : ∃ N, N = turnL L0 L1 := ⟨_, rfl⟩
  obtain ⟨k, hk⟩ : ∃ k, k = (turnT L0 L1).isSome := ⟨_, rfl⟩
  have ho : N.length ≤ 60 := by rw [hN]; exact turnL_len L0 L1
  have HI : Hid (∀ {b b' l l2 : Nat} {e e' : TypeId} (v v' : Value) (w : World) (h : w.ownsRow b e 2 v L0.length (cellsF L0)) (h' : w.ownsRow b' e' 3 v' L1.length (cellsE L1)) (hz : l + (L0.length + szF L0) = 1048576) (hz2 : l2 + (L1.length + szE L1) = l), Calls Try.prog 10 #[v, v'] w fun e w' => (∃ v, e = .returned (.tuple #[v, .bool k]) ∧ w'.ownsRow w.heap.size 53 2 v N.length (cellsF N)) ∧ Below w.heap.size w w') := fun v v' w h h' hz hz2 => by
    obtain ⟨A, c, rfl, rd⟩ := rdE_of_own h'
    refine (treTurn_impl v L0 A c L1 w h rd (by omega) (by omega) (fun j h => by have := each_leF L0 j h; omega) (fun j h => by have := each_leE L1 j h; omega)).mono ?_
    rintro e w' ⟨v', rfl, ho', hb⟩
    rw [hN, hk]; exact ⟨⟨v', rfl, ho'⟩, hb⟩
  have HP : Hid (∀ {b b' l l2 : Nat} {e e' : TypeId} (v v' : Value) (w : World) (h : w.ownsRow b e 2 v L0.length (cellsF L0)) (h' : w.ownsRow b' e' 3 v' L1.length (cellsE L1)) (hz : l + (L0.length + szF L0) = 1048576) (hz2 : l2 + (L1.length + szE L1) = l), Calls Try.prog 7 #[v, v'] w fun e w' => (∃ v, e = .returned (.tuple #[v, .bool k]) ∧ w'.ownsRow w.heap.size 53 2 v N.length (cellsF N)) ∧ Below w.heap.size w w') := fun v v' w h h' hz hz2 => by
    obtain ⟨A, c, rfl, rd⟩ := rdE_of_own h'
    refine (treTurn_spec v L0 A c L1 w h rd (by omega) (by omega) (fun j h => by have := each_leF L0 j h; omega) (fun j h => by have := each_leE L1 j h; omega)).mono ?_
    rintro e w' ⟨v', rfl, ho', hb⟩
    rw [hN, hk]; exact ⟨⟨v', rfl, ho'⟩, hb⟩
  clear hN hk
  have hkk : (k != k) = false := by cases k <;> rfl
  have ta1 : True := trivial
  have ta2 : True := trivial
  have ta3 : True := trivial
  have tb1 : True := trivial
  have tb2 : True := trivial
  have tb3 : True := trivial
  have tp : True := trivial
  go_enter Try.func3, Try.ntmps3
  go_wp2_with (first
    | (go_at_call 5; refine (szFS_left A0 c0 L0 1048576 _ (Nat.le_refl _) rd0 n0 t0).mono ?_; rintro e wA ⟨hx, B⟩; obtain ⟨r, rfl, hr | ⟨l, hr, hz⟩⟩ := hx; rotate_left; subst hr)
    | (go_at_call 6; refine (szES_left A1 c1 L1 l _ (by omega) (rd1.up B) n1 t1).mono ?_; rintro e wB ⟨hx, hb⟩; replace B := B.trans (hb.mono B.size); clear hb; obtain ⟨r, rfl, hr | ⟨l2, hr, hz2⟩⟩ := hx; rotate_left; subst hr)
    | (go_at_call 8; have _t := ta1; refine (toFS_any A0 c0 L0 _ (rd0.up B) (by omega)).mono ?_; rintro e w2 ⟨⟨v1, rfl, o1⟩, hb⟩; clear _t ta1; replace B := B.trans (hb.mono B.size); clear hb)
    | (go_at_call 9; have _t := tb1; refine (toES_any A1 c1 L1 _ (rd1.up B) (by omega)).mono ?_; rintro e w3 ⟨⟨v2, rfl, o2⟩, hb⟩; clear _t tb1; replace o1 := ownsUnder o1 hb (Nat.le_refl _); replace B := B.trans (hb.mono B.size); clear hb)
    | (go_at_call 7; refine (HP.out v1 v2 _ o1 o2 hz hz2).mono ?_; rintro e w4 ⟨⟨v0, rfl, o0⟩, hb⟩; replace B := B.trans (hb.mono B.size); clear hb o1 o2)
    | (go_at_call 8; have _t := ta2; refine (toFS_any A0 c0 L0 _ (rd0.up B) (by omega)).mono ?_; rintro e w5 ⟨⟨x, rfl, ox⟩, hb⟩; clear _t ta2; have s0x := ownsLt o0; have bx := B.size; replace o0 := ownsUnder o0 hb (Nat.le_refl _); replace B := B.trans (hb.mono B.size); clear hb)
    | (go_at_call 9; have _t := tb2; refine (toES_any A1 c1 L1 _ (rd1.up B) (by omega)).mono ?_; rintro e w6 ⟨⟨z, rfl, oz⟩, hb⟩; clear _t tb2; have s0z := ownsLt o0; have sxz := ownsLt ox; have bz := B.size; replace o0 := ownsUnder o0 hb (Nat.le_refl _); replace ox := ownsUnder ox hb (Nat.le_refl _); replace B := B.trans (hb.mono B.size); clear hb)
    | (go_at_call_of 10 x; refine (HI.out x z _ ox oz hz hz2).mono ?_; rintro e w7 ⟨⟨g, rfl, og⟩, hb⟩; have sxg := ownsLt ox; have szg := ownsLt oz; have s0g := ownsLt o0; have bg := B.size; replace o0 := ownsUnder o0 hb (Nat.le_refl _); replace ox := ownsUnder ox hb (Nat.le_refl _); replace oz := ownsUnder oz hb (Nat.le_refl _); replace B := B.trans (hb.mono B.size); clear hb)
    | (go_at_call_of 11 g; have _t := tp; refine (eqF_own g v0 _ _ og o0 (by omega)).mono ?_; rintro e w8 ⟨rfl, hb⟩; clear _t tp; replace o0 := ownsUnder o0 hb (Nat.le_refl _); replace ox := ownsUnder ox hb (Nat.le_refl _); replace oz := ownsUnder oz hb (Nat.le_refl _); replace og := ownsUnder og hb (Nat.le_refl _); replace B := B.trans (hb.mono B.size); clear hb)
    | (go_at_call 8; have _t := ta3; refine (toFS_any A0 c0 L0 _ (rd0.up B) (by omega)).mono ?_; rintro e w9 ⟨⟨y, rfl, oy⟩, hb⟩; clear _t ta3; replace o0 := ownsUnder o0 hb (Nat.le_refl _); replace ox := ownsUnder ox hb (Nat.le_refl _); replace oz := ownsUnder oz hb (Nat.le_refl _); replace og := ownsUnder og hb (Nat.le_refl _); replace B := B.trans (hb.mono B.size); clear hb)
    | (go_at_call_of 11 y; refine (eqF_own x y _ _ ox oy (by omega)).mono ?_; rintro e w10 ⟨rfl, hb⟩; replace o0 := ownsUnder o0 hb (Nat.le_refl _); replace ox := ownsUnder ox hb (Nat.le_refl _); replace oz := ownsUnder oz hb (Nat.le_refl _); replace og := ownsUnder og hb (Nat.le_refl _); replace B := B.trans (hb.mono B.size); clear hb oy)
    | (go_at_call 9; have _t := tb3; refine (toES_any A1 c1 L1 _ (rd1.up B) (by omega)).mono ?_; rintro e w11 ⟨⟨y2, rfl, oy2⟩, hb⟩; clear _t tb3; replace o0 := ownsUnder o0 hb (Nat.le_refl _); replace ox := ownsUnder ox hb (Nat.le_refl _); replace oz := ownsUnder oz hb (Nat.le_refl _); replace og := ownsUnder og hb (Nat.le_refl _); replace B := B.trans (hb.mono B.size); clear hb)
    | (go_at_call 12; refine (eqE_own z y2 _ _ oz oy2 (by omega)).mono ?_; rintro e w12 ⟨rfl, hb⟩; replace o0 := ownsUnder o0 hb (Nat.le_refl _); replace ox := ownsUnder ox hb (Nat.le_refl _); replace oz := ownsUnder oz hb (Nat.le_refl _); replace og := ownsUnder og hb (Nat.le_refl _); replace B := B.trans (hb.mono B.size); clear hb oy2)
    | (go_at_call_of 13 x; refine (markF_from 1 x _ _ ox (by omega) (Nat.le_refl _) (by omega)).mono ?_; rintro e w13 ⟨k2, rfl, hk2, ox', hg⟩; replace o0 := keptLo o0 s0x ox hg; replace oz := keptHi oz ox sxz hg; replace og := keptHi og ox sxg hg; replace B := growOwn B B.size ox hg bx; clear ox ox' hg; have hk2a : 1 ≤ k2 := (by omega); have hk2b : k2 ≤ 3000000 := (by omega); clear hk2)
    | (go_at_call 14; refine (markE_own z _ k2 _ oz (by omega) hk2a (by omega)).mono ?_; rintro e w14 ⟨rfl, hg⟩; replace o0 := keptLo o0 s0z oz hg; replace og := keptHi og oz szg hg; replace B := growOwn B B.size oz hg bz; clear oz hg; have tq : True := trivial)
    | (go_at_call_of 11 g; have _t := tq; refine (eqF_own g v0 _ _ og o0 (by omega)).mono ?_; rintro e w15 ⟨rfl, hb⟩; clear _t tq; replace o0 := ownsUnder o0 hb (Nat.le_refl _); replace og := ownsUnder og hb (Nat.le_refl _); replace B := B.trans (hb.mono B.size); clear hb)
    | (go_at_call_of 13 g; refine (markF_own g _ _ og (by omega)).mono ?_; rintro e w16 ⟨rfl, og', hg⟩; replace o0 := keptLo o0 s0g og hg; replace B := growOwn B B.size og hg bg; clear og hg)
    | (go_at_call 15; refine (heldF_own g _ _ og' (by omega)).mono ?_; rintro e w17 ⟨rfl, hb⟩; replace o0 := ownsUnder o0 hb (Nat.le_refl _); replace og' := ownsUnder og' hb (Nat.le_refl _); replace B := B.trans (hb.mono B.size); clear hb)
    | (go_at_call 8; refine (toFS_any A0 c0 L0 _ (rd0.up B) (by omega)).mono ?_; rintro e w18 ⟨⟨p, rfl, op⟩, hb⟩; replace o0 := ownsUnder o0 hb (Nat.le_refl _); replace og' := ownsUnder og' hb (Nat.le_refl _); replace B := B.trans (hb.mono B.size); clear hb)
    | (go_at_call 9; refine (toES_any A1 c1 L1 _ (rd1.up B) (by omega)).mono ?_; rintro e w19 ⟨⟨p2, rfl, op2⟩, hb⟩; replace op := ownsUnder op hb (Nat.le_refl _); replace o0 := ownsUnder o0 hb (Nat.le_refl _); replace og' := ownsUnder og' hb (Nat.le_refl _); replace B := B.trans (hb.mono B.size); clear hb)
    | (go_at_call_of 10 p; refine (HI.out p p2 _ op op2 hz hz2).mono ?_; rintro e w20 ⟨⟨h, rfl, oh⟩, hb⟩; replace o0 := ownsUnder o0 hb (Nat.le_refl _); replace og' := ownsUnder og' hb (Nat.le_refl _); replace B := B.trans (hb.mono B.size); clear hb op op2)
    | (go_at_call_of 11 h; refine (eqF_own h v0 _ _ oh o0 (by omega)).mono ?_; rintro e w21 ⟨rfl, hb⟩; replace o0 := ownsUnder o0 hb (Nat.le_refl _); replace og' := ownsUnder og' hb (Nat.le_refl _); replace B := B.trans (hb.mono B.size); clear hb))
  all_goals
    go_ret
    exact ⟨rfl, B⟩

set_option maxRecDepth 100000 in
theorem lifted (os : Os) (started : os.Started) (H : Type) (enc : TypeId × Value → H) :
    ReturnsInHanded {} Try.checked os 3 .any (Rows.fnExactTreTurnSpec.pre6 enc Try.prog Try.f3 Rows.fnExactTreTurnRow.domain false) (Rows.fnExactTreTurnSpec.post enc Try.prog Try.f3 false true false false) := by
  refine returnsInHanded_of_change (C := Try.checked) own started (by kernel_rfl) Try.func3
    (ChangeSpec.witness6 (enc := enc) (C := Try.checked) false ⟨#[], #[.slice none 0 0, .slice none 0 0], []⟩ 8 (by kernel_rfl) (by kernel_rfl) (by kernel_rfl) (by kernel_rfl)) ?_
  intro W base args ds gs before hval0 hW hcnd _
  have hval : ∀ (j : Nat) t v, Try.f3.params[j]? = some t → args[j]? = some v → Value.okWide Try.prog W .any base t v := hval0
  have hW' := hW
  obtain ⟨p, q, hA0, hV, rfl, hfz, hnd⟩ := hW
  have hA : DataW.TrodAll enc Try.prog W 0 (fun _ => true) true Try.f3.params.toList args.toList ds p := hA0
  rw [Try.params3] at hA hval
  obtain ⟨v0, vs0, d0, ds0, p0, q0, hargs, rfl, rfl, h0, r0⟩ := trodAll_cons hA
  obtain ⟨v1, vs1, d1, ds1, p1, q1, rfl, rfl, rfl, h1, r1⟩ := trodAll_cons r0
  obtain ⟨rfl, rfl, rfl⟩ := trodAll_nil r1
  obtain rfl : args = #[v0, v1] := by cases args; simp_all
  obtain ⟨rfl, rfl⟩ := trodVars_none hV
  have k0 := h0
  have k1 := h1
  obtain ⟨A0, c0, L0, rfl, rd0, n0, t0⟩ := Go.Proofs.Ytdbhfefjajgmbaa.W.open_F h0 (okWide_slice Try.underlying22 (hval 0 22 v0 rfl rfl))
  obtain ⟨A1, c1, L1, rfl, rd1, n1, t1⟩ := Go.Proofs.Ytdbhfefjajgmbaa.W.open_E h1 (okWide_slice Try.underlying23 (hval 1 23 v1 rfl rfl))
  clear hA0 hval0
  simp only [List.append_nil] at hW'
  refine (walk A0 c0 L0 A1 c1 L1 W rd0 n0 t0 rd1 n1 t1).mono fun e W' ⟨he, hg⟩ => ?_
  subst he
  exact ⟨_, rfl, _, _, _, [], _, [], hW', (trodAll_cons_mk (shut_bool Try.underlying4 _) trodAll_mk0), (trodAll_cons_mk (Below.trod laidOut (by kernel_rfl) (of_decide_eq_true (by kernel_rfl)) k0 hg (fun x hx => hW'.lt x (by first | (simp [hx]; done) | simp at hx))) (trodAll_cons_mk (Below.trod laidOut (by kernel_rfl) (of_decide_eq_true (by kernel_rfl)) k1 hg (fun x hx => hW'.lt x (by first | (simp [hx]; done) | simp at hx))) trodAll_mk0)), rfl, hg.frame _, fun h => by cases h⟩

theorem over : Rows.fnExactTreTurnRow.holds Try.pinned (OpenSpec.ofChange Rows.fnExactTreTurnSpec) :=
  OpenClaim.holds_of_wide 3 Try.f3 rfl rfl rfl rfl rfl rfl rfl ⟨rfl, rfl, rfl, rfl, rfl⟩ rfl rfl rfl rfl rfl (by kernel_rfl) Try.func3 (by kernel_rfl)
    (of_decide_eq_true (by kernel_rfl)) (by unfold Func.isWrapper; first | (rw [if_pos (by decide +kernel)]; kernel_rfl) | (rw [if_neg (by decide +kernel)]; exact ⟨rfl, rfl⟩))
    (fun os started H enc _ => lifted os started H enc)

theorem proved : Rows.FnExactTreTurnSaid :=
  over
#print axioms proved
end Go.Proofs.Ytdbhfefjajgmbaa.fnExactTreTurn
