/-
  At every two lists of files TreDiffers of the program answers as the specification's TreDiffers, path by path, in new memory, which nothing else holds; the lists read as they did. No condition.
-/
import Derived.Test.YtbhagojgnljcjaaRows
import Derived.Test.YtbhagojgnljcjaaOpenF
import Derived.Test.YtbhagojgnljcjaaWalkDifI
import Derived.Test.YtbhagojgnljcjaaRowFM
import Derived.Test.YtbhagojgnljcjaaWalkSzF
import Derived.Test.YtbhagojgnljcjaaWalkMarkU
import Derived.WalkKit
import Derived.ProofKit
import Derived.OpenShut
import Derived.ShutString
import Derived.Below
import Derived.Carry
namespace Go.Proofs.Ytbhagojgnljcjaa.fnExactTreDiffers
open Go.ChangeShapes Go.WideShapes Go.ChangeAt Go.RowKit
open Go.ChangeMaps (open_string shut_string)
set_option linter.unusedVariables false

theorem own : ownKnob Try.prog.godebug = none := by kernel_rfl
theorem laidOut : laidOutB Try.prog = true := by kernel_rfl

open Go.Proofs.Ytbhagojgnljcjaa.W in
theorem each_le (L : List TF) (j : Nat) (h : j < L.length) : (L[j]).pa.size ≤ szF L := by
  have h1 := szF_snoc L j h
  have h2 := szF_le L (j + 1)
  omega
open Go.Proofs.Ytbhagojgnljcjaa.W Go.Proofs.Ytbhagojgnljcjaa.M in
theorem treDif_own {b b' : Nat} {e e' : TypeId} (v v' : Value) (L K : List TF) (w : World) (h : w.ownsRow b e 2 v L.length (cellsF L)) (h' : w.ownsRow b' e' 2 v' K.length (cellsF K)) (hn : L.length + K.length ≤ 1048576) (ht : ∀ j (h : j < L.length), (L[j]).pa.size ≤ 1048576) (hk : ∀ j (h : j < K.length), (K[j]).pa.size ≤ 1048576) :
    Calls Try.prog 15 #[v, v'] w fun e w' => (∃ v, e = .returned v ∧ w'.ownsRow w.heap.size 9 1 v (namesB (rawA L K ++ rawB L K)).length (strs (namesB (rawA L K ++ rawB L K)))) ∧ Below w.heap.size w w' := by
  obtain ⟨A, c, rfl, rd⟩ := rdF_of_own h
  obtain ⟨A', c', rfl, rd'⟩ := rdF_of_own h'
  exact treDiffers_impl A A' c c' L K w rd rd' hn ht hk
open Go.Proofs.Ytbhagojgnljcjaa.W Go.Proofs.Ytbhagojgnljcjaa.M in
theorem treDifS_own {b b' : Nat} {e e' : TypeId} (v v' : Value) (L K : List TF) (w : World) (h : w.ownsRow b e 2 v L.length (cellsF L)) (h' : w.ownsRow b' e' 2 v' K.length (cellsF K)) (hn : L.length + K.length ≤ 1048576) :
    Calls Try.prog 14 #[v, v'] w fun e w' => (∃ v, e = .returned v ∧ w'.ownsRow w.heap.size 9 1 v (namesB (rawA L K ++ rawB L K)).length (strs (namesB (rawA L K ++ rawB L K)))) ∧ Below w.heap.size w w' := by
  obtain ⟨A, c, rfl, rd⟩ := rdF_of_own h
  obtain ⟨A', c', rfl, rd'⟩ := rdF_of_own h'
  exact treDiffers_spec A A' c c' L K w rd rd' hn
open Go.Proofs.Ytbhagojgnljcjaa.W Go.Proofs.Ytbhagojgnljcjaa.M in
set_option maxRecDepth 100000 in
set_option maxHeartbeats 8000000 in
theorem walk (A0 : Option Addr) (c0 : Nat) (L0 : List Go.Proofs.Ytbhagojgnljcjaa.W.TF) (A1 : Option Addr) (c1 : Nat) (L1 : List Go.Proofs.Ytbhagojgnljcjaa.W.TF) (w : World) (rd0 : Go.Proofs.Ytbhagojgnljcjaa.W.RdF w.heap.size w A0 L0) (n0 : L0.length ≤ maxLen) (t0 : ∀ j (h : j < L0.length), (L0[j]).pa.size ≤ maxLen ∧ (L0[j]).by_.size ≤ maxLen) (rd1 : Go.Proofs.Ytbhagojgnljcjaa.W.RdF w.heap.size w A1 L1) (n1 : L1.length ≤ maxLen) (t1 : ∀ j (h : j < L1.length), (L1[j]).pa.size ≤ maxLen ∧ (L1[j]).by_.size ≤ maxLen) :
    Calls Try.prog 4 #[.slice A0 L0.length c0, .slice A1 L1.length c1] w fun e w' => e = .returned (.bool true) ∧ Below w.heap.size w w' := by
  obtain ⟨N, hN⟩ : ∃ N, N = namesB (rawA L0 L1 ++ rawB L0 L1) := ⟨_, rfl⟩
  have ho : N.length ≤ L0.length + L1.length := by
    rw [hN]
    refine Nat.le_trans (namesB_len _) ?_
    rw [List.length_append]
    have h1 := rawA_len L0 L1
    have h2 := rawB_len L0 L1
    omega
  have HI : Hid (∀ {b b' l l2 : Nat} {e e' : TypeId} (v v' : Value) (w : World) (h : w.ownsRow b e 2 v L0.length (cellsF L0)) (h' : w.ownsRow b' e' 2 v' L1.length (cellsF L1)) (hz : l + (L0.length + szF L0) = 1048576) (hz2 : l2 + (L1.length + szF L1) = l), Calls Try.prog 15 #[v, v'] w fun e w' => (∃ v, e = .returned v ∧ w'.ownsRow w.heap.size 9 1 v N.length (strs N)) ∧ Below w.heap.size w w') := fun v v' w h h' hz hz2 => by rw [hN]; exact treDif_own v v' L0 L1 w h h' (by omega) (fun j h => by have := each_le L0 j h; omega) (fun j h => by have := each_le L1 j h; omega)
  have HP : Hid (∀ {b b' l l2 : Nat} {e e' : TypeId} (v v' : Value) (w : World) (h : w.ownsRow b e 2 v L0.length (cellsF L0)) (h' : w.ownsRow b' e' 2 v' L1.length (cellsF L1)) (hz : l + (L0.length + szF L0) = 1048576) (hz2 : l2 + (L1.length + szF L1) = l), Calls Try.prog 14 #[v, v'] w fun e w' => (∃ v, e = .returned v ∧ w'.ownsRow w.heap.size 9 1 v N.length (strs N)) ∧ Below w.heap.size w w') := fun v v' w h h' hz hz2 => by rw [hN]; exact treDifS_own v v' L0 L1 w h h' (by omega)
  clear hN
  have ta1 : True := trivial
  have ta2 : True := trivial
  have ta3 : True := trivial
  have tb1 : True := trivial
  have tb2 : True := trivial
  have tb3 : True := trivial
  go_enter Try.func4, Try.ntmps4
  go_wp2_with (first
    | (go_at_call_of 5 (Value.slice A0 L0.length c0); refine (szFS_left A0 c0 L0 1048576 _ (Nat.le_refl _) rd0 n0 t0).mono ?_; rintro e wA ⟨hx, B⟩; obtain ⟨r, rfl, hr | ⟨l, hr, hz⟩⟩ := hx; rotate_left; subst hr)
    | (go_at_call_of 5 (Value.slice A1 L1.length c1); refine (szFS_left A1 c1 L1 l _ (by omega) (rd1.up B) n1 t1).mono ?_; rintro e wB ⟨hx, hb⟩; replace B := B.trans (hb.mono B.size); clear hb; obtain ⟨r, rfl, hr | ⟨l2, hr, hz2⟩⟩ := hx; rotate_left; subst hr)
    | (go_at_call_of 7 (Value.slice A0 L0.length c0); have _t := ta1; refine (toFS_any A0 c0 L0 _ (rd0.up B) (by omega)).mono ?_; rintro e w2 ⟨⟨v1, rfl, o1⟩, hb⟩; clear _t ta1; replace B := B.trans (hb.mono B.size); clear hb)
    | (go_at_call_of 7 (Value.slice A1 L1.length c1); have _t := tb1; refine (toFS_any A1 c1 L1 _ (rd1.up B) (by omega)).mono ?_; rintro e w3 ⟨⟨v2, rfl, o2⟩, hb⟩; clear _t tb1; replace o1 := ownsUnder o1 hb (Nat.le_refl _); replace B := B.trans (hb.mono B.size); clear hb)
    | (go_at_call 14; refine (HP.out v1 v2 _ o1 o2 hz hz2).mono ?_; rintro e w4 ⟨⟨v0, rfl, o0⟩, hb⟩; replace B := B.trans (hb.mono B.size); clear hb o1 o2)
    | (go_at_call_of 7 (Value.slice A0 L0.length c0); have _t := ta2; refine (toFS_any A0 c0 L0 _ (rd0.up B) (by omega)).mono ?_; rintro e w5 ⟨⟨x, rfl, ox⟩, hb⟩; clear _t ta2; have s0x := ownsLt o0; have bx := B.size; replace o0 := ownsUnder o0 hb (Nat.le_refl _); replace B := B.trans (hb.mono B.size); clear hb)
    | (go_at_call_of 7 (Value.slice A1 L1.length c1); have _t := tb2; refine (toFS_any A1 c1 L1 _ (rd1.up B) (by omega)).mono ?_; rintro e w6 ⟨⟨z, rfl, oz⟩, hb⟩; clear _t tb2; have s0z := ownsLt o0; have sxz := ownsLt ox; have bz := B.size; replace o0 := ownsUnder o0 hb (Nat.le_refl _); replace ox := ownsUnder ox hb (Nat.le_refl _); replace B := B.trans (hb.mono B.size); clear hb)
    | (go_at_call_of 15 x; refine (HI.out x z _ ox oz hz hz2).mono ?_; rintro e w7 ⟨⟨g, rfl, og⟩, hb⟩; have sxg := ownsLt ox; have szg := ownsLt oz; have s0g := ownsLt o0; have bg := B.size; have hz4 : w6.heap.size ≤ w7.heap.size := hb.size; replace o0 := ownsUnder o0 hb (Nat.le_refl _); replace ox := ownsUnder ox hb (Nat.le_refl _); replace oz := ownsUnder oz hb (Nat.le_refl _); replace B := B.trans (hb.mono B.size); clear hb)
    | (go_at_call_of 9 g; refine (eqS_any _ _ g v0 _ _ og o0 (by omega)).mono ?_; rintro e w8 ⟨rfl, hb⟩; replace hz4 := Nat.le_trans hz4 hb.size; replace o0 := ownsUnder o0 hb (Nat.le_refl _); replace ox := ownsUnder ox hb (Nat.le_refl _); replace oz := ownsUnder oz hb (Nat.le_refl _); replace og := ownsUnder og hb (Nat.le_refl _); replace B := B.trans (hb.mono B.size); clear hb)
    | (go_at_call_of 7 (Value.slice A0 L0.length c0); have _t := ta3; refine (toFS_any A0 c0 L0 _ (rd0.up B) (by omega)).mono ?_; rintro e w9 ⟨⟨y, rfl, oy⟩, hb⟩; clear _t ta3; replace hz4 := Nat.le_trans hz4 hb.size; replace o0 := ownsUnder o0 hb (Nat.le_refl _); replace ox := ownsUnder ox hb (Nat.le_refl _); replace oz := ownsUnder oz hb (Nat.le_refl _); replace og := ownsUnder og hb (Nat.le_refl _); replace B := B.trans (hb.mono B.size); clear hb)
    | (go_at_call_of 10 y; refine (eqF_own x y _ _ ox oy (by omega)).mono ?_; rintro e w10 ⟨rfl, hb⟩; replace hz4 := Nat.le_trans hz4 hb.size; replace o0 := ownsUnder o0 hb (Nat.le_refl _); replace ox := ownsUnder ox hb (Nat.le_refl _); replace oz := ownsUnder oz hb (Nat.le_refl _); replace og := ownsUnder og hb (Nat.le_refl _); replace B := B.trans (hb.mono B.size); clear hb oy)
    | (go_at_call_of 7 (Value.slice A1 L1.length c1); have _t := tb3; refine (toFS_any A1 c1 L1 _ (rd1.up B) (by omega)).mono ?_; rintro e w11 ⟨⟨y2, rfl, oy2⟩, hb⟩; clear _t tb3; replace hz4 := Nat.le_trans hz4 hb.size; replace o0 := ownsUnder o0 hb (Nat.le_refl _); replace ox := ownsUnder ox hb (Nat.le_refl _); replace oz := ownsUnder oz hb (Nat.le_refl _); replace og := ownsUnder og hb (Nat.le_refl _); replace B := B.trans (hb.mono B.size); clear hb)
    | (go_at_call_of 10 y2; refine (eqF_own z y2 _ _ oz oy2 (by omega)).mono ?_; rintro e w12 ⟨rfl, hb⟩; replace hz4 := Nat.le_trans hz4 hb.size; replace o0 := ownsUnder o0 hb (Nat.le_refl _); replace ox := ownsUnder ox hb (Nat.le_refl _); replace oz := ownsUnder oz hb (Nat.le_refl _); replace og := ownsUnder og hb (Nat.le_refl _); replace B := B.trans (hb.mono B.size); clear hb oy2)
    | (go_at_call_of 11 x; refine (markF_from 1 x _ _ ox (by omega) (Nat.le_refl _) (by omega)).mono ?_; rintro e w13 ⟨k2, rfl, hk2, ox', hg⟩; replace hz4 := Nat.le_trans hz4 hg.size; replace o0 := keptLo o0 s0x ox hg; replace oz := keptHi oz ox sxz hg; replace og := keptHi og ox sxg hg; replace B := growOwn B B.size ox hg bx; clear ox ox' hg; have hk2a : 1 ≤ k2 := (by omega); have hk2b : k2 ≤ 3000000 := (by omega); clear hk2)
    | (go_at_call_of 11 z; refine (markF_from k2 z _ _ oz (by omega) hk2a hk2b).mono ?_; rintro e w14 ⟨k3, rfl, hk3, oz', hg⟩; replace hz4 := Nat.le_trans hz4 hg.size; replace o0 := keptLo o0 s0z oz hg; replace og := keptHi og oz szg hg; replace B := growOwn B B.size oz hg bz; clear oz oz' hg hk3; have tq : True := trivial)
    | (go_at_call_of 9 g; have _t := tq; refine (eqS_any _ _ g v0 _ _ og o0 (by omega)).mono ?_; rintro e w15 ⟨rfl, hb⟩; replace hz4 := Nat.le_trans hz4 hb.size; replace o0 := ownsUnder o0 hb (Nat.le_refl _); replace og := ownsUnder og hb (Nat.le_refl _); replace B := B.trans (hb.mono B.size); clear hb)
    | (go_at_call 12; refine (markS_row w6.heap.size g _ _ og hz4 (by omega)).mono ?_; rintro e w16 ⟨rfl, og', hb⟩; replace o0 := ownsBelow' o0 hb s0g; replace B := B.trans (hb.mono bg); clear og hb)
    | (go_at_call 13; refine (heldS_row _ g _ _ og' (by omega)).mono ?_; rintro e w17 ⟨rfl, hb⟩; replace o0 := ownsUnder o0 hb (Nat.le_refl _); replace og' := ownsUnder og' hb (Nat.le_refl _); replace B := B.trans (hb.mono B.size); clear hb)
    | (go_at_call_of 7 (Value.slice A0 L0.length c0); refine (toFS_any A0 c0 L0 _ (rd0.up B) (by omega)).mono ?_; rintro e w18 ⟨⟨p, rfl, op⟩, hb⟩; replace o0 := ownsUnder o0 hb (Nat.le_refl _); replace og' := ownsUnder og' hb (Nat.le_refl _); replace B := B.trans (hb.mono B.size); clear hb)
    | (go_at_call_of 7 (Value.slice A1 L1.length c1); refine (toFS_any A1 c1 L1 _ (rd1.up B) (by omega)).mono ?_; rintro e w19 ⟨⟨p2, rfl, op2⟩, hb⟩; replace op := ownsUnder op hb (Nat.le_refl _); replace o0 := ownsUnder o0 hb (Nat.le_refl _); replace og' := ownsUnder og' hb (Nat.le_refl _); replace B := B.trans (hb.mono B.size); clear hb)
    | (go_at_call_of 15 p; refine (HI.out p p2 _ op op2 hz hz2).mono ?_; rintro e w20 ⟨⟨h, rfl, oh⟩, hb⟩; replace o0 := ownsUnder o0 hb (Nat.le_refl _); replace og' := ownsUnder og' hb (Nat.le_refl _); replace B := B.trans (hb.mono B.size); clear hb op op2)
    | (go_at_call_of 9 h; refine (eqS_any _ _ h v0 _ _ oh o0 (by omega)).mono ?_; rintro e w21 ⟨rfl, hb⟩; replace o0 := ownsUnder o0 hb (Nat.le_refl _); replace og' := ownsUnder og' hb (Nat.le_refl _); replace B := B.trans (hb.mono B.size); clear hb))
  all_goals
    go_ret
    exact ⟨rfl, B⟩

set_option maxRecDepth 100000 in
theorem lifted (os : Os) (started : os.Started) (H : Type) (enc : TypeId × Value → H) :
    ReturnsInHanded {} Try.checked os 4 .any (Rows.fnExactTreDiffersSpec.pre6 enc Try.prog Try.f4 Rows.fnExactTreDiffersRow.domain false) (Rows.fnExactTreDiffersSpec.post enc Try.prog Try.f4 false true false false) := by
  refine returnsInHanded_of_change (C := Try.checked) own started (by kernel_rfl) Try.func4
    (ChangeSpec.witness6 (enc := enc) (C := Try.checked) false ⟨#[], #[.slice none 0 0, .slice none 0 0], []⟩ 8 (by kernel_rfl) (by kernel_rfl) (by kernel_rfl) (by kernel_rfl)) ?_
  intro W base args ds gs before hval0 hW hcnd _
  have hval : ∀ (j : Nat) t v, Try.f4.params[j]? = some t → args[j]? = some v → Value.okWide Try.prog W .any base t v := hval0
  have hW' := hW
  obtain ⟨p, q, hA0, hV, rfl, hfz, hnd⟩ := hW
  have hA : DataW.TrodAll enc Try.prog W 0 (fun _ => true) true Try.f4.params.toList args.toList ds p := hA0
  rw [Try.params4] at hA hval
  obtain ⟨v0, vs0, d0, ds0, p0, q0, hargs, rfl, rfl, h0, r0⟩ := trodAll_cons hA
  obtain ⟨v1, vs1, d1, ds1, p1, q1, rfl, rfl, rfl, h1, r1⟩ := trodAll_cons r0
  obtain ⟨rfl, rfl, rfl⟩ := trodAll_nil r1
  obtain rfl : args = #[v0, v1] := by cases args; simp_all
  obtain ⟨rfl, rfl⟩ := trodVars_none hV
  have k0 := h0
  have k1 := h1
  obtain ⟨A0, c0, L0, rfl, rd0, n0, t0⟩ := Go.Proofs.Ytbhagojgnljcjaa.W.open_F h0 (okWide_slice Try.underlying22 (hval 0 22 v0 rfl rfl))
  obtain ⟨A1, c1, L1, rfl, rd1, n1, t1⟩ := Go.Proofs.Ytbhagojgnljcjaa.W.open_F h1 (okWide_slice Try.underlying22 (hval 1 22 v1 rfl rfl))
  clear hA0 hval0
  simp only [List.append_nil] at hW'
  refine (walk A0 c0 L0 A1 c1 L1 W rd0 n0 t0 rd1 n1 t1).mono fun e W' ⟨he, hg⟩ => ?_
  subst he
  exact ⟨_, rfl, _, _, _, [], _, [], hW', (trodAll_cons_mk (shut_bool Try.underlying4 _) trodAll_mk0), (trodAll_cons_mk (Below.trod laidOut (by kernel_rfl) (of_decide_eq_true (by kernel_rfl)) k0 hg (fun x hx => hW'.lt x (by first | (simp [hx]; done) | simp at hx))) (trodAll_cons_mk (Below.trod laidOut (by kernel_rfl) (of_decide_eq_true (by kernel_rfl)) k1 hg (fun x hx => hW'.lt x (by first | (simp [hx]; done) | simp at hx))) trodAll_mk0)), rfl, hg.frame _, fun h => by cases h⟩

theorem over : Rows.fnExactTreDiffersRow.holds Try.pinned (OpenSpec.ofChange Rows.fnExactTreDiffersSpec) :=
  OpenClaim.holds_of_wide 4 Try.f4 rfl rfl rfl rfl rfl rfl rfl ⟨rfl, rfl, rfl, rfl, rfl⟩ rfl rfl rfl rfl rfl (by kernel_rfl) Try.func4 (by kernel_rfl)
    (of_decide_eq_true (by kernel_rfl)) (by unfold Func.isWrapper; first | (rw [if_pos (by decide +kernel)]; kernel_rfl) | (rw [if_neg (by decide +kernel)]; exact ⟨rfl, rfl⟩))
    (fun os started H enc _ => lifted os started H enc)

theorem proved : Rows.FnExactTreDiffersSaid :=
  over
#print axioms proved
end Go.Proofs.Ytbhagojgnljcjaa.fnExactTreDiffers
