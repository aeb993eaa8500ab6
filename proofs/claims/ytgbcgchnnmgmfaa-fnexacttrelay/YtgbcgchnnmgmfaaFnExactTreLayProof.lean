/-
  At every list of files TreLay of the program answers as the specification's TreLay, text by text, and the same id, in new memory, which nothing else holds; the list reads as it did. No condition.
-/
import Derived.Test.YtgbcgchnnmgmfaaRows
import Derived.Test.YtgbcgchnnmgmfaaOpenF
import Derived.Test.YtgbcgchnnmgmfaaWalkLayK
import Derived.Test.YtgbcgchnnmgmfaaWalkSzF
import Derived.Test.YtgbcgchnnmgmfaaWalkMarkU
import Derived.WalkKit
import Derived.ProofKit
import Derived.OpenShut
import Derived.ShutString
import Derived.Below
import Derived.Carry
namespace Go.Proofs.Ytgbcgchnnmgmfaa.fnExactTreLay
open Go.ChangeShapes Go.WideShapes Go.ChangeAt Go.RowKit
open Go.ChangeMaps (open_string shut_string)
set_option linter.unusedVariables false

theorem own : ownKnob Try.prog.godebug = none := by kernel_rfl
theorem laidOut : laidOutB Try.prog = true := by kernel_rfl

open Go.Proofs.Ytgbcgchnnmgmfaa.W in
theorem each_leF (L : List TF) (j : Nat) (h : j < L.length) : (L[j]).pa.size ≤ szF L ∧ (L[j]).by_.size ≤ szF L := by
  have h1 := szF_snoc L j h
  have h2 := szF_le L (j + 1)
  omega
open Go.Proofs.Ytgbcgchnnmgmfaa.W Go.Proofs.Ytgbcgchnnmgmfaa.M in
theorem small_of (L : List TF) (hz : L.length + szF L ≤ 1048576) : smallF 1048576 L := fun x hx => by
  obtain ⟨j, hj, rfl⟩ := List.getElem_of_mem hx
  have := each_leF L j hj
  omega
open Go.Proofs.Ytgbcgchnnmgmfaa.W Go.Proofs.Ytgbcgchnnmgmfaa.M in
theorem layS_own {b : Nat} {e : TypeId} (v : Value) (L : List TF) (w : World) (h : w.ownsRow b e 2 v L.length (cellsF L)) (hz : L.length + szF L ≤ 1048576) :
    Calls Try.prog 5 #[v] w fun e w' => (∃ v, e = .returned (.tuple #[v, .int .i64 (texI L)]) ∧ w'.ownsRow w.heap.size 9 1 v (texT L).length (strs (sL (texT L)))) ∧ Below w.heap.size w w' := by
  obtain ⟨A, c, rfl, rd⟩ := rdF_of_own h
  exact treLay_spec A c L w rd (by omega) (small_of L hz)
open Go.Proofs.Ytgbcgchnnmgmfaa.W Go.Proofs.Ytgbcgchnnmgmfaa.M in
theorem layI_own {b : Nat} {e : TypeId} (v : Value) (L : List TF) (w : World) (h : w.ownsRow b e 2 v L.length (cellsF L)) (hz : L.length + szF L ≤ 1048576) :
    Calls Try.prog 7 #[v] w fun e w' => (∃ v, e = .returned (.tuple #[v, .int .i64 (texI L)]) ∧ w'.ownsRow w.heap.size 9 1 v (texT L).length (strs (sL (texT L)))) ∧ Below w.heap.size w w' := by
  have hl := h.lt
  obtain ⟨A, c, e, rd⟩ := rdF_of_own h
  rcases h.2 with ⟨e2, h0⟩ | ⟨g, c2, cur, e2, h1, h2, h3, h4, _⟩
  · rw [e] at e2
    injection e2 with e3 e4 e5
    subst e3
    subst e5
    subst e
    exact treLay_impl none 0 L w rd (by omega) (by unfold maxLen; omega) (fun b o e => by cases e) (by omega) (small_of L hz)
  · have hg : g < w.heap.size := (Array.getElem?_eq_some_iff.1 h2).1
    rw [e] at e2
    injection e2 with e3 e4 e5
    subst e3
    subst e5
    subst e
    exact treLay_impl _ c L w rd h3 h4 (fun b o e => by obtain ⟨rfl, _⟩ : g = b ∧ 0 = o := by simpa using e
                                                        exact hg) (by omega) (small_of L hz)
open Go.Proofs.Ytgbcgchnnmgmfaa.W Go.Proofs.Ytgbcgchnnmgmfaa.M in
theorem markS_big (base : Nat) (v : Value) (L : List (List UInt8)) (w : World) (o : w.ownsRow base 9 1 v L.length (strs L)) (hbase : base ≤ w.heap.size) (hL : L.length ≤ 90000000) :
    Calls Try.prog 11 #[v, .int .i64 1] w fun e w' => e = .returned (.int .i64 ((1 + L.length : Nat) : Int)) ∧ w'.ownsRow base 9 1 v L.length (strs (marks 1 L.length)) ∧ Below base w w' := by
  by_cases h0 : L.length = 0
  · exact markS_row base v L w o hbase (by omega)
  · rcases o.2 with ⟨_, h⟩ | ⟨g, cap, _, rfl, hg, _⟩
    · exact absurd h h0
    · exact markS_any base g cap 1 L w o hbase hg (by omega) (by omega)
open Go.Proofs.Ytgbcgchnnmgmfaa.W Go.Proofs.Ytgbcgchnnmgmfaa.M in
theorem heldS_big (base : Nat) (v : Value) (n : Nat) (w : World) (o : w.ownsRow base 9 1 v n (strs (marks 1 n))) (hL : n ≤ 90000000) :
    Calls Try.prog 12 #[v, .int .i64 1] w fun e w' => e = .returned (.int .i64 ((1 + n : Nat) : Int)) ∧ Below w.heap.size w w' := by
  by_cases h0 : n = 0
  · exact heldS_row base v n w o (by omega)
  · rcases o.2 with ⟨_, h⟩ | ⟨g, cap, _, rfl, _⟩
    · exact absurd h h0
    · exact heldS_any base g cap 1 n w o (by omega) (by omega)
open Go.Proofs.Ytgbcgchnnmgmfaa.W Go.Proofs.Ytgbcgchnnmgmfaa.M in
set_option maxRecDepth 100000 in
set_option maxHeartbeats 8000000 in
theorem walk (A0 : Option Addr) (c0 : Nat) (L0 : List Go.Proofs.Ytgbcgchnnmgmfaa.W.TF) (w : World) (rd0 : Go.Proofs.Ytgbcgchnnmgmfaa.W.RdF w.heap.size w A0 L0) (n0 : L0.length ≤ maxLen) (t0 : ∀ j (h : j < L0.length), (L0[j]).pa.size ≤ maxLen ∧ (L0[j]).by_.size ≤ maxLen) :
    Calls Try.prog 3 #[.slice A0 L0.length c0] w fun e w' => e = .returned (.bool true) ∧ Below w.heap.size w w' := by
  have tk1 : True := trivial
  have tk2 : True := trivial
  have tk3 : True := trivial
  obtain ⟨N, hN⟩ : ∃ N, N = sL (texT L0) := ⟨_, rfl⟩
  obtain ⟨id, hid⟩ : ∃ id, id = texI L0 := ⟨_, rfl⟩
  have ho : N.length ≤ 13400000 := by rw [hN, sL_len]; exact texT_len L0
  have HI : Hid (∀ {b : Nat} {e : TypeId} (v : Value) (w : World) (h : w.ownsRow b e 2 v L0.length (cellsF L0)) (hz : L0.length + szF L0 ≤ 1048576), Calls Try.prog 7 #[v] w fun e w' => (∃ v, e = .returned (.tuple #[v, .int .i64 id]) ∧ w'.ownsRow w.heap.size 9 1 v N.length (strs N)) ∧ Below w.heap.size w w') := fun v w h hz => by
    have := layI_own v L0 w h hz
    rw [← sL_len (texT L0)] at this
    rw [hN, hid]
    exact this
  have HP : Hid (∀ {b : Nat} {e : TypeId} (v : Value) (w : World) (h : w.ownsRow b e 2 v L0.length (cellsF L0)) (hz : L0.length + szF L0 ≤ 1048576), Calls Try.prog 5 #[v] w fun e w' => (∃ v, e = .returned (.tuple #[v, .int .i64 id]) ∧ w'.ownsRow w.heap.size 9 1 v N.length (strs N)) ∧ Below w.heap.size w w') := fun v w h hz => by
    have := layS_own v L0 w h hz
    rw [← sL_len (texT L0)] at this
    rw [hN, hid]
    exact this
  have hkk : (((id : Nat) : Int) != ((id : Nat) : Int)) = false := by simp
  clear hN hid
  go_enter Try.func3, Try.ntmps3
  go_wp2_with (first
    | (go_at_call 4; refine (szFS_any A0 c0 L0 _ rd0 n0 t0).mono ?_; rintro e wA ⟨⟨r, rfl, hr | ⟨hr, hz⟩⟩, B⟩)
    | (go_at_call 6; have _t := tk1; refine (toFS_any A0 c0 L0 _ (rd0.up B) (by omega)).mono ?_; rintro e w2 ⟨⟨v1, rfl, o1⟩, hb⟩; clear _t tk1; replace B := B.trans (hb.mono B.size); clear hb)
    | (go_at_call 5; refine (HP.out v1 _ o1 hz).mono ?_; rintro e w3 ⟨⟨v0, rfl, o0⟩, hb⟩; replace B := B.trans (hb.mono B.size); clear hb o1)
    | (go_at_call 6; have _t := tk2; refine (toFS_any A0 c0 L0 _ (rd0.up B) (by omega)).mono ?_; rintro e w4 ⟨⟨x, rfl, ox⟩, hb⟩; clear _t tk2; have s0x := ownsLt o0; have bx := B.size; replace o0 := ownsUnder o0 hb (Nat.le_refl _); replace B := B.trans (hb.mono B.size); clear hb)
    | (go_at_call_of 7 x; refine (HI.out x _ ox hz).mono ?_; rintro e w5 ⟨⟨g, rfl, og⟩, hb⟩; have sxg := ownsLt ox; have s0g := ownsLt o0; have bg := B.size; have hz4 : w4.heap.size ≤ w5.heap.size := hb.size; replace o0 := ownsUnder o0 hb (Nat.le_refl _); replace ox := ownsUnder ox hb (Nat.le_refl _); replace B := B.trans (hb.mono B.size); clear hb)
    | (go_at_call_of 8 g; refine (eqS_any _ _ g v0 _ _ og o0 (by omega)).mono ?_; rintro e w6 ⟨rfl, hb⟩; replace hz4 := Nat.le_trans hz4 hb.size; replace o0 := ownsUnder o0 hb (Nat.le_refl _); replace ox := ownsUnder ox hb (Nat.le_refl _); replace og := ownsUnder og hb (Nat.le_refl _); replace B := B.trans (hb.mono B.size); clear hb)
    | (go_at_call 6; have _t := tk3; refine (toFS_any A0 c0 L0 _ (rd0.up B) (by omega)).mono ?_; rintro e w7 ⟨⟨y, rfl, oy⟩, hb⟩; clear _t tk3; replace hz4 := Nat.le_trans hz4 hb.size; replace o0 := ownsUnder o0 hb (Nat.le_refl _); replace ox := ownsUnder ox hb (Nat.le_refl _); replace og := ownsUnder og hb (Nat.le_refl _); replace B := B.trans (hb.mono B.size); clear hb)
    | (go_at_call_of 9 y; refine (eqF_own x y _ _ ox oy (by omega)).mono ?_; rintro e w8 ⟨rfl, hb⟩; replace hz4 := Nat.le_trans hz4 hb.size; replace o0 := ownsUnder o0 hb (Nat.le_refl _); replace ox := ownsUnder ox hb (Nat.le_refl _); replace og := ownsUnder og hb (Nat.le_refl _); replace B := B.trans (hb.mono B.size); clear hb oy)
    | (go_at_call_of 10 x; refine (markF_own x _ _ ox (by omega)).mono ?_; rintro e w9 ⟨rfl, ox', hg⟩; replace hz4 := Nat.le_trans hz4 hg.size; replace o0 := keptLo o0 s0x ox hg; replace og := keptHi og ox sxg hg; replace B := growOwn B B.size ox hg bx; replace ox := ox'; clear ox' hg)
    | (go_at_call 11; refine (markS_big w4.heap.size g _ _ og hz4 (by omega)).mono ?_; rintro e w10 ⟨rfl, og', hb⟩; replace o0 := ownsBelow' o0 hb s0g; replace B := B.trans (hb.mono bg); clear og hb ox)
    | (go_at_call 12; refine (heldS_big _ g _ _ og' (by omega)).mono ?_; rintro e w11 ⟨rfl, hb⟩; replace o0 := ownsUnder o0 hb (Nat.le_refl _); replace og' := ownsUnder og' hb (Nat.le_refl _); replace B := B.trans (hb.mono B.size); clear hb)
    | (go_at_call 6; refine (toFS_any A0 c0 L0 _ (rd0.up B) (by omega)).mono ?_; rintro e w12 ⟨⟨z, rfl, oz⟩, hb⟩; replace o0 := ownsUnder o0 hb (Nat.le_refl _); replace og' := ownsUnder og' hb (Nat.le_refl _); replace B := B.trans (hb.mono B.size); clear hb)
    | (go_at_call_of 7 z; refine (HI.out z _ oz hz).mono ?_; rintro e w13 ⟨⟨h, rfl, oh⟩, hb⟩; replace o0 := ownsUnder o0 hb (Nat.le_refl _); replace og' := ownsUnder og' hb (Nat.le_refl _); replace B := B.trans (hb.mono B.size); clear hb oz)
    | (go_at_call_of 8 h; refine (eqS_any _ _ h v0 _ _ oh o0 (by omega)).mono ?_; rintro e w14 ⟨rfl, hb⟩; replace o0 := ownsUnder o0 hb (Nat.le_refl _); replace og' := ownsUnder og' hb (Nat.le_refl _); replace B := B.trans (hb.mono B.size); clear hb))
  all_goals
    go_ret
    exact ⟨rfl, B⟩

set_option maxRecDepth 100000 in
theorem lifted (os : Os) (started : os.Started) (H : Type) (enc : TypeId × Value → H) :
    ReturnsInHanded {} Try.checked os 3 .any (Rows.fnExactTreLaySpec.pre6 enc Try.prog Try.f3 Rows.fnExactTreLayRow.domain false) (Rows.fnExactTreLaySpec.post enc Try.prog Try.f3 false true false false) := by
  refine returnsInHanded_of_change (C := Try.checked) own started (by kernel_rfl) Try.func3
    (ChangeSpec.witness6 (enc := enc) (C := Try.checked) false ⟨#[], #[.slice none 0 0], []⟩ 8 (by kernel_rfl) (by kernel_rfl) (by kernel_rfl) (by kernel_rfl)) ?_
  intro W base args ds gs before hval0 hW hcnd _
  have hval : ∀ (j : Nat) t v, Try.f3.params[j]? = some t → args[j]? = some v → Value.okWide Try.prog W .any base t v := hval0
  have hW' := hW
  obtain ⟨p, q, hA0, hV, rfl, hfz, hnd⟩ := hW
  have hA : DataW.TrodAll enc Try.prog W 0 (fun _ => true) true Try.f3.params.toList args.toList ds p := hA0
  rw [Try.params3] at hA hval
  obtain ⟨v0, vs0, d0, ds0, p0, q0, hargs, rfl, rfl, h0, r0⟩ := trodAll_cons hA
  obtain ⟨rfl, rfl, rfl⟩ := trodAll_nil r0
  obtain rfl : args = #[v0] := by cases args; simp_all
  obtain ⟨rfl, rfl⟩ := trodVars_none hV
  have k0 := h0
  obtain ⟨A0, c0, L0, rfl, rd0, n0, t0⟩ := Go.Proofs.Ytgbcgchnnmgmfaa.W.open_F h0 (okWide_slice Try.underlying22 (hval 0 22 v0 rfl rfl))
  clear hA0 hval0
  simp only [List.append_nil] at hW'
  refine (walk A0 c0 L0 W rd0 n0 t0).mono fun e W' ⟨he, hg⟩ => ?_
  subst he
  exact ⟨_, rfl, _, _, _, [], _, [], hW', (trodAll_cons_mk (shut_bool Try.underlying4 _) trodAll_mk0), (trodAll_cons_mk (Below.trod laidOut (by kernel_rfl) (of_decide_eq_true (by kernel_rfl)) k0 hg (fun x hx => hW'.lt x (by first | (simp [hx]; done) | simp at hx))) trodAll_mk0), rfl, hg.frame _, fun h => by cases h⟩

theorem over : Rows.fnExactTreLayRow.holds Try.pinned (OpenSpec.ofChange Rows.fnExactTreLaySpec) :=
  OpenClaim.holds_of_wide 3 Try.f3 rfl rfl rfl rfl rfl rfl rfl ⟨rfl, rfl, rfl, rfl, rfl⟩ rfl rfl rfl rfl rfl (by kernel_rfl) Try.func3 (by kernel_rfl)
    (of_decide_eq_true (by kernel_rfl)) (by unfold Func.isWrapper; first | (rw [if_pos (by decide +kernel)]; kernel_rfl) | (rw [if_neg (by decide +kernel)]; exact ⟨rfl, rfl⟩))
    (fun os started H enc _ => lifted os started H enc)

theorem proved : Rows.FnExactTreLaySaid :=
  over
#print axioms proved
end Go.Proofs.Ytgbcgchnnmgmfaa.fnExactTreLay
