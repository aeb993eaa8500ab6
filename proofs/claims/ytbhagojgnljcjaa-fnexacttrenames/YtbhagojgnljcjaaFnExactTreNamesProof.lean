/-
  At every list of files and every text TreNames of the program answers as the specification's TreNames, name by name, in new memory, which nothing else holds; the list reads as it did. No condition.
-/
import Derived.Test.YtbhagojgnljcjaaRows
import Derived.Test.YtbhagojgnljcjaaOpenF
import Derived.Test.YtbhagojgnljcjaaWalkTNai
import Derived.Test.YtbhagojgnljcjaaRowFM
import Derived.Test.YtbhagojgnljcjaaWalkMarkU
import Derived.WalkKit
import Derived.ProofKit
import Derived.OpenShut
import Derived.ShutString
import Derived.Below
import Derived.Carry
namespace Go.Proofs.Ytbhagojgnljcjaa.fnExactTreNames
open Go.ChangeShapes Go.WideShapes Go.ChangeAt Go.RowKit
open Go.ChangeMaps (open_string shut_string)
set_option linter.unusedVariables false

theorem own : ownKnob Try.prog.godebug = none := by kernel_rfl
theorem laidOut : laidOutB Try.prog = true := by kernel_rfl

open Go.Proofs.Ytbhagojgnljcjaa.W in
theorem each_le (L : List TF) (j : Nat) (h : j < L.length) : (L[j]).pa.size ≤ szF L := by
  have h1 := szF_snoc L j h
  have h2 := szF_le L (j + 1)
  omega
open Go.Proofs.Ytbhagojgnljcjaa.W Go.Proofs.Ytbhagojgnljcjaa.M in
theorem treNames_own {b : Nat} {e : TypeId} (v : Value) (L : List TF) (p : ByteArray) (w : World) (h : w.ownsRow b e 2 v L.length (cellsF L)) (hn : L.length ≤ 1048576) (hp : p.size ≤ 1048576) (ht : ∀ j (h : j < L.length), (L[j]).pa.size ≤ 1048576) :
    Calls Try.prog 8 #[v, .string p] w fun e w' => (∃ v, e = .returned v ∧ w'.ownsRow w.heap.size 9 1 v (namesB (rawN L p.data.toList)).length (strs (namesB (rawN L p.data.toList)))) ∧ Below w.heap.size w w' := by
  obtain ⟨A, c, rfl, rd⟩ := rdF_of_own h
  exact treNames_impl A c L p w rd hn hp ht
open Go.Proofs.Ytbhagojgnljcjaa.W Go.Proofs.Ytbhagojgnljcjaa.M in
theorem treNamesS_own {b : Nat} {e : TypeId} (v : Value) (L : List TF) (p : ByteArray) (w : World) (h : w.ownsRow b e 2 v L.length (cellsF L)) (hn : L.length ≤ 1048576) (hp : p.size ≤ 1048576) (ht : ∀ j (h : j < L.length), (L[j]).pa.size ≤ 1048576) :
    Calls Try.prog 6 #[v, .string p] w fun e w' => (∃ v, e = .returned v ∧ w'.ownsRow w.heap.size 9 1 v (namesB (rawN L p.data.toList)).length (strs (namesB (rawN L p.data.toList)))) ∧ Below w.heap.size w w' := by
  obtain ⟨A, c, rfl, rd⟩ := rdF_of_own h
  exact treNames_spec A c L p w rd hn hp ht
open Go.Proofs.Ytbhagojgnljcjaa.W Go.Proofs.Ytbhagojgnljcjaa.M in
set_option maxHeartbeats 4000000 in
theorem walk (A0 : Option Addr) (c0 : Nat) (L0 : List Go.Proofs.Ytbhagojgnljcjaa.W.TF) (a1 : ByteArray) (w1 : a1.size ≤ maxLen) (w : World) (rd0 : Go.Proofs.Ytbhagojgnljcjaa.W.RdF w.heap.size w A0 L0) (n0 : L0.length ≤ maxLen) (t0 : ∀ j (h : j < L0.length), (L0[j]).pa.size ≤ maxLen ∧ (L0[j]).by_.size ≤ maxLen) :
    Calls Try.prog 3 #[.slice A0 L0.length c0, .string a1] w fun e w' => e = .returned (.bool true) ∧ Below w.heap.size w w' := by
  by_cases hbig : 1048576 < a1.size
  · unfold maxLen at w1
    go_enter Try.func3, Try.ntmps3
    go_wp2
    go_ret
    exact ⟨rfl, Below.refl _ _⟩
  have hp : a1.size ≤ 1048576 := by omega
  have ht : L0.length + szF L0 ≤ 1048576 → ∀ j (h : j < L0.length), (L0[j]).pa.size ≤ 1048576 := fun hz j h => by have := each_le L0 j h; omega
  have HBg : Hid (¬ 1048576 < a1.size) := hbig
  clear hbig
  have tk1 : True := trivial
  have tk2 : True := trivial
  have tk3 : True := trivial
  obtain ⟨N, hN⟩ : ∃ N, N = namesB (rawN L0 a1.data.toList) := ⟨_, rfl⟩
  have ho : N.length ≤ L0.length := by rw [hN]; exact Nat.le_trans (namesB_len _) (rawN_len _ _)
  have HI : Hid (∀ {b : Nat} {e : TypeId} (v : Value) (w : World) (h : w.ownsRow b e 2 v L0.length (cellsF L0)) (hz : L0.length + szF L0 ≤ 1048576), Calls Try.prog 8 #[v, .string a1] w fun e w' => (∃ v, e = .returned v ∧ w'.ownsRow w.heap.size 9 1 v N.length (strs N)) ∧ Below w.heap.size w w') := fun v w h hz => by rw [hN]; exact treNames_own v L0 a1 w h (by omega) hp (ht hz)
  have HP : Hid (∀ {b : Nat} {e : TypeId} (v : Value) (w : World) (h : w.ownsRow b e 2 v L0.length (cellsF L0)) (hz : L0.length + szF L0 ≤ 1048576), Calls Try.prog 6 #[v, .string a1] w fun e w' => (∃ v, e = .returned v ∧ w'.ownsRow w.heap.size 9 1 v N.length (strs N)) ∧ Below w.heap.size w w') := fun v w h hz => by rw [hN]; exact treNamesS_own v L0 a1 w h (by omega) hp (ht hz)
  clear hN ht
  go_enter Try.func3, Try.ntmps3
  go_wp2_with (first
    | (go_at_call 5; refine (szFS_any A0 c0 L0 _ rd0 n0 t0).mono ?_; rintro e wA ⟨⟨r, rfl, hr | ⟨hr, hz⟩⟩, B⟩)
    | (go_at_call 7; have _t := tk1; refine (toFS_any A0 c0 L0 _ (rd0.up B) (by omega)).mono ?_; rintro e w2 ⟨⟨v1, rfl, o1⟩, hb⟩; clear _t tk1; replace B := B.trans (hb.mono B.size); clear hb)
    | (go_at_call 6; refine (HP.out v1 _ o1 hz).mono ?_; rintro e w3 ⟨⟨v0, rfl, o0⟩, hb⟩; replace B := B.trans (hb.mono B.size); clear hb o1)
    | (go_at_call 7; have _t := tk2; refine (toFS_any A0 c0 L0 _ (rd0.up B) (by omega)).mono ?_; rintro e w4 ⟨⟨x, rfl, ox⟩, hb⟩; clear _t tk2; have s0x := ownsLt o0; have bx := B.size; replace o0 := ownsUnder o0 hb (Nat.le_refl _); replace B := B.trans (hb.mono B.size); clear hb)
    | (go_at_call_of 8 x; refine (HI.out x _ ox hz).mono ?_; rintro e w5 ⟨⟨g, rfl, og⟩, hb⟩; have sxg := ownsLt ox; have s0g := ownsLt o0; have bg := B.size; have hz4 : w4.heap.size ≤ w5.heap.size := hb.size; replace o0 := ownsUnder o0 hb (Nat.le_refl _); replace ox := ownsUnder ox hb (Nat.le_refl _); replace B := B.trans (hb.mono B.size); clear hb)
    | (go_at_call_of 9 g; refine (eqS_any _ _ g v0 _ _ og o0 (by omega)).mono ?_; rintro e w6 ⟨rfl, hb⟩; replace hz4 := Nat.le_trans hz4 hb.size; replace o0 := ownsUnder o0 hb (Nat.le_refl _); replace ox := ownsUnder ox hb (Nat.le_refl _); replace og := ownsUnder og hb (Nat.le_refl _); replace B := B.trans (hb.mono B.size); clear hb)
    | (go_at_call 7; have _t := tk3; refine (toFS_any A0 c0 L0 _ (rd0.up B) (by omega)).mono ?_; rintro e w7 ⟨⟨y, rfl, oy⟩, hb⟩; clear _t tk3; replace hz4 := Nat.le_trans hz4 hb.size; replace o0 := ownsUnder o0 hb (Nat.le_refl _); replace ox := ownsUnder ox hb (Nat.le_refl _); replace og := ownsUnder og hb (Nat.le_refl _); replace B := B.trans (hb.mono B.size); clear hb)
    | (go_at_call_of 10 y; refine (eqF_own x y _ _ ox oy (by omega)).mono ?_; rintro e w8 ⟨rfl, hb⟩; replace hz4 := Nat.le_trans hz4 hb.size; replace o0 := ownsUnder o0 hb (Nat.le_refl _); replace ox := ownsUnder ox hb (Nat.le_refl _); replace og := ownsUnder og hb (Nat.le_refl _); replace B := B.trans (hb.mono B.size); clear hb oy)
    | (go_at_call_of 11 x; refine (markF_own x _ _ ox (by omega)).mono ?_; rintro e w9 ⟨rfl, ox', hg⟩; replace hz4 := Nat.le_trans hz4 hg.size; replace o0 := keptLo o0 s0x ox hg; replace og := keptHi og ox sxg hg; replace B := growOwn B B.size ox hg bx; replace ox := ox'; clear ox' hg)
    | (go_at_call 12; refine (markS_row w4.heap.size g _ _ og hz4 (by omega)).mono ?_; rintro e w10 ⟨rfl, og', hb⟩; replace o0 := ownsBelow' o0 hb s0g; replace B := B.trans (hb.mono bg); clear og hb ox)
    | (go_at_call 13; refine (heldS_row _ g _ _ og' (by omega)).mono ?_; rintro e w11 ⟨rfl, hb⟩; replace o0 := ownsUnder o0 hb (Nat.le_refl _); replace og' := ownsUnder og' hb (Nat.le_refl _); replace B := B.trans (hb.mono B.size); clear hb)
    | (go_at_call 7; refine (toFS_any A0 c0 L0 _ (rd0.up B) (by omega)).mono ?_; rintro e w12 ⟨⟨z, rfl, oz⟩, hb⟩; replace o0 := ownsUnder o0 hb (Nat.le_refl _); replace og' := ownsUnder og' hb (Nat.le_refl _); replace B := B.trans (hb.mono B.size); clear hb)
    | (go_at_call_of 8 z; refine (HI.out z _ oz hz).mono ?_; rintro e w13 ⟨⟨h, rfl, oh⟩, hb⟩; replace o0 := ownsUnder o0 hb (Nat.le_refl _); replace og' := ownsUnder og' hb (Nat.le_refl _); replace B := B.trans (hb.mono B.size); clear hb oz)
    | (go_at_call_of 9 h; refine (eqS_any _ _ h v0 _ _ oh o0 (by omega)).mono ?_; rintro e w14 ⟨rfl, hb⟩; replace o0 := ownsUnder o0 hb (Nat.le_refl _); replace og' := ownsUnder og' hb (Nat.le_refl _); replace B := B.trans (hb.mono B.size); clear hb))
  all_goals
    go_ret
    exact ⟨rfl, B⟩

set_option maxRecDepth 100000 in
theorem lifted (os : Os) (started : os.Started) (H : Type) (enc : TypeId × Value → H) :
    ReturnsInHanded {} Try.checked os 3 .any (Rows.fnExactTreNamesSpec.pre6 enc Try.prog Try.f3 Rows.fnExactTreNamesRow.domain false) (Rows.fnExactTreNamesSpec.post enc Try.prog Try.f3 false true false false) := by
  refine returnsInHanded_of_change (C := Try.checked) own started (by kernel_rfl) Try.func3
    (ChangeSpec.witness6 (enc := enc) (C := Try.checked) false ⟨#[], #[.slice none 0 0, .string ByteArray.empty], []⟩ 8 (by kernel_rfl) (by kernel_rfl) (by kernel_rfl) (by kernel_rfl)) ?_
  intro W base args ds gs before hval0 hW hcnd _
  have hval : ∀ (j : Nat) t v, Try.f3.params[j]? = some t → args[j]? = some v → Value.okWide Try.prog W .any base t v := hval0
  have hW' := hW
  obtain ⟨p, q, hA0, hV, rfl, hfz, hnd⟩ := hW
  have hA : DataW.TrodAll enc Try.prog W 0 (fun _ => true) true Try.f3.params.toList args.toList ds p := hA0
  rw [Try.params3] at hA hval
  obtain ⟨v0, vs0, d0, ds0, p0, q0, hargs, rfl, rfl, h0, r0⟩ := trodAll_cons hA
  obtain ⟨v1, vs1, d1, ds1, p1, q1, rfl, rfl, rfl, h1, r1⟩ := trodAll_cons r0
  obtain ⟨rfl, rfl, rfl⟩ := trodAll_nil r1
  obtain rfl : args = #[v0, v1] := by cases args; simp_all
  obtain ⟨rfl, rfl⟩ := trodVars_none hV
  have k0 := h0
  have k1 := h1
  obtain ⟨A0, c0, L0, rfl, rd0, n0, t0⟩ := Go.Proofs.Ytbhagojgnljcjaa.W.open_F h0 (okWide_slice Try.underlying22 (hval 0 22 v0 rfl rfl))
  obtain ⟨a1, rfl, rfl, rfl, w1⟩ := open_string Try.underlying9 (hval 1 9 v1 rfl rfl) h1
  clear hA0 hval0
  simp only [List.append_nil] at hW'
  refine (walk A0 c0 L0 a1 w1 W rd0 n0 t0).mono fun e W' ⟨he, hg⟩ => ?_
  subst he
  exact ⟨_, rfl, _, _, _, [], _, [], hW', (trodAll_cons_mk (shut_bool Try.underlying4 _) trodAll_mk0), (trodAll_cons_mk (Below.trod laidOut (by kernel_rfl) (of_decide_eq_true (by kernel_rfl)) k0 hg (fun x hx => hW'.lt x (by first | (simp [hx]; done) | simp at hx))) (trodAll_cons_mk (Below.trod laidOut (by kernel_rfl) (of_decide_eq_true (by kernel_rfl)) k1 hg (fun x hx => hW'.lt x (by first | (simp [hx]; done) | simp at hx))) trodAll_mk0)), rfl, hg.frame _, fun h => by cases h⟩

theorem over : Rows.fnExactTreNamesRow.holds Try.pinned (OpenSpec.ofChange Rows.fnExactTreNamesSpec) :=
  OpenClaim.holds_of_wide 3 Try.f3 rfl rfl rfl rfl rfl rfl rfl ⟨rfl, rfl, rfl, rfl, rfl⟩ rfl rfl rfl rfl rfl (by kernel_rfl) Try.func3 (by kernel_rfl)
    (of_decide_eq_true (by kernel_rfl)) (by unfold Func.isWrapper; first | (rw [if_pos (by decide +kernel)]; kernel_rfl) | (rw [if_neg (by decide +kernel)]; exact ⟨rfl, rfl⟩))
    (fun os started H enc _ => lifted os started H enc)

theorem proved : Rows.FnExactTreNamesSaid :=
  over
#print axioms proved
end Go.Proofs.Ytbhagojgnljcjaa.fnExactTreNames
