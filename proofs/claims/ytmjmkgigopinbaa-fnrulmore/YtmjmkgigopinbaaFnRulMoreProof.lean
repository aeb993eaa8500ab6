/-
  Of every two codes: with a drawn rule more all that was allowed is, and what is allowed newly is what that rule alone lets; without it all is as it was; the program answers as the specification; the codes read as they did. No condition.
-/
import Derived.Test.YtmjmkgigopinbaaRows
import Derived.Test.YtmjmkgigopinbaaWalkDrawP
import Derived.Test.YtmjmkgigopinbaaWalkDrawR
import Derived.Test.YtmjmkgigopinbaaWalkChR
import Derived.Test.YtmjmkgigopinbaaMathMay
import Derived.WalkKit
import Derived.ProofKit
import Derived.OpenShut
import Derived.ShutString
import Derived.ChangeOld
import Derived.Below
namespace Go.Proofs.Ytmjmkgigopinbaa.fnRulMore
open Go.ChangeShapes Go.WideShapes Go.ChangeAt Go.RowKit
open Go.ChangeMaps (open_string shut_string)
set_option linter.unusedVariables false

theorem own : ownKnob Try.prog.godebug = none := by kernel_rfl
theorem laidOut : laidOutB Try.prog = true := by kernel_rfl

/-- WHAT THE WALK IS TOLD OF A SLICE OF INTEGERS THAT CAME IN: it is nil; or it leads to a row of 'cap' cells, the numbers 'zs' (the first 'len' are its elements, the rest its spare room), each fitting its kind. -/
def IsRow (k : IntKind) (w : World) (a : Option Addr) (len cap : Nat) (zs : List Int) : Prop :=
  (a = none ∧ len = 0 ∧ cap = 0 ∧ zs = []) ∨
  ∃ x, a = some x ∧ len ≤ cap ∧ cap ≤ maxLen ∧ zs.length = cap ∧ (∀ i, i < zs.length → w.cell? (x.add i) = some (.int k (zs.getD i 0))) ∧ ∀ n ∈ zs, (Lit.int k n).wf = true

open Go.Proofs.Ytmjmkgigopinbaa.W Go.Proofs.Ytmjmkgigopinbaa.M in
theorem rdOwn {w : World} {b : Nat} {e : TypeId} {A : Option Addr} {c : Nat} {L : List RR} (h : w.ownsRow b e 4 (.slice A L.length c) L.length (cellsR L)) : RdR w.heap.size w A L := by
  obtain ⟨A', c', e', rd⟩ := rdR_of_own h; cases e'; exact rd
open Go.Proofs.Ytmjmkgigopinbaa.W Go.Proofs.Ytmjmkgigopinbaa.M in
theorem put_any {L : List RR} {r : RR} (h : putB L r = true) : (L.any fun x => eqR x r) = false := by
  unfold putB at h
  simp only [Bool.and_eq_true, Bool.not_eq_true'] at h
  exact h.2.2.2
open Go.Proofs.Ytmjmkgigopinbaa.W Go.Proofs.Ytmjmkgigopinbaa.M in
set_option maxRecDepth 100000 in
set_option maxHeartbeats 4000000 in
theorem walk (a0 : Option Addr) (len0 cap0 : Nat) (z0 : List Int) (a1 : Option Addr) (len1 cap1 : Nat) (z1 : List Int) (w : World) (w0 : IsRow .u8 w a0 len0 cap0 z0) (w1 : IsRow .u8 w a1 len1 cap1 z1) :
    Calls Try.prog 4 #[.slice a0 len0 cap0, .slice a1 len1 cap1] w fun e w' => e = .returned (.bool true) ∧ Below w.heap.size w w' := by
  have HS : Hid (W.Src w a0 len0 cap0 (fun i => z0.getD i 0)) := src_of w a0 len0 cap0 z0 w0
  have HR : Hid (W.Src w a1 len1 cap1 (fun i => z1.getD i 0)) := src_of w a1 len1 cap1 z1 w1
  clear w0 w1
  by_cases h : 1048576 < len0
  · go_enter Try.func4, Try.ntmps4
    go_wp2
    go_ret
    exact ⟨rfl, Below.refl _ _⟩
  by_cases h' : 1048576 < len1
  · go_enter Try.func4, Try.ntmps4
    go_wp2
    go_ret
    exact ⟨rfl, Below.refl _ _⟩
  go_enter Try.func4, Try.ntmps4
  go_wp2_with (first
    | (go_at_call 14; refine (drawRulPut_any _ _ _ _ _ HS.out).mono ?_; rintro e w1 ⟨v, L, r, rfl, h1, h2, h3, h4, hr1, hr2, B⟩; obtain ⟨A, c, rfl, rd, hc⟩ := rdR_own_cap h4; clear HS rd; have hs1 := B.size; have HT : Hid (∀ j (h : j < L.length), (L[j]).ref.size ≤ 1048576 ∧ (L[j]).path.size ≤ 1048576) := h3.at; have HZ : Hid (SmR L) := h3; have HO : Hid (w1.ownsRow w.heap.size 32 4 (.slice A L.length c) L.length (cellsR L)) := h4; clear h3 h4; have hat := atR_new w1 r 32)
    | (go_at_call 8; refine (drawRulMay_any _ _ _ _ _ (HR.out.below (B.alloc hs1 _))).mono ?_; rintro e w2 ⟨v', L', u, ref, path, wt, rfl, _, _, _, _, hu, hrf, hp, hb2⟩; clear HR; have hs2 := hb2.size; have Hat : Hid (AtR w2 w1.heap.size r) := hat.below hb2 (by simp); obtain ⟨d1, d2, d3, d4⟩ := Hat.out; have HO2 : Hid (w2.ownsRow w.heap.size 32 4 (.slice A L.length c) L.length (cellsR L)) := ownsUnder (HO.out.alloc _) hb2 (Nat.le_refl _); replace B := (B.alloc hs1 _).trans (hb2.mono (by simp; omega)); clear HO hat hb2; simp only [World.size_alloc] at hs2; obtain ⟨k, HK⟩ : ∃ k, Hid (putB L r = k) := ⟨_, rfl⟩; obtain ⟨M, HM⟩ : ∃ M, Hid (putR L r = M) := ⟨_, rfl⟩; have hM9 : M.length ≤ 9 := (by have := putR_len L r; rw [HM.out] at this; omega))
    | (go_at_call 15; refine (rulPutI_own _ L r w2 h1 HO2.out (by omega) HT.out (by omega) (by omega)).mono ?_; rw [HK.out, HM.out]; rintro e w3 ⟨⟨v3, rfl, o3⟩, hb3⟩; have hs3 := hb3.size; clear d1 d2 d3 d4; have Hat3 : Hid (AtR w3 w1.heap.size r) := Hat.out.below hb3 Hat.out.lt; obtain ⟨d1, d2, d3, d4⟩ := Hat3.out; have HO3 : Hid (w3.ownsRow w.heap.size 32 4 (.slice A L.length c) L.length (cellsR L)) := ownsUnder HO2.out hb3 (Nat.le_refl _); obtain ⟨A3, c3, rfl, rd3, hc3⟩ := rdR_own_cap o3; have HX3 : Hid (RdR w3.heap.size w3 A3 M) := rd3; replace B := B.trans (hb3.mono B.size); clear o3 rd3 hb3 Hat HO2)
    | (go_at_call 16; refine (rulPutS_own _ L r w3 h1 HO3.out (by omega) HT.out (by omega) (by omega)).mono ?_; rw [HK.out, HM.out]; rintro e w4 ⟨⟨v4, rfl, o4⟩, hb4⟩; have hs4 := hb4.size; clear d1 d2 d3 d4; have Hat4 : Hid (AtR w4 w1.heap.size r) := Hat3.out.below hb4 Hat3.out.lt; have HO4 : Hid (w4.ownsRow w.heap.size 32 4 (.slice A L.length c) L.length (cellsR L)) := ownsUnder HO3.out hb4 (Nat.le_refl _); have HX4 : Hid (RdR w4.heap.size w4 A3 M) := HX3.out.up hb4; obtain ⟨A4, c4, rfl, rd4⟩ := rdR_of_own o4; have HY4 : Hid (RdR w4.heap.size w4 A4 M) := rd4; replace B := B.trans (hb4.mono B.size); clear o4 rd4 hb4 Hat3 HO3 HX3)
    | (go_at_call_of 17 (Value.slice A4 M.length c4); refine (chRules_same A3 A4 c3 c4 M w4 HX4.out HY4.out (by omega)).mono ?_; rintro e w5 ⟨rfl, hb5⟩; have hs5 := hb5.size; have Hat5 : Hid (AtR w5 w1.heap.size r) := Hat4.out.below hb5 Hat4.out.lt; obtain ⟨d1, d2, d3, d4⟩ := Hat5.out; have HD5 : Hid (RdR w5.heap.size w5 A L) := rdOwn (ownsUnder HO4.out hb5 (Nat.le_refl _)); have HX5 : Hid (RdR w5.heap.size w5 A3 M) := HX4.out.up hb5; replace B := B.trans (hb5.mono B.size); clear hb5 Hat4 HO4 HX4 HY4; cases k)
    | (go_at_call 17; obtain rfl : M = L := HM.out.symm.trans (putR_no HK.out); refine (chRules_same A3 A c3 c M w5 HX5.out HD5.out (by omega)).mono ?_; rintro e w6 ⟨rfl, hb6⟩; replace B := B.trans (hb6.mono B.size); clear hb6)
    | (go_at_call 18; refine (chOk_any _).mono ?_; rintro e w7 ⟨rfl, rfl⟩)
    | (go_at_call_of 9 (Value.slice A L.length c); have hM := HM.out.symm.trans (putR_yes HK.out); obtain ⟨k1, H1⟩ : ∃ k1, Hid ((L.any fun x => mayB x u ref path wt) = k1) := ⟨_, rfl⟩; obtain ⟨k2, H2⟩ : ∃ k2, Hid (mayB r u ref path wt = k2) := ⟨_, rfl⟩; have HA : Hid ((M.any fun x => mayB x u ref path wt) = (k1 || k2)) := (by show _ = _; rw [hM, List.any_append, H1.out]; simp only [List.any_cons, List.any_nil, Bool.or_false, H2.out]); have HQ : Hid (outR M r = L) := (by show _ = _; rw [hM]; exact outR_snoc L r (put_any HK.out)); have HB : Hid (decide ((outR M r).length < M.length) = true) := (by show _ = _; rw [HQ.out, hM]; simp); have HC : Hid (okR M = true) := (by show _ = _; rw [hM, okR_snoc]; exact HK.out); have HTM : Hid (∀ j (h : j < M.length), (M[j]).ref.size ≤ 1048576 ∧ (M[j]).path.size ≤ 1048576) := (by subst hM; exact (HZ.out.snoc hr1 hr2).at); clear hM; refine (rulMay_impl A c L u ref path wt w5 HD5.out (by omega) (by omega) HT.out).mono ?_; rw [H1.out]; rintro e w6 ⟨rfl, hb6⟩; have hs6 := hb6.size; clear d1 d2 d3 d4; have Hat6 : Hid (AtR w6 w1.heap.size r) := Hat5.out.below hb6 Hat5.out.lt; obtain ⟨d1, d2, d3, d4⟩ := Hat6.out; have HD6 : Hid (RdR w6.heap.size w6 A L) := HD5.out.up hb6; have HX6 : Hid (RdR w6.heap.size w6 A3 M) := HX5.out.up hb6; replace B := B.trans (hb6.mono B.size); clear hb6 Hat5 HD5 HX5)
    | (go_at_call_of 9 (Value.slice A3 M.length c3); refine (rulMay_impl A3 c3 M u ref path wt w6 HX6.out (by omega) (by omega) HTM.out).mono ?_; rw [HA.out]; rintro e w7 ⟨rfl, hb7⟩; have hs7 := hb7.size; clear d1 d2 d3 d4; have Hat7 : Hid (AtR w7 w1.heap.size r) := Hat6.out.below hb7 Hat6.out.lt; obtain ⟨d1, d2, d3, d4⟩ := Hat7.out; have HD7 : Hid (RdR w7.heap.size w7 A L) := HD6.out.up hb7; have HX7 : Hid (RdR w7.heap.size w7 A3 M) := HX6.out.up hb7; replace B := B.trans (hb7.mono B.size); clear hb7 Hat6 HD6 HX6)
    | (go_at_call 9; refine (mayOne w7 r 32 u ref path wt hr1 hr2 (by omega)).mono ?_; rw [H2.out]; rintro e w8 ⟨rfl, hb8⟩; have hs8 := hb8.size; clear d1 d2 d3 d4; have Hat8 : Hid (AtR w8 w1.heap.size r) := Hat7.out.below hb8 Hat7.out.lt; obtain ⟨d1, d2, d3, d4⟩ := Hat8.out; have HD8 : Hid (RdR w8.heap.size w8 A L) := HD7.out.up hb8; have HX8 : Hid (RdR w8.heap.size w8 A3 M) := HX7.out.up hb8; replace B := B.trans (hb8.mono B.size); clear hb8 Hat7 HD7 HX7)
    | (go_at_call 19; refine (rulOut_impl A3 c3 M r w8 HX8.out (by omega)).mono ?_; rw [HB.out, HQ.out]; rintro e w9 ⟨⟨v9, rfl, o9⟩, hb9⟩; have HD9 : Hid (RdR w9.heap.size w9 A L) := HD8.out.up hb9; have HX9 : Hid (RdR w9.heap.size w9 A3 M) := HX8.out.up hb9; obtain ⟨A9, c9, rfl, rd9⟩ := rdR_of_own o9; have HY9 : Hid (RdR w9.heap.size w9 A9 L) := rd9; replace B := B.trans (hb9.mono B.size); clear hb9 o9 rd9 HD8 HX8; cases k1 <;> cases k2)
    | (go_at_call 17; refine (chRules_same A9 A c9 c L w9 HY9.out HD9.out (by omega)).mono ?_; rintro e w10 ⟨rfl, hb10⟩; have HX10 : Hid (RdR w10.heap.size w10 A3 M) := HX9.out.up hb10; replace B := B.trans (hb10.mono B.size); clear hb10 HX9 HD9 HY9)
    | (go_at_call 20; refine (rulListOk_impl A3 c3 M w10 HX10.out (by omega) hc3 HTM.out).mono ?_; rw [HC.out]; rintro e w11 ⟨rfl, hb11⟩; replace B := B.trans (hb11.mono B.size); clear hb11))
  all_goals
    go_ret
    exact ⟨rfl, B⟩

set_option maxRecDepth 100000 in
theorem lifted (os : Os) (started : os.Started) (H : Type) (enc : TypeId × Value → H) :
    ReturnsInHanded {} Try.checked os 4 .any (Rows.fnRulMoreSpec.pre6 enc Try.prog Try.f4 Rows.fnRulMoreRow.domain false) (Rows.fnRulMoreSpec.post enc Try.prog Try.f4 false true false false) := by
  refine returnsInHanded_of_change (C := Try.checked) own started (by kernel_rfl) Try.func4
    (ChangeSpec.witness6 (enc := enc) (C := Try.checked) false ⟨#[], #[.slice none 0 0, .slice none 0 0], []⟩ 8 (by kernel_rfl) (by kernel_rfl) (by kernel_rfl) (by kernel_rfl)) ?_
  intro W base args ds gs before hval0 hW hcnd _
  have hval : ∀ (j : Nat) t v, Try.f4.params[j]? = some t → args[j]? = some v → Value.okWide Try.prog W .any base t v := hval0
  have hW' := hW
  obtain ⟨p, q, hA0, hV, rfl, hfz, hnd⟩ := hW
  have hA : DataW.TrodAll enc Try.prog W 0 (fun _ => true) true Try.f4.params.toList args.toList ds p := hA0
  rw [Try.params4] at hA hval
  obtain ⟨v0, vs0, d0, ds0, p0, q0, hargs, rfl, rfl, h0, r0⟩ := trodAll_cons hA
  obtain ⟨v1, vs1, d1, ds1, p1, q1, rfl, rfl, rfl, h1, r1⟩ := trodAll_cons r0
  obtain ⟨rfl, rfl, rfl⟩ := trodAll_nil r1
  obtain rfl : args = #[v0, v1] := by cases args; simp_all
  obtain ⟨rfl, rfl⟩ := trodVars_none hV
  obtain ⟨a0, len0, cap0, rfl⟩ := okWide_slice Try.underlying22 (hval 0 22 v0 rfl rfl)
  have k0 := h0
  have lt0 : ∀ x ∈ p0, x.block < W.heap.size := by obtain ⟨m, hm⟩ := k0; exact DataW.trod_lt m _ _ _ hm
  obtain ⟨z0, w0⟩ : ∃ zs, IsRow .u8 W a0 len0 cap0 zs := by
    obtain ⟨fuel, hf⟩ := h0
    rcases open_ints Try.underlying22 Try.underlying5 (by kernel_rfl) hf with ⟨hcs, _⟩ | ⟨x, l, c, zs, hcs, _, hl, hm, hz, _, hcell, hwz⟩
    · simp [Value.cells] at hcs
      obtain ⟨rfl, rfl, rfl⟩ := hcs
      exact ⟨[], .inl ⟨rfl, rfl, rfl, rfl⟩⟩
    · simp [Value.cells] at hcs
      obtain ⟨rfl, rfl, rfl⟩ := hcs
      exact ⟨zs, .inr ⟨_, rfl, hl, hm, by simpa using hz, hcell, hwz⟩⟩
  obtain ⟨a1, len1, cap1, rfl⟩ := okWide_slice Try.underlying22 (hval 1 22 v1 rfl rfl)
  have k1 := h1
  have lt1 : ∀ x ∈ p1, x.block < W.heap.size := by obtain ⟨m, hm⟩ := k1; exact DataW.trod_lt m _ _ _ hm
  obtain ⟨z1, w1⟩ : ∃ zs, IsRow .u8 W a1 len1 cap1 zs := by
    obtain ⟨fuel, hf⟩ := h1
    rcases open_ints Try.underlying22 Try.underlying5 (by kernel_rfl) hf with ⟨hcs, _⟩ | ⟨x, l, c, zs, hcs, _, hl, hm, hz, _, hcell, hwz⟩
    · simp [Value.cells] at hcs
      obtain ⟨rfl, rfl, rfl⟩ := hcs
      exact ⟨[], .inl ⟨rfl, rfl, rfl, rfl⟩⟩
    · simp [Value.cells] at hcs
      obtain ⟨rfl, rfl, rfl⟩ := hcs
      exact ⟨zs, .inr ⟨_, rfl, hl, hm, by simpa using hz, hcell, hwz⟩⟩
  clear hA0 hval0
  refine (walk a0 len0 cap0 z0 a1 len1 cap1 z1 W w0 w1).mono fun e W' ⟨he, bel⟩ => ?_
  subst he
  exact ⟨_, rfl, _, _, _, [], _, [], hW', trodAll_mk1 (shut_bool Try.underlying4 _), (trodAll_cons_mk (Below.trod laidOut (by kernel_rfl) (of_decide_eq_true (by kernel_rfl)) k0 bel lt0) (trodAll_cons_mk (Below.trod laidOut (by kernel_rfl) (of_decide_eq_true (by kernel_rfl)) k1 bel lt1) trodAll_mk0)), rfl, bel.frame _, fun h => by cases h⟩

theorem over : Rows.fnRulMoreRow.holds Try.pinned (OpenSpec.ofChange Rows.fnRulMoreSpec) :=
  OpenClaim.holds_of_wide 4 Try.f4 rfl rfl rfl rfl rfl rfl rfl ⟨rfl, rfl, rfl, rfl, rfl⟩ rfl rfl rfl rfl rfl (by kernel_rfl) Try.func4 (by kernel_rfl)
    (of_decide_eq_true (by kernel_rfl)) (by unfold Func.isWrapper; first | (rw [if_pos (by decide +kernel)]; kernel_rfl) | (rw [if_neg (by decide +kernel)]; exact ⟨rfl, rfl⟩))
    (fun os started H enc _ => lifted os started H enc)

theorem proved : Rows.FnRulMoreSaid := over
#print axioms proved
end Go.Proofs.Ytmjmkgigopinbaa.fnRulMore
