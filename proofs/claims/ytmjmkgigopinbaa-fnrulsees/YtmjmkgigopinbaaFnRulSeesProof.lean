/-
  Of every code the drawn rules let a ref be seen just if one of them is ok and for the user and the ref, in the program as in the specification; the code reads as it did. No condition.
-/
import Derived.Test.YtmjmkgigopinbaaRows
import Derived.Test.YtmjmkgigopinbaaWalkDrawR
import Derived.Test.YtmjmkgigopinbaaMathMay
import Derived.WalkKit
import Derived.ProofKit
import Derived.OpenShut
import Derived.ShutString
import Derived.ChangeOld
import Derived.Below
namespace Go.Proofs.Ytmjmkgigopinbaa.fnRulSees
open Go.ChangeShapes Go.WideShapes Go.ChangeAt Go.RowKit
open Go.ChangeMaps (open_string shut_string)
set_option linter.unusedVariables false

theorem own : ownKnob Try.prog.godebug = none := by kernel_rfl
theorem laidOut : laidOutB Try.prog = true := by kernel_rfl

/-- WHAT THE WALK IS TOLD OF A SLICE OF INTEGERS THAT CAME IN: it is nil; or it leads to a row of 'cap' cells, the numbers 'zs' (the first 'len' are its elements, the rest its spare room), each fitting its kind. -/
def IsRow (k : IntKind) (w : World) (a : Option Addr) (len cap : Nat) (zs : List Int) : Prop :=
  (a = none ∧ len = 0 ∧ cap = 0 ∧ zs = []) ∨
  ∃ x, a = some x ∧ len ≤ cap ∧ cap ≤ maxLen ∧ zs.length = cap ∧ (∀ i, i < zs.length → w.cell? (x.add i) = some (.int k (zs.getD i 0))) ∧ ∀ n ∈ zs, (Lit.int k n).wf = true

open Go.Proofs.Ytmjmkgigopinbaa.W Go.Proofs.Ytmjmkgigopinbaa.M in
theorem sees_take (L : List RR) (u : Int) (r : ByteArray) (j : Nat) (h : j < L.length) : ((L.take (j + 1)).any fun x => seesB x u r) = (((L.take j).any fun x => seesB x u r) || seesB L[j] u r) := by
  rw [List.take_succ_eq_append_getElem h, List.any_append]; simp
open Go.Proofs.Ytmjmkgigopinbaa.W Go.Proofs.Ytmjmkgigopinbaa.M in
set_option maxHeartbeats 2000000 in
theorem walk (a0 : Option Addr) (len0 cap0 : Nat) (z0 : List Int) (w : World) (w0 : IsRow .u8 w a0 len0 cap0 z0) :
    Calls Try.prog 6 #[.slice a0 len0 cap0] w fun e w' => e = .returned (.bool true) ∧ Below w.heap.size w w' := by
  have HS : Hid (W.Src w a0 len0 cap0 (fun i => z0.getD i 0)) := src_of w a0 len0 cap0 z0 w0
  clear w0
  by_cases h : 1048576 < len0
  · go_enter Try.func6, Try.ntmps6
    go_wp2
    go_ret
    exact ⟨rfl, Below.refl _ _⟩
  go_enter Try.func6, Try.ntmps6
  go_wp2_with (go_at_call 24; refine (drawRulSees_any _ _ _ _ _ HS.out).mono ?_; rintro e w1 ⟨v, L, u, ref, rfl, h1, h2, h3, h4, hu, hr, B⟩; obtain ⟨A, c, rfl, rd, hc⟩ := rdR_own_cap h4; clear HS h4 h1; have HT : Hid (∀ j (h : j < L.length), (L[j]).ref.size ≤ 1048576 ∧ (L[j]).path.size ≤ 1048576) := h3.at; have HD : Hid (RdR w1.heap.size w1 A L) := rd; have HM : Hid (SmR L) := h3; clear rd h3)
  go_loopw [6, 7] (fun sv iv wr => ∃ (j : Nat) (k : Bool), j ≤ L.length ∧ iv = .int .i64 j ∧ sv = .bool k ∧ Hid (((L.take j).any fun x => seesB x u ref) = k) ∧ Below w1.heap.size w1 wr) (fun _ i _ => L.length - (intOf i).toNat)
  case atStart => exact ⟨0, false, Nat.zero_le _, rfl, rfl, by simp [Hid], Below.refl _ _⟩
  case round =>
    obtain ⟨j, k, hj, rfl, rfl, HK, hb⟩ := hrel
    have hsz := hb.size
    by_cases hlt : j < L.length
    · obtain ⟨b, o, rfl, hbl, c1, c2, c3, c4⟩ := (HD.out.below hb (Nat.le_refl _)) j hlt
      obtain ⟨hxr, hxp⟩ := HT.out j hlt
      have est := sees_take L u ref j hlt
      rw [HK.out] at est
      obtain ⟨x, hx⟩ : ∃ x, L[j] = x := ⟨_, rfl⟩
      rw [hx] at est c1 c2 c3 c4 hxr hxp
      clear hx HK
      have HE : Hid (((L.take (j + 1)).any fun x => seesB x u ref) = (k || seesB x u ref)) := est
      clear est
      cases k
      · obtain ⟨a, r, p, b'⟩ := x
        simp only [Bool.false_or] at HE hxr hxp c1 c2 c3 c4
        cases h0 : rulB ⟨a, r, p, b'⟩
        · have H0 : Hid (rulB ⟨a, r, p, b'⟩ = false) := h0
          have HV : Hid (((L.take (j + 1)).any fun x => seesB x u ref) = false) := HE.out.trans (by unfold seesB; rw [h0]; rfl)
          clear HE h0
          go_wp2_with (go_at_call 25; refine (rulOk_impl ⟨a, r, p, b'⟩ _ hxr hxp).mono ?_; rw [H0.out]; rintro e w2 ⟨rfl, hb1⟩)
          go_roundw
          case rel => exact ⟨j + 1, false, by omega, by go_num, rfl, HV, (hb.alloc (by omega) _).trans (hb1.mono (by simp; omega))⟩
          case measure => simp [intOf]; omega
        have H0 : Hid (rulB ⟨a, r, p, b'⟩ = true) := h0
        have HE : Hid (((L.take (j + 1)).any fun x => seesB x u ref) = (forU ⟨a, r, p, b'⟩ u && forR ⟨a, r, p, b'⟩ ref)) := HE.out.trans (by unfold seesB; rw [h0]; rfl)
        clear h0
        by_cases hu1 : a = 0 ∨ a = u
        · have hu2 : a = 0 ∨ (a ≠ 0 ∧ a = u) := by omega
          have HE : Hid (((L.take (j + 1)).any fun x => seesB x u ref) = forR ⟨a, r, p, b'⟩ ref) := HE.out.trans (by unfold forU; simp [hu1])
          clear hu1
          by_cases h1 : r.data.toList = []
          · have z1 : r.toList.isEmpty = true := empty_t _ h1
            have HV : Hid (((L.take (j + 1)).any fun x => seesB x u ref) = true) := HE.out.trans (by unfold forR; simp [h1])
            clear h1 HE
            rcases hu2 with rfl | ⟨h3, rfl⟩
            all_goals
              go_wp2_with (go_at_call 25; refine (rulOk_impl ⟨_, r, p, b'⟩ _ hxr hxp).mono ?_; rw [H0.out]; rintro e w2 ⟨rfl, hb1⟩; have d0 := (hb1.cell (p := ⟨wr.heap.size, 0, none⟩) (by simp)); have d1 := (hb1.cell (p := ⟨wr.heap.size, 1, none⟩) (by simp)); simp at d0 d1)
              go_roundw
              case rel => exact ⟨j + 1, true, by omega, by go_num, rfl, HV, (hb.alloc (by omega) _).trans (hb1.mono (by simp; omega))⟩
              case measure => simp [intOf]; omega
          have z1 : r.toList.isEmpty = false := nonempty_f _ h1
          by_cases h2 : r = ref
          · have HV : Hid (((L.take (j + 1)).any fun x => seesB x u ref) = true) := HE.out.trans (by unfold forR; simp [h2])
            subst h2
            clear h1 HE
            rcases hu2 with rfl | ⟨h3, rfl⟩
            all_goals
              go_wp2_with (go_at_call 25; refine (rulOk_impl ⟨_, r, p, b'⟩ _ hxr hxp).mono ?_; rw [H0.out]; rintro e w2 ⟨rfl, hb1⟩; have d0 := (hb1.cell (p := ⟨wr.heap.size, 0, none⟩) (by simp)); have d1 := (hb1.cell (p := ⟨wr.heap.size, 1, none⟩) (by simp)); simp at d0 d1)
              go_roundw
              case rel => exact ⟨j + 1, true, by omega, by go_num, rfl, HV, (hb.alloc (by omega) _).trans (hb1.mono (by simp; omega))⟩
              case measure => simp [intOf]; omega
          have z2 := bytes_ne h2
          have HV : Hid (((L.take (j + 1)).any fun x => seesB x u ref) = false) := HE.out.trans (by unfold forR; simp [h1, h2])
          clear h1 h2 HE
          rcases hu2 with rfl | ⟨h3, rfl⟩
          all_goals
            go_wp2_with (go_at_call 25; refine (rulOk_impl ⟨_, r, p, b'⟩ _ hxr hxp).mono ?_; rw [H0.out]; rintro e w2 ⟨rfl, hb1⟩; have d0 := (hb1.cell (p := ⟨wr.heap.size, 0, none⟩) (by simp)); have d1 := (hb1.cell (p := ⟨wr.heap.size, 1, none⟩) (by simp)); simp at d0 d1)
            go_roundw
            case rel => exact ⟨j + 1, false, by omega, by go_num, rfl, HV, (hb.alloc (by omega) _).trans (hb1.mono (by simp; omega))⟩
            case measure => simp [intOf]; omega
        · have h3 : a ≠ 0 := by omega
          have h4 : a ≠ u := by omega
          have HV : Hid (((L.take (j + 1)).any fun x => seesB x u ref) = false) := HE.out.trans (by unfold forU; simp [h3, h4])
          clear hu1 HE
          go_wp2_with (go_at_call 25; refine (rulOk_impl ⟨_, r, p, b'⟩ _ hxr hxp).mono ?_; rw [H0.out]; rintro e w2 ⟨rfl, hb1⟩; have d0 := (hb1.cell (p := ⟨wr.heap.size, 0, none⟩) (by simp)); have d1 := (hb1.cell (p := ⟨wr.heap.size, 1, none⟩) (by simp)); simp at d0 d1)
          go_roundw
          case rel => exact ⟨j + 1, false, by omega, by go_num, rfl, HV, (hb.alloc (by omega) _).trans (hb1.mono (by simp; omega))⟩
          case measure => simp [intOf]; omega
      · have HV : Hid (((L.take (j + 1)).any fun x => seesB x u ref) = true) := HE.out.trans (by simp)
        clear HE
        go_wp2
        go_roundw
        case rel => exact ⟨j + 1, true, by omega, by go_num, rfl, HV, hb.alloc (by omega) _⟩
        case measure => simp [intOf]; omega
    · obtain rfl : j = L.length := by omega
      rw [List.take_length] at HK
      have HS2 : Hid (RdR wr.heap.size wr A L) := HD.out.up hb
      have tk1 : True := trivial
      clear HD
      go_wp2_with (first
        | (go_at_call_of 13 (Value.slice A L.length c); have _t := tk1; refine (rulSees_impl A c L u ref _ HS2.out (by omega) HT.out).mono ?_; rw [HK.out]; rintro e w2 ⟨rfl, hb2⟩; have HS3 : Hid (RdR w2.heap.size w2 A L) := HS2.out.up hb2; clear HS2 tk1 _t)
        | (go_at_call_of 13 (Value.slice A L.length c); refine (rulSees_impl A c L u ref _ HS3.out (by omega) HT.out).mono ?_; rw [HK.out]; rintro e w3 ⟨rfl, hb3⟩; have HS4 : Hid (RdR w3.heap.size w3 A L) := HS3.out.up hb3; clear HS3)
        | (go_at_call 26; refine (rulSees_spec A c L u ref _ HS4.out (by omega) HT.out).mono ?_; rw [HK.out]; rintro e w4 ⟨rfl, hb4⟩; clear HS4)
        | (go_at_call 13; refine (seesOne w4 ⟨0, ⟨#[]⟩, ⟨#[97]⟩, false⟩ _ 1 ⟨#[97]⟩ (by decide) (by decide)).mono ?_; rw [sees_lit]; rintro e w5 ⟨rfl, hb5⟩))
      go_ret
      have s2 := hb2.size
      have s3 := hb3.size
      have s4 := hb4.size
      have s1 := B.size
      exact ⟨rfl, ((((B.trans (hb.mono s1)).trans (hb2.mono (by omega))).trans (hb3.mono (by omega))).trans (hb4.mono (by omega))).trans (hb5.mono (by omega))⟩

set_option maxRecDepth 100000 in
theorem lifted (os : Os) (started : os.Started) (H : Type) (enc : TypeId × Value → H) :
    ReturnsInHanded {} Try.checked os 6 .any (Rows.fnRulSeesSpec.pre6 enc Try.prog Try.f6 Rows.fnRulSeesRow.domain false) (Rows.fnRulSeesSpec.post enc Try.prog Try.f6 false true false false) := by
  refine returnsInHanded_of_change (C := Try.checked) own started (by kernel_rfl) Try.func6
    (ChangeSpec.witness6 (enc := enc) (C := Try.checked) false ⟨#[], #[.slice none 0 0], []⟩ 8 (by kernel_rfl) (by kernel_rfl) (by kernel_rfl) (by kernel_rfl)) ?_
  intro W base args ds gs before hval0 hW hcnd _
  have hval : ∀ (j : Nat) t v, Try.f6.params[j]? = some t → args[j]? = some v → Value.okWide Try.prog W .any base t v := hval0
  have hW' := hW
  obtain ⟨p, q, hA0, hV, rfl, hfz, hnd⟩ := hW
  have hA : DataW.TrodAll enc Try.prog W 0 (fun _ => true) true Try.f6.params.toList args.toList ds p := hA0
  rw [Try.params6] at hA hval
  obtain ⟨v0, vs0, d0, ds0, p0, q0, hargs, rfl, rfl, h0, r0⟩ := trodAll_cons hA
  obtain ⟨rfl, rfl, rfl⟩ := trodAll_nil r0
  obtain rfl : args = #[v0] := by cases args; simp_all
  obtain ⟨rfl, rfl⟩ := trodVars_none hV
  obtain ⟨a0, len0, cap0, rfl⟩ := okWide_slice Try.underlying22 (hval 0 22 v0 rfl rfl)
  have k0 := h0
  have lt0 : ∀ x ∈ p0, x.block < W.heap.size := by obtain ⟨m, hm⟩ := k0; exact DataW.trod_lt m _ _ _ hm
  obtain ⟨z0, w0⟩ : ∃ zs, IsRow .u8 W a0 len0 cap0 zs := by
    obtain ⟨fuel, hf⟩ := h0
    rcases open_ints Try.underlying22 Try.underlying5 (by kernel_rfl) hf with ⟨hcs, _⟩ | ⟨x, l, c, zs, hcs, _, hl, hm, hz, _, hcell, hwz⟩
    · simp [Value.cells] at hcs
      obtain ⟨rfl, rfl, rfl⟩ := hcs
      exact ⟨[], .inl ⟨rfl, rfl, rfl, rfl⟩⟩
    · simp [Value.cells] at hcs
      obtain ⟨rfl, rfl, rfl⟩ := hcs
      exact ⟨zs, .inr ⟨_, rfl, hl, hm, by simpa using hz, hcell, hwz⟩⟩
  clear hA0 hval0
  refine (walk a0 len0 cap0 z0 W w0).mono fun e W' ⟨he, bel⟩ => ?_
  subst he
  exact ⟨_, rfl, _, _, _, [], _, [], hW', trodAll_mk1 (shut_bool Try.underlying4 _), (trodAll_cons_mk (Below.trod laidOut (by kernel_rfl) (of_decide_eq_true (by kernel_rfl)) k0 bel lt0) trodAll_mk0), rfl, bel.frame _, fun h => by cases h⟩

theorem over : Rows.fnRulSeesRow.holds Try.pinned (OpenSpec.ofChange Rows.fnRulSeesSpec) :=
  OpenClaim.holds_of_wide 6 Try.f6 rfl rfl rfl rfl rfl rfl rfl ⟨rfl, rfl, rfl, rfl, rfl⟩ rfl rfl rfl rfl rfl (by kernel_rfl) Try.func6 (by kernel_rfl)
    (of_decide_eq_true (by kernel_rfl)) (by unfold Func.isWrapper; first | (rw [if_pos (by decide +kernel)]; kernel_rfl) | (rw [if_neg (by decide +kernel)]; exact ⟨rfl, rfl⟩))
    (fun os started H enc _ => lifted os started H enc)

theorem proved : Rows.FnRulSeesSaid := over
#print axioms proved
end Go.Proofs.Ytmjmkgigopinbaa.fnRulSees
