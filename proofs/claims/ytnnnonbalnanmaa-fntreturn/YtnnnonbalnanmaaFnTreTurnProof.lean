/-
  Of every code: the drawn edits, turned into the drawn tree by the program's TreTurn, come to what the specification's come to; every file that no edit names stays, the last edit of a path holds, and what results is a tree; the code reads as it did. No condition.
-/
import Derived.Test.YtnnnonbalnanmaaRows
import Derived.Test.YtnnnonbalnanmaaMathTTu3
import Derived.Test.YtnnnonbalnanmaaWalkTurI
import Derived.Test.YtnnnonbalnanmaaWalkTurV
import Derived.Test.YtnnnonbalnanmaaWalkTreP
import Derived.Test.YtnnnonbalnanmaaWalkOrder
import Derived.Test.YtnnnonbalnanmaaWalkChF
import Derived.WalkKit
import Derived.ProofKit
import Derived.OpenShut
import Derived.ShutString
import Derived.ChangeOld
import Derived.Below
namespace Go.Proofs.Ytnnnonbalnanmaa.fnTreTurn
open Go.ChangeShapes Go.WideShapes Go.ChangeAt Go.RowKit
open Go.ChangeMaps (open_string shut_string)
set_option linter.unusedVariables false

theorem own : ownKnob Try.prog.godebug = none := by kernel_rfl
theorem laidOut : laidOutB Try.prog = true := by kernel_rfl

/-- WHAT THE WALK IS TOLD OF A SLICE OF INTEGERS THAT CAME IN: it is nil; or it leads to a row of 'cap' cells, the numbers 'zs' (the first 'len' are its elements, the rest its spare room), each fitting its kind. -/
def IsRow (k : IntKind) (w : World) (a : Option Addr) (len cap : Nat) (zs : List Int) : Prop :=
  (a = none ∧ len = 0 ∧ cap = 0 ∧ zs = []) ∨
  ∃ x, a = some x ∧ len ≤ cap ∧ cap ≤ maxLen ∧ zs.length = cap ∧ (∀ i, i < zs.length → w.cell? (x.add i) = some (.int k (zs.getD i 0))) ∧ ∀ n ∈ zs, (Lit.int k n).wf = true

open Go.Proofs.Ytnnnonbalnanmaa.W in
set_option maxRecDepth 100000 in
set_option maxHeartbeats 40000000 in
theorem walk (a0 : Option Addr) (len0 cap0 : Nat) (z0 : List Int) (w : World) (w0 : IsRow .u8 w a0 len0 cap0 z0) :
    Calls Try.prog 3 #[.slice a0 len0 cap0] w fun e w' => e = .returned (.bool true) ∧ Below w.heap.size w w' := by
  have hsrc := src_of w a0 len0 cap0 z0 w0
  have HS : Hid (Src w a0 len0 cap0 (fun i => z0.getD i 0)) := hsrc
  clear hsrc w0
  by_cases h : 1048576 < len0
  · go_enter Try.func3, Try.ntmps3
    go_wp2
    go_ret
    exact ⟨rfl, Below.refl _ _⟩
  · go_enter Try.func3, Try.ntmps3
    go_wp2_with (go_at_call 4; refine (drawTreTurn_any _ _ _ _ _ HS.out).mono ?_; rintro e w1 ⟨⟨v1, u1, L, E, rfl, hL, hSL, hE, hSE, O1, Q1⟩, hb1⟩; obtain ⟨A1, c1, rfl, rdL⟩ := rdF_of_own O1; obtain ⟨A2, c2, rfl, rdE⟩ := rdE_of_own Q1; have HSL : Hid (shortF L) := hSL; have HSE : Hid (short E) := hSE; clear hSL hSE Q1; rcases hT : turnT L E with _ | K)
    · have HT : Hid (turnT L E = none) := hT
      clear hT
      go_wp2_with (first
        | (go_at_call 5; refine (treTurn_impl _ L A2 c2 E w1 O1 rdE (by omega) (by omega) (sizesF HSL.out) (sizesE HSE.out)).mono ?_; intro e w2 H2; obtain ⟨AX, cX, rfl, hb2⟩ := turn_none HT.out H2; clear H2; have O2 := keptB O1 hb2; have E2 := rdE.up hb2; have B2 := hb1.trans (hb2.mono hb1.size))
        | (go_at_call 6; refine (treTurn_spec _ L A2 c2 E w2 O2 E2 (by omega) (by omega) (sizesF HSL.out) (sizesE HSE.out)).mono ?_; intro e w3 H3; obtain ⟨AY, cY, rfl, hb3⟩ := turn_none HT.out H3; clear H3; have B3 := B2.trans (hb3.mono B2.size))
        | (go_at_call 7; refine (chFiles_same AX AY cX cY [] w3 (fun j hj => by simp at hj) (fun j hj => by simp at hj) (by simp)).mono ?_; rintro e w4 ⟨rfl, hb4⟩; have B4 := B3.trans (hb4.mono B3.size))
        | (go_at_call 8; refine (chOk_any _).mono ?_; rintro e w5 ⟨rfl, rfl⟩))
      go_ret
      exact ⟨rfl, B4⟩
    · have HT : Hid (turnT L E = some K) := hT
      have HRL : Hid (RiseF L) := (okT_rise L (turnT_mem L K E hT).2.1).1
      have HOK : Hid (okT K = true) := (turnT_mem L K E hT).1
      have hK : K.length ≤ 60 := (okT_rise K HOK.out).2
      have HSK : Hid (shortF K) := shortK hT HSL.out HSE.out
      clear hT
      go_wp2_with (first
        | (go_at_call 5; refine (treTurn_impl _ L A2 c2 E w1 O1 rdE (by omega) (by omega) (sizesF HSL.out) (sizesE HSE.out)).mono ?_; intro e w2 H2; obtain ⟨AX, cX, rfl, rdX, hb2⟩ := turn_some HT.out H2; clear H2; have O2 := keptB O1 hb2; have L2 := rdL.up hb2; have E2 := rdE.up hb2; have B2 := hb1.trans (hb2.mono hb1.size))
        | (go_at_call 6; refine (treTurn_spec _ L A2 c2 E w2 O2 E2 (by omega) (by omega) (sizesF HSL.out) (sizesE HSE.out)).mono ?_; intro e w3 H3; obtain ⟨AY, cY, rfl, rdY, hb3⟩ := turn_some HT.out H3; clear H3; have X3 := rdX.up hb3; have L3 := L2.up hb3; have E3 := E2.up hb3; have B3 := B2.trans (hb3.mono B2.size))
        | (go_at_call 7; refine (chFiles_same AX AY cX cY K w3 X3 rdY (by omega)).mono ?_; rintro e w4 ⟨rfl, hb4⟩; have X4 := X3.up hb4; have L4 := L3.up hb4; have E4 := E3.up hb4; have B4 := B3.trans (hb4.mono B3.size)))
      have HX : Hid (RdF w4.heap.size w4 AX K) := X4
      have HL : Hid (RdF w4.heap.size w4 A1 L) := L4
      have HE : Hid (RdE w4.heap.size w4 A2 E) := E4
      clear X4 L4 E4 X3 L3 E3 L2 E2 O2 O1 rdL rdE rdX rdY B2 B3 hb1 hb2 hb3 hb4
      go_loopw [9] (fun iv wr => ∃ i : Nat, i ≤ L.length ∧ iv = .int .i64 i ∧ Below w4.heap.size w4 wr) (fun i _ => L.length - (intOf i).toNat)
      case atStart => exact ⟨0, Nat.zero_le _, rfl, Below.refl _ _⟩
      case round =>
        obtain ⟨i, hi, rfl, hb⟩ := hrel
        have hsz := hb.size
        by_cases hlt : i < L.length
        · obtain ⟨b, o, hA1, hbl, k1, k2⟩ := HL.out i hlt
          have hfL := findF_at L i hlt HRL.out
          obtain ⟨q, hq⟩ : ∃ q, (L[i]).pa = q := ⟨_, rfl⟩
          obtain ⟨t, ht⟩ : ∃ t, (L[i]).by_ = t := ⟨_, rfl⟩
          rw [hq] at hfL k1
          rw [ht] at hfL k2
          clear hq ht
          subst hA1
          have HF : Hid (findF L q = some t) := hfL
          clear hfL
          go_wp2
          go_loopw [11, 10] (fun kv mv wr => ∃ (k : Nat) (m : Bool), k ≤ E.length ∧ kv = .int .i64 k ∧ mv = .bool m ∧ Hid (tells m (mineAt E q k)) ∧ Below w4.heap.size w4 wr) (fun k _ _ => E.length - (intOf k).toNat)
          case atStart => exact ⟨0, false, Nat.zero_le _, rfl, rfl, tell_f (mine_none E q), hb⟩
          case round =>
            clear hb hsz
            obtain ⟨k, m, hk, rfl, rfl, HM, hb⟩ := hrel
            have hsz := hb.size
            have d1 := (hb.cell (p := ⟨b, _, none⟩) (by show b < w4.heap.size; omega)).trans k1
            have d2 := (hb.cell (p := ⟨b, _, none⟩) (by show b < w4.heap.size; omega)).trans k2
            have hne : Nonempty (Ext wr) := ⟨⟨wr, Below.refl _ _⟩⟩
            have y1 : ∀ x : Ext wr, x.world.cell? ⟨b, o + i * 2, none⟩ = some (.string q) := fun x => x.cell d1
            by_cases hlk : k < E.length
            · obtain ⟨b2, o2, hA2, hbl2, j1, j2, j3⟩ := (HE.out.below hb (Nat.le_refl _)) k hlk
              subst hA2
              cases m
              · by_cases hpe : (E[k]).pa = q
                · have HN := tell_t (mine_here hlk hpe)
                  rw [hpe] at j1
                  have x1 : ∀ x : Ext wr, x.world.cell? ⟨b2, o2 + k * 3, none⟩ = some (.string q) := fun x => x.cell j1
                  clear hpe HM
                  go_wp2
                  refine region_ext (by kernel_rfl) (by kernel_rfl) ?_
                  repeat (go_big_quiet_step (fail))
                  refine wpQuiet_nil ?_
                  rintro _ ⟨x, rfl⟩
                  have hbx := x.below
                  go_wp2
                  go_roundw
                  case rel => exact ⟨k + 1, true, by omega, by go_num, rfl, HN, hb.trans (hbx.mono (by omega))⟩
                  case measure => simp [intOf]; omega
                · have HN := tell_f (mine_not hlk (told_f HM) hpe)
                  have hbe := bytes_ne hpe
                  generalize (E[k]).pa = q2 at *
                  have x1 : ∀ x : Ext wr, x.world.cell? ⟨b2, o2 + k * 3, none⟩ = some (.string q2) := fun x => x.cell j1
                  clear HM
                  go_wp2
                  refine region_ext (by kernel_rfl) (by kernel_rfl) ?_
                  repeat (go_big_quiet_step (fail))
                  refine wpQuiet_nil ?_
                  rintro _ ⟨x, rfl⟩
                  have hbx := x.below
                  go_wp2
                  go_roundw
                  case rel => exact ⟨k + 1, false, by omega, by go_num, rfl, HN, hb.trans (hbx.mono (by omega))⟩
                  case measure => simp [intOf]; omega
              · have HN := tell_t (mine_yes (told_t HM))
                clear HM
                go_wp2
                refine region_ext (by kernel_rfl) (by kernel_rfl) ?_
                repeat (go_big_quiet_step (fail))
                refine wpQuiet_nil ?_
                rintro _ ⟨x, rfl⟩
                have hbx := x.below
                go_wp2
                go_roundw
                case rel => exact ⟨k + 1, true, by omega, by go_num, rfl, HN, hb.trans (hbx.mono (by omega))⟩
                case measure => simp [intOf]; omega
            · obtain rfl : k = E.length := by omega
              obtain ⟨s, th, hfv, hkeep⟩ := keep1 HT.out HF.out m HM.out
              have XR := HX.out.up hb
              clear HM
              go_wp2_with (go_at_call 9; refine (treFind_impl AX cX K q _ XR (by omega)).mono ?_; rintro e w6 ⟨rfl, hb6⟩; rw [hfv]; have B6 := hb.trans (hb6.mono (by omega)); have e2 := (B6.cell (p := ⟨b, _, none⟩) (by show b < w4.heap.size; omega)).trans k2; cases m; (obtain ⟨rfl, rfl⟩ := hkeep rfl))
              all_goals
                go_roundw
                case rel => exact ⟨i + 1, by omega, by go_num, B6⟩
                case measure => simp [intOf]; omega
        · go_wp2
          clear hlt
          go_loopw [14] (fun iv wr => ∃ i : Nat, i ≤ E.length ∧ iv = .int .i64 i ∧ Below w4.heap.size w4 wr) (fun i _ => E.length - (intOf i).toNat)
          case atStart => exact ⟨0, Nat.zero_le _, rfl, hb⟩
          case round =>
            clear hb hsz hi
            obtain ⟨i, hi, rfl, hb⟩ := hrel
            have hsz := hb.size
            by_cases hlt : i < E.length
            · obtain ⟨b, o, hA1, hbl, k1, k2, k3⟩ := HE.out i hlt
              have KP := fun m (hm : tells m (lastAt E (E[i]).pa i E.length)) => keep2 HT.out i hlt m hm
              obtain ⟨q, hq⟩ : ∃ q, (E[i]).pa = q := ⟨_, rfl⟩
              obtain ⟨t, ht⟩ : ∃ t, (E[i]).by_ = t := ⟨_, rfl⟩
              obtain ⟨g, hg⟩ : ∃ g, (E[i]).gone = g := ⟨_, rfl⟩
              simp only [hq, ht, hg] at KP k1 k2 k3
              clear hq ht hg
              subst hA1
              have KH := hid2 KP
              clear KP
              go_wp2
              go_loopw [16, 15] (fun kv mv wr => ∃ (k : Nat) (m : Bool), i + 1 ≤ k ∧ k ≤ E.length ∧ kv = .int .i64 k ∧ mv = .bool m ∧ Hid (tells m (lastAt E q i k)) ∧ Below w4.heap.size w4 wr) (fun k _ _ => E.length - (intOf k).toNat)
              case atStart => exact ⟨i + 1, true, Nat.le_refl _, hlt, by go_num, rfl, tell_t (last_all E q i), hb⟩
              case round =>
                clear hb hsz
                obtain ⟨k, m, hik, hk, rfl, rfl, HM, hb⟩ := hrel
                have hsz := hb.size
                have d1 := (hb.cell (p := ⟨b, _, none⟩) (by show b < w4.heap.size; omega)).trans k1
                have d2 := (hb.cell (p := ⟨b, _, none⟩) (by show b < w4.heap.size; omega)).trans k2
                have d3 := (hb.cell (p := ⟨b, _, none⟩) (by show b < w4.heap.size; omega)).trans k3
                have hne : Nonempty (Ext wr) := ⟨⟨wr, Below.refl _ _⟩⟩
                have y1 : ∀ x : Ext wr, x.world.cell? ⟨b, o + i * 3, none⟩ = some (.string q) := fun x => x.cell d1
                by_cases hlk : k < E.length
                · obtain ⟨b2, o2, hA2, hbl2, j1, j2, j3⟩ := (HE.out.below hb (Nat.le_refl _)) k hlk
                  obtain ⟨rfl, rfl⟩ : b2 = b ∧ o2 = o := by
                    simp only [Option.some.injEq, Addr.mk.injEq] at hA2
                    exact ⟨hA2.1.symm, hA2.2.1.symm⟩
                  cases m
                  · have HN := tell_f (last_no (told_f HM))
                    clear HM
                    go_wp2
                    refine region_ext (by kernel_rfl) (by kernel_rfl) ?_
                    repeat (go_big_quiet_step (fail))
                    refine wpQuiet_nil ?_
                    rintro _ ⟨x, rfl⟩
                    have hbx := x.below
                    go_wp2
                    go_roundw
                    case rel => exact ⟨k + 1, false, by omega, by omega, by go_num, rfl, HN, hb.trans (hbx.mono (by omega))⟩
                    case measure => simp [intOf]; omega
                  · by_cases hpe : (E[k]).pa = q
                    · have HN := tell_f (last_here (i := i) hlk (by omega) hpe)
                      rw [hpe] at j1
                      have x1 : ∀ x : Ext wr, x.world.cell? ⟨b2, o2 + k * 3, none⟩ = some (.string q) := fun x => x.cell j1
                      clear hpe HM
                      go_wp2
                      refine region_ext (by kernel_rfl) (by kernel_rfl) ?_
                      repeat (go_big_quiet_step (fail))
                      refine wpQuiet_nil ?_
                      rintro _ ⟨x, rfl⟩
                      have hbx := x.below
                      go_wp2
                      go_roundw
                      case rel => exact ⟨k + 1, false, by omega, by omega, by go_num, rfl, HN, hb.trans (hbx.mono (by omega))⟩
                      case measure => simp [intOf]; omega
                    · have HN := tell_t (last_on hlk (told_t HM) hpe)
                      have hbe := bytes_ne hpe
                      generalize (E[k]).pa = q2 at *
                      have x1 : ∀ x : Ext wr, x.world.cell? ⟨b2, o2 + k * 3, none⟩ = some (.string q2) := fun x => x.cell j1
                      clear HM
                      go_wp2
                      refine region_ext (by kernel_rfl) (by kernel_rfl) ?_
                      repeat (go_big_quiet_step (fail))
                      refine wpQuiet_nil ?_
                      rintro _ ⟨x, rfl⟩
                      have hbx := x.below
                      go_wp2
                      go_roundw
                      case rel => exact ⟨k + 1, true, by omega, by omega, by go_num, rfl, HN, hb.trans (hbx.mono (by omega))⟩
                      case measure => simp [intOf]; omega
                · obtain rfl : k = E.length := by omega
                  obtain ⟨s, th, hfv, hkeep⟩ := KH.out m HM.out
                  have XR := HX.out.up hb
                  clear HM
                  go_wp2_with (go_at_call 9; refine (treFind_impl AX cX K q _ XR (by omega)).mono ?_; rintro e w6 ⟨rfl, hb6⟩; rw [hfv]; have B6 := hb.trans (hb6.mono (by omega)); have e2 := (B6.cell (p := ⟨b, _, none⟩) (by show b < w4.heap.size; omega)).trans k2; have e3 := (B6.cell (p := ⟨b, _, none⟩) (by show b < w4.heap.size; omega)).trans k3; cases m; rotate_left; (cases g); (obtain ⟨rfl, rfl⟩ := hkeep rfl); rotate_left; (obtain ⟨rfl, rfl⟩ := hkeep rfl))
                  all_goals
                    go_roundw
                    case rel => exact ⟨i + 1, by omega, by go_num, B6⟩
                    case measure => simp [intOf]; omega
            · have XR := HX.out.up hb
              go_wp2_with (go_at_call 10; refine (treOk_impl AX cX K _ XR (by omega) (sizesF HSK.out)).mono ?_; rintro e w7 ⟨rfl, hb7⟩; rw [HOK.out]; have B7 := hb.trans (hb7.mono (by omega)))
              go_ret
              exact ⟨rfl, B4.trans (B7.mono B4.size)⟩

set_option maxRecDepth 100000 in
theorem lifted (os : Os) (started : os.Started) (H : Type) (enc : TypeId × Value → H) :
    ReturnsInHanded {} Try.checked os 3 .any (Rows.fnTreTurnSpec.pre6 enc Try.prog Try.f3 Rows.fnTreTurnRow.domain false) (Rows.fnTreTurnSpec.post enc Try.prog Try.f3 false true false false) := by
  refine returnsInHanded_of_change (C := Try.checked) own started (by kernel_rfl) Try.func3
    (ChangeSpec.witness6 (enc := enc) (C := Try.checked) false ⟨#[], #[.slice none 0 0], []⟩ 8 (by kernel_rfl) (by kernel_rfl) (by kernel_rfl) (by kernel_rfl)) ?_
  intro W base args ds gs before hval0 hW hcnd _
  have hval : ∀ (j : Nat) t v, Try.f3.params[j]? = some t → args[j]? = some v → Value.okWide Try.prog W .any base t v := hval0
  have hW' := hW
  obtain ⟨p, q, hA0, hV, rfl, hfz, hnd⟩ := hW
  have hA : DataW.TrodAll enc Try.prog W 0 (fun _ => true) true Try.f3.params.toList args.toList ds p := hA0
  rw [Try.params3] at hA hval
  obtain ⟨v0, vs0, d0, ds0, p0, q0, hargs, rfl, rfl, h0, r0⟩ := trodAll_cons hA
  obtain ⟨rfl, rfl, rfl⟩ := trodAll_nil r0
  obtain rfl : args = #[v0] := by cases args; simp_all
  obtain ⟨rfl, rfl⟩ := trodVars_none hV
  obtain ⟨a0, len0, cap0, rfl⟩ := okWide_slice Try.underlying22 (hval 0 22 v0 rfl rfl)
  have k0 := h0
  have lt0 : ∀ x ∈ p0, x.block < W.heap.size := by obtain ⟨m, hm⟩ := k0; exact DataW.trod_lt m _ _ _ hm
  obtain ⟨z0, w0⟩ : ∃ zs, IsRow .u8 W a0 len0 cap0 zs := by
    obtain ⟨fuel, hf⟩ := h0
    rcases open_ints Try.underlying22 Try.underlying5 (by kernel_rfl) hf with ⟨hcs, _⟩ | ⟨x, l, c, zs, hcs, _, hl, hm, hz, _, hcell, hwz⟩
    · simp [Value.cells] at hcs
      obtain ⟨rfl, rfl, rfl⟩ := hcs
      exact ⟨[], .inl ⟨rfl, rfl, rfl, rfl⟩⟩
    · simp [Value.cells] at hcs
      obtain ⟨rfl, rfl, rfl⟩ := hcs
      exact ⟨zs, .inr ⟨_, rfl, hl, hm, by simpa using hz, hcell, hwz⟩⟩
  clear hA0 hval0
  refine (walk a0 len0 cap0 z0 W w0).mono fun e W' ⟨he, bel⟩ => ?_
  subst he
  exact ⟨_, rfl, _, _, _, [], _, [], hW', trodAll_mk1 (shut_bool Try.underlying4 _), (trodAll_cons_mk (Below.trod laidOut (by kernel_rfl) (of_decide_eq_true (by kernel_rfl)) k0 bel lt0) trodAll_mk0), rfl, bel.frame _, fun h => by cases h⟩

theorem over : Rows.fnTreTurnRow.holds Try.pinned (OpenSpec.ofChange Rows.fnTreTurnSpec) :=
  OpenClaim.holds_of_wide 3 Try.f3 rfl rfl rfl rfl rfl rfl rfl ⟨rfl, rfl, rfl, rfl, rfl⟩ rfl rfl rfl rfl rfl (by kernel_rfl) Try.func3 (by kernel_rfl)
    (of_decide_eq_true (by kernel_rfl)) (by unfold Func.isWrapper; first | (rw [if_pos (by decide +kernel)]; kernel_rfl) | (rw [if_neg (by decide +kernel)]; exact ⟨rfl, rfl⟩))
    (fun os started H enc _ => lifted os started H enc)

theorem proved : Rows.FnTreTurnSaid := over
#print axioms proved
end Go.Proofs.Ytnnnonbalnanmaa.fnTreTurn
