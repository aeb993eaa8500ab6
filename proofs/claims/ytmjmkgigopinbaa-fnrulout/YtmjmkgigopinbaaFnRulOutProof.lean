/-
  Of every code: behind a drawn rule that is taken away no rule is that one, all others are there in their order, and it is told whether it was there; the program answers as the specification; the code reads as it did. No condition.
-/
import Derived.Test.YtmjmkgigopinbaaRows
import Derived.Test.YtmjmkgigopinbaaWalkDrawP
import Derived.Test.YtmjmkgigopinbaaWalkChR
import Derived.Test.YtmjmkgigopinbaaWalkOrder
import Derived.WalkKit
import Derived.ProofKit
import Derived.OpenShut
import Derived.ShutString
import Derived.ChangeOld
import Derived.Below
namespace Go.Proofs.Ytmjmkgigopinbaa.fnRulOut
open Go.ChangeShapes Go.WideShapes Go.ChangeAt Go.RowKit
open Go.ChangeMaps (open_string shut_string)
set_option linter.unusedVariables false

theorem own : ownKnob Try.prog.godebug = none := by kernel_rfl
theorem laidOut : laidOutB Try.prog = true := by kernel_rfl

/-- WHAT THE WALK IS TOLD OF A SLICE OF INTEGERS THAT CAME IN: it is nil; or it leads to a row of 'cap' cells, the numbers 'zs' (the first 'len' are its elements, the rest its spare room), each fitting its kind. -/
def IsRow (k : IntKind) (w : World) (a : Option Addr) (len cap : Nat) (zs : List Int) : Prop :=
  (a = none ∧ len = 0 ∧ cap = 0 ∧ zs = []) ∨
  ∃ x, a = some x ∧ len ≤ cap ∧ cap ≤ maxLen ∧ zs.length = cap ∧ (∀ i, i < zs.length → w.cell? (x.add i) = some (.int k (zs.getD i 0))) ∧ ∀ n ∈ zs, (Lit.int k n).wf = true

open Go.Proofs.Ytmjmkgigopinbaa.W Go.Proofs.Ytmjmkgigopinbaa.M in
set_option maxRecDepth 100000 in
set_option maxHeartbeats 4000000 in
theorem walk (a0 : Option Addr) (len0 cap0 : Nat) (z0 : List Int) (w : World) (w0 : IsRow .u8 w a0 len0 cap0 z0) :
    Calls Try.prog 5 #[.slice a0 len0 cap0] w fun e w' => e = .returned (.bool true) ∧ Below w.heap.size w w' := by
  have HS : Hid (W.Src w a0 len0 cap0 (fun i => z0.getD i 0)) := src_of w a0 len0 cap0 z0 w0
  clear w0
  have gR := guardR
  by_cases h : 1048576 < len0
  · go_enter Try.func5, Try.ntmps5
    go_wp2
    go_ret
    exact ⟨rfl, Below.refl _ _⟩
  go_enter Try.func5, Try.ntmps5
  go_wp2_with (first
    | (go_at_call 21; refine (drawRulOut_any _ _ _ _ _ HS.out).mono ?_; rintro e w1 ⟨v, L, r, rfl, h1, h2, h3, h4, hr1, hr2, B⟩; obtain ⟨A, c, rfl, rd, hc⟩ := rdR_own_cap h4; have hs1 := B.size; clear HS h4 h1; have HT : Hid (∀ j (h : j < L.length), (L[j]).ref.size ≤ 1048576 ∧ (L[j]).path.size ≤ 1048576) := h3.at; have HZ : Hid (SmR L) := h3; have HD : Hid (RdR w1.heap.size w1 A L) := rd; clear rd h3; have HQ : Hid (RdR (w1.heap.size + 1) (w1.alloc (.cells #[.int .i64 r.user, .string r.ref, .string r.path, .bool r.write] 32)) A L) := (by have := HD.out.up ((Below.refl _ w1).alloc (Nat.le_refl _) (.cells #[.int .i64 r.user, .string r.ref, .string r.path, .bool r.write] 32)); simp only [World.size_alloc] at this; exact this); have hat := atR_new w1 r 32)
    | (go_at_call 19; refine (rulOut_impl A c L r _ (by simp only [World.size_alloc]; exact HQ.out) (by omega)).mono ?_; rintro e w2 ⟨⟨v2, rfl, o2⟩, hb2⟩; simp only [World.size_alloc] at o2 hb2; have hs2 := hb2.size; simp only [World.size_alloc] at hs2; have hat2 := hat.below hb2 (by omega); obtain ⟨d1, d2, d3, d4⟩ := id hat2; have HD2 : Hid (RdR w2.heap.size w2 A L) := (HQ.out.below hb2 (Nat.le_refl _)).mono (by omega); have B2 : Below w.heap.size w w2 := (B.alloc (by omega) _).trans (hb2.mono (by omega)); clear B HQ HD hat hb2; obtain ⟨A2, c2, rfl, rd2, hc2⟩ := rdR_own_cap o2; clear o2; have HO2 : Hid (RdR w2.heap.size w2 A2 (outR L r)) := rd2; clear rd2)
    | (go_at_call 22; refine (rulOut_spec A c L r _ HD2.out (by omega)).mono ?_; rintro e w3 ⟨⟨v3, rfl, o3⟩, hb3⟩; have hs3 := hb3.size; clear d1 d2 d3 d4; have hat3 := hat2.below hb3 hat2.lt; have HD3 : Hid (RdR w3.heap.size w3 A L) := HD2.out.up hb3; have HO3 : Hid (RdR w3.heap.size w3 A2 (outR L r)) := HO2.out.up hb3; have B3 : Below w.heap.size w w3 := B2.trans (hb3.mono (by omega)); clear B2 HD2 HO2 hat2 hb3; obtain ⟨A3, c3, rfl, rd3⟩ := rdR_of_own o3; clear o3; have HP3 : Hid (RdR w3.heap.size w3 A3 (outR L r)) := rd3; clear rd3)
    | (go_at_call 17; refine (chRules_same A2 A3 c2 c3 (outR L r) _ HO3.out HP3.out (by have := outR_le L r; omega)).mono ?_; rintro e w4 ⟨rfl, hb4⟩; have hs4 := hb4.size; have hat4 := hat3.below hb4 hat3.lt; have HD4 : Hid (RdR w4.heap.size w4 A L) := HD3.out.up hb4; have HO4 : Hid (RdR w4.heap.size w4 A2 (outR L r)) := HO3.out.up hb4; have B4 : Below w.heap.size w w4 := B3.trans (hb4.mono (by omega)); clear B3 HD3 HO3 HP3 hat3 hb4))
  have hle := outR_le L r
  have hs5 := B4.size
  have hbk := hat4.lt
  go_loopw [9, 10] (fun nv iv wr => ∃ j m d : Nat, j ≤ L.length ∧ iv = .int .i64 j ∧ nv = .int .i64 m ∧ m + d = j ∧ Hid (d = (outR (L.take j) r).length) ∧ Below w4.heap.size w4 wr) (fun _ i _ => L.length - (intOf i).toNat)
  case atStart => exact ⟨0, 0, 0, Nat.zero_le _, rfl, rfl, rfl, (by simp [Hid, outR]), Below.refl _ _⟩
  case round =>
    obtain ⟨j, m, d, hj, rfl, rfl, hmd, HM, hb⟩ := hrel
    have hsz := hb.size
    by_cases hlt : j < L.length
    · obtain ⟨b, o, rfl, hbl, p1, p2, p3, p4⟩ := (HD4.out.below hb (Nat.le_refl _)) j hlt
      obtain ⟨d1, d2, d3, d4⟩ := hat4.below hb hbk
      have est := outR_take L r j hlt
      have Hat := outR_at L r j hlt
      rw [← HM.out] at Hat
      obtain ⟨x, hx⟩ : ∃ x, L[j] = x := ⟨_, rfl⟩
      rw [hx] at p1 p2 p3 p4 est Hat
      clear hx
      have x1 : ∀ y : Ext wr, y.world.cell? ⟨b, o + j * 4, none⟩ = some (.int .i64 x.user) := fun y => y.cell p1
      have x2 : ∀ y : Ext wr, y.world.cell? ⟨b, o + j * 4 + 1, none⟩ = some (.string x.ref) := fun y => y.cell p2
      have x3 : ∀ y : Ext wr, y.world.cell? ⟨b, o + j * 4 + 2, none⟩ = some (.string x.path) := fun y => y.cell p3
      have x4 : ∀ y : Ext wr, y.world.cell? ⟨b, o + j * 4 + 3, none⟩ = some (.bool x.write) := fun y => y.cell p4
      have y1 : ∀ y : Ext wr, y.world.cell? ⟨w1.heap.size, 0, none⟩ = some (.int .i64 r.user) := fun y => y.cell d1
      have y2 : ∀ y : Ext wr, y.world.cell? ⟨w1.heap.size, 1, none⟩ = some (.string r.ref) := fun y => y.cell d2
      have y3 : ∀ y : Ext wr, y.world.cell? ⟨w1.heap.size, 2, none⟩ = some (.string r.path) := fun y => y.cell d3
      have y4 : ∀ y : Ext wr, y.world.cell? ⟨w1.heap.size, 3, none⟩ = some (.bool r.write) := fun y => y.cell d4
      have hne : Nonempty (Ext wr) := ⟨⟨wr, Below.refl _ _⟩⟩
      have req := fun v => run_eqR v x r
      clear p1 p2 p3 p4 d1 d2 d3 d4
      cases q0 : eqR x r
      · rw [q0, if_neg (by decide)] at est
        rw [q0] at req
        obtain ⟨hd, hdx⟩ := Hat q0
        have HE : Hid (d + 1 = (outR (L.take (j + 1)) r).length) := by show d + 1 = _; rw [est, List.length_append, ← HM.out]; rfl
        obtain ⟨b', o', rfl, hbl', q1, q2, q3, q4⟩ := (HO4.out.below hb (Nat.le_refl _)) d hd
        rw [hdx] at q1 q2 q3 q4
        clear est q0 HM Hat hdx
        go_wp2
        refine region_ext (by kernel_rfl) (by kernel_rfl) ?_
        repeat (go_big_quiet_step (fail))
        refine wpQuiet_nil ?_
        rintro _ ⟨y, rfl⟩
        have hb1 := y.below
        have hs6 := hb1.size
        replace q1 := y.cell q1
        replace q2 := y.cell q2
        replace q3 := y.cell q3
        replace q4 := y.cell q4
        replace x1 := x1 y
        replace x2 := x2 y
        replace x3 := x3 y
        replace x4 := x4 y
        clear y1 y2 y3 y4 req hne
        obtain ⟨wy, hwy⟩ : ∃ wy, y.world = wy := ⟨_, rfl⟩
        rw [hwy] at hb1 hs6 q1 q2 q3 q4 x1 x2 x3 x4
        rw [hwy]
        clear hwy y
        have z1 : ∀ y : Ext wy, y.world.cell? ⟨b, o + j * 4, none⟩ = some (.int .i64 x.user) := fun y => y.cell x1
        have z2 : ∀ y : Ext wy, y.world.cell? ⟨b, o + j * 4 + 1, none⟩ = some (.string x.ref) := fun y => y.cell x2
        have z3 : ∀ y : Ext wy, y.world.cell? ⟨b, o + j * 4 + 2, none⟩ = some (.string x.path) := fun y => y.cell x3
        have z4 : ∀ y : Ext wy, y.world.cell? ⟨b, o + j * 4 + 3, none⟩ = some (.bool x.write) := fun y => y.cell x4
        have u1 : ∀ y : Ext wy, y.world.cell? ⟨b', o' + d * 4, none⟩ = some (.int .i64 x.user) := fun y => y.cell q1
        have u2 : ∀ y : Ext wy, y.world.cell? ⟨b', o' + d * 4 + 1, none⟩ = some (.string x.ref) := fun y => y.cell q2
        have u3 : ∀ y : Ext wy, y.world.cell? ⟨b', o' + d * 4 + 2, none⟩ = some (.string x.path) := fun y => y.cell q3
        have u4 : ∀ y : Ext wy, y.world.cell? ⟨b', o' + d * 4 + 3, none⟩ = some (.bool x.write) := fun y => y.cell q4
        have hne2 : Nonempty (Ext wy) := ⟨⟨wy, Below.refl _ _⟩⟩
        have req2 := fun v => run_neR v x x
        rw [eqR_self] at req2
        have hsub : (j : Int) - (m : Int) = (d : Int) := by omega
        have hg1 : decide ((outR L r).length ≤ d) = false := by simp; omega
        clear x1 x2 x3 x4 q1 q2 q3 q4
        go_wp2
        refine region_ext (by kernel_rfl) (by kernel_rfl) ?_
        repeat (go_big_quiet_step (fail))
        refine wpQuiet_nil ?_
        rintro _ ⟨y2, rfl⟩
        have hb2 := y2.below
        go_wp2
        go_roundw
        case rel => exact ⟨j + 1, m, d + 1, by omega, by go_num, rfl, by omega, HE, (hb.trans (hb1.mono (by omega))).trans (hb2.mono (by omega))⟩
        case measure => simp [intOf]; omega
      · rw [q0, if_pos rfl, List.append_nil] at est
        rw [q0] at req
        have HE : Hid (d = (outR (L.take (j + 1)) r).length) := by show d = _; rw [est]; exact HM.out
        clear est q0 HM Hat
        go_wp2
        refine region_ext (by kernel_rfl) (by kernel_rfl) ?_
        repeat (go_big_quiet_step (fail))
        refine wpQuiet_nil ?_
        rintro _ ⟨y, rfl⟩
        have hb1 := y.below
        go_wp2
        go_roundw
        case rel => exact ⟨j + 1, m + 1, d, by omega, by go_num, by go_num, by omega, HE, hb.trans (hb1.mono (by omega))⟩
        case measure => simp [intOf]; omega
    · obtain rfl : j = L.length := by omega
      have hd := HM.out
      rw [List.take_length] at hd
      subst hd
      have Br := B4.trans (hb.mono hs5)
      have HDr : Hid (RdR wr.heap.size wr A L) := HD4.out.up hb
      have HOr : Hid (RdR wr.heap.size wr A2 (outR L r)) := HO4.out.up hb
      have hsr := Br.size
      have HTO : Hid (∀ j (h : j < (outR L r).length), ((outR L r)[j]).ref.size ≤ 1048576 ∧ ((outR L r)[j]).path.size ≤ 1048576) := fun j h => by have := HZ.out _ (outR_mem (List.getElem_mem h)); omega
      clear HM HD4 HO4
      have hoz := outR_le L r
      rcases Nat.eq_zero_or_pos m with hm0 | hm0
      all_goals
        have e1 : decide ((outR L r).length < L.length) = decide (0 < m) := by rw [Bool.eq_iff_iff, decide_eq_true_eq, decide_eq_true_eq]; omega
        cases hk : okR L
        · have HK : Hid (okR L = false) := hk
          clear hk
          go_wp2_with (first
            | (go_at_call 23; refine (rulListOk_spec A c L _ HDr.out (by omega) hc HT.out).mono ?_; rw [HK.out]; rintro e w5 ⟨rfl, hb5⟩; clear HDr)
            | (go_at_call 18; refine (chOk_any _).mono ?_; rintro e w6 ⟨rfl, rfl⟩))
          go_ret
          exact ⟨rfl, Br.trans (hb5.mono hsr)⟩
        · have HK : Hid (okR L = true) := hk
          have HL : Hid (okR (outR L r) = true) := okR_out L r hk
          clear hk
          go_wp2_with (first
            | (go_at_call 23; refine (rulListOk_spec A c L _ HDr.out (by omega) hc HT.out).mono ?_; rw [HK.out]; rintro e w5 ⟨rfl, hb5⟩; clear HDr; have HO5 : Hid (RdR w5.heap.size w5 A2 (outR L r)) := HOr.out.up hb5; have hs5' := hb5.size)
            | (go_at_call 20; refine (rulListOk_impl A2 c2 (outR L r) _ HO5.out (by omega) hc2 HTO.out).mono ?_; rw [HL.out]; rintro e w6 ⟨rfl, hb6⟩)
            | (go_at_call 18; refine (chOk_any _).mono ?_; rintro e w7 ⟨rfl, rfl⟩))
          go_ret
          exact ⟨rfl, (Br.trans (hb5.mono hsr)).trans (hb6.mono (by omega))⟩

set_option maxRecDepth 100000 in
theorem lifted (os : Os) (started : os.Started) (H : Type) (enc : TypeId × Value → H) :
    ReturnsInHanded {} Try.checked os 5 .any (Rows.fnRulOutSpec.pre6 enc Try.prog Try.f5 Rows.fnRulOutRow.domain false) (Rows.fnRulOutSpec.post enc Try.prog Try.f5 false true false false) := by
  refine returnsInHanded_of_change (C := Try.checked) own started (by kernel_rfl) Try.func5
    (ChangeSpec.witness6 (enc := enc) (C := Try.checked) false ⟨#[], #[.slice none 0 0], []⟩ 8 (by kernel_rfl) (by kernel_rfl) (by kernel_rfl) (by kernel_rfl)) ?_
  intro W base args ds gs before hval0 hW hcnd _
  have hval : ∀ (j : Nat) t v, Try.f5.params[j]? = some t → args[j]? = some v → Value.okWide Try.prog W .any base t v := hval0
  have hW' := hW
  obtain ⟨p, q, hA0, hV, rfl, hfz, hnd⟩ := hW
  have hA : DataW.TrodAll enc Try.prog W 0 (fun _ => true) true Try.f5.params.toList args.toList ds p := hA0
  rw [Try.params5] at hA hval
  obtain ⟨v0, vs0, d0, ds0, p0, q0, hargs, rfl, rfl, h0, r0⟩ := trodAll_cons hA
  obtain ⟨rfl, rfl, rfl⟩ := trodAll_nil r0
  obtain rfl : args = #[v0] := by cases args; simp_all
  obtain ⟨rfl, rfl⟩ := trodVars_none hV
  obtain ⟨a0, len0, cap0, rfl⟩ := okWide_slice Try.underlying22 (hval 0 22 v0 rfl rfl)
  have k0 := h0
  have lt0 : ∀ x ∈ p0, x.block < W.heap.size := by obtain ⟨m, hm⟩ := k0; exact DataW.trod_lt m _ _ _ hm
  obtain ⟨z0, w0⟩ : ∃ zs, IsRow .u8 W a0 len0 cap0 zs := by
    obtain ⟨fuel, hf⟩ := h0
    rcases open_ints Try.underlying22 Try.underlying5 (by kernel_rfl) hf with ⟨hcs, _⟩ | ⟨x, l, c, zs, hcs, _, hl, hm, hz, _, hcell, hwz⟩
    · simp [Value.cells] at hcs
      obtain ⟨rfl, rfl, rfl⟩ := hcs
      exact ⟨[], .inl ⟨rfl, rfl, rfl, rfl⟩⟩
    · simp [Value.cells] at hcs
      obtain ⟨rfl, rfl, rfl⟩ := hcs
      exact ⟨zs, .inr ⟨_, rfl, hl, hm, by simpa using hz, hcell, hwz⟩⟩
  clear hA0 hval0
  refine (walk a0 len0 cap0 z0 W w0).mono fun e W' ⟨he, bel⟩ => ?_
  subst he
  exact ⟨_, rfl, _, _, _, [], _, [], hW', trodAll_mk1 (shut_bool Try.underlying4 _), (trodAll_cons_mk (Below.trod laidOut (by kernel_rfl) (of_decide_eq_true (by kernel_rfl)) k0 bel lt0) trodAll_mk0), rfl, bel.frame _, fun h => by cases h⟩

theorem over : Rows.fnRulOutRow.holds Try.pinned (OpenSpec.ofChange Rows.fnRulOutSpec) :=
  OpenClaim.holds_of_wide 5 Try.f5 rfl rfl rfl rfl rfl rfl rfl ⟨rfl, rfl, rfl, rfl, rfl⟩ rfl rfl rfl rfl rfl (by kernel_rfl) Try.func5 (by kernel_rfl)
    (of_decide_eq_true (by kernel_rfl)) (by unfold Func.isWrapper; first | (rw [if_pos (by decide +kernel)]; kernel_rfl) | (rw [if_neg (by decide +kernel)]; exact ⟨rfl, rfl⟩))
    (fun os started H enc _ => lifted os started H enc)

theorem proved : Rows.FnRulOutSaid := over
#print axioms proved
end Go.Proofs.Ytmjmkgigopinbaa.fnRulOut
