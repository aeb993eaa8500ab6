
/-
  The last region of the law on ReqWrites, at a kind that is none of the three. (Written by genreqk.py.) No condition.
-/
import Derived.Test.YtcdkjlbpcihcjaaWalkReqH
import Derived.Test.YtcdkjlbpcihcjaaWalkReqQ
import Derived.Test.YtcdkjlbpcihcjaaMathExt
namespace Go.Proofs.Ytcdkjlbpcihcjaa.W
open Go.RowKit Go.Proofs.Ytcdkjlbpcihcjaa.M
set_option linter.unusedVariables false
set_option linter.unusedSimpArgs false
set_option maxRecDepth 100000 in
set_option maxHeartbeats 8000000 in
theorem ReqK0 {c0 : Code} (hc : Try.f3.body.bind (codeAt [true, true, true, true, true, false]) = some c0) {Q : Exit → Act → World → Prop} {wr : World} {g1 g2 c : Nat} {kd : Int} {x : RQ} {A : Option Addr} {b0 : Bool} {s0 s1 s2 s6 s7 s8 s9 s10 s11 s12 s13 s14 s15 s16 s17 s18 s19 s20 s21 s22 s23 s24 s25 s26 s27 s28 s29 s30 s31 s32 s33 s34 s35 s36 s37 s38 s39 s40 s41 s42 s43 s44 s45 s46 s47 s48 s49 s50 s51 s52 s53 : Value} (hkd : x.kind = kd) (h1 : kd ≠ 1) (h9 : kd ≠ 9) (h10 : kd ≠ 10) (hb0 : okQ x = b0) (HR : Hid (RdE wr.heap.size wr A x.edits)) (HZ : Hid (szQ x ≤ 1048576))
    (D : AtQ wr g1 x (.slice A x.edits.length c)) (DK : AtQ wr g2 ⟨0, 0, 0, kd, ⟨#[]⟩, ⟨#[]⟩, 0, 0, [], ⟨0, ⟨#[]⟩, ⟨#[]⟩, false⟩, 0, ⟨#[]⟩⟩ (.slice none 0 0)) (hend : ∀ a' w', a'.tmps.size = 54 → a'.defers = [] → a'.tmps[2]? = some (.bool true) → Below wr.heap.size wr w' → Q .normal a' w') : c0.wp Try.prog Q ⟨List.toArray (s0 :: s1 :: s2 :: .pointer (some ⟨g1, 0, none⟩) :: .bool false :: .pointer (some ⟨g2, 0, none⟩) :: s6 :: s7 :: s8 :: s9 :: s10 :: s11 :: s12 :: s13 :: s14 :: s15 :: s16 :: s17 :: s18 :: s19 :: s20 :: s21 :: s22 :: s23 :: s24 :: s25 :: s26 :: s27 :: s28 :: s29 :: s30 :: s31 :: s32 :: s33 :: s34 :: s35 :: s36 :: s37 :: s38 :: s39 :: s40 :: s41 :: s42 :: s43 :: s44 :: s45 :: s46 :: s47 :: s48 :: s49 :: s50 :: s51 :: s52 :: s53 :: []), []⟩ wr := by
  simp only [Try.f3, Option.bind, codeAt] at hc
  obtain rfl := Option.some.inj hc
  clear hc
  have hw : wrB x = false := by simp [wrB, hkd, h1, h9, h10]
  have CS := hidOf fun y : Ext wr => (show Calls Try.prog 6 #[.agg #[.int .i64 x.user, .int .i64 x.key, .int .i64 x.repo, .int .i64 kd, .string x.ref, .string x.path, .int .i64 x.old, .int .i64 x.back, .slice A x.edits.length c, .int .i64 x.rule.user, .string x.rule.ref, .string x.rule.path, .bool x.rule.write, .int .i64 x.from_, .string x.other]] y.world (fun e w' => e = .returned (.bool false) ∧ Below y.world.heap.size y.world w') from by have e := writes_spec x (.slice A x.edits.length c) y.world; rw [hw] at e; simp only [RQ.at_, hkd] at e; exact e)
  have CK := hidOf fun y : Ext wr => (show Calls Try.prog 5 #[.agg #[.int .i64 0, .int .i64 0, .int .i64 0, .int .i64 kd, .string ⟨#[]⟩, .string ⟨#[]⟩, .int .i64 0, .int .i64 0, .slice none 0 0, .int .i64 0, .string ⟨#[]⟩, .string ⟨#[]⟩, .bool false, .int .i64 0, .string ⟨#[]⟩]] y.world (fun e w' => e = .returned (.bool false) ∧ Below y.world.heap.size y.world w') from by have e := writes_impl ⟨0, 0, 0, kd, ⟨#[]⟩, ⟨#[]⟩, 0, 0, [], ⟨0, ⟨#[]⟩, ⟨#[]⟩, false⟩, 0, ⟨#[]⟩⟩ (.slice none 0 0) y.world; rw [show wrB ⟨0, 0, 0, kd, ⟨#[]⟩, ⟨#[]⟩, 0, 0, [], ⟨0, ⟨#[]⟩, ⟨#[]⟩, false⟩, 0, ⟨#[]⟩⟩ = false from by simp [wrB, h1, h9, h10]] at e; exact e)
  have C1 := hidOf fun y : Ext wr => (show Calls Try.prog 5 #[.agg #[.int .i64 0, .int .i64 0, .int .i64 0, .int .i64 1, .string ⟨#[]⟩, .string ⟨#[]⟩, .int .i64 0, .int .i64 0, .slice none 0 0, .int .i64 0, .string ⟨#[]⟩, .string ⟨#[]⟩, .bool false, .int .i64 0, .string ⟨#[]⟩]] y.world (fun e w' => e = .returned (.bool true) ∧ Below y.world.heap.size y.world w') from by have e := writes_impl ⟨0, 0, 0, 1, ⟨#[]⟩, ⟨#[]⟩, 0, 0, [], ⟨0, ⟨#[]⟩, ⟨#[]⟩, false⟩, 0, ⟨#[]⟩⟩ (.slice none 0 0) y.world; rw [show wrB ⟨0, 0, 0, 1, ⟨#[]⟩, ⟨#[]⟩, 0, 0, [], ⟨0, ⟨#[]⟩, ⟨#[]⟩, false⟩, 0, ⟨#[]⟩⟩ = true from by simp [wrB]] at e; exact e)
  have CI := hidOf fun y : Ext wr => (show Calls Try.prog 7 #[.agg #[.int .i64 x.user, .int .i64 x.key, .int .i64 x.repo, .int .i64 kd, .string x.ref, .string x.path, .int .i64 x.old, .int .i64 x.back, .slice A x.edits.length c, .int .i64 x.rule.user, .string x.rule.ref, .string x.rule.path, .bool x.rule.write, .int .i64 x.from_, .string x.other]] y.world (fun e w' => e = .returned (.bool b0) ∧ Below y.world.heap.size y.world w') from by have e := reqOk_impl x A c y.world (HR.out.up y.below) HZ.out; rw [hb0] at e; simp only [RQ.at_, hkd] at e; exact e)
  have CO := hidOf fun y : Ext wr => (show Calls Try.prog 8 #[.agg #[.int .i64 x.user, .int .i64 x.key, .int .i64 x.repo, .int .i64 kd, .string x.ref, .string x.path, .int .i64 x.old, .int .i64 x.back, .slice A x.edits.length c, .int .i64 x.rule.user, .string x.rule.ref, .string x.rule.path, .bool x.rule.write, .int .i64 x.from_, .string x.other]] y.world (fun e w' => e = .returned (.bool b0) ∧ Below y.world.heap.size y.world w') from by have e := reqOk_spec x A c y.world (HR.out.up y.below) HZ.out; rw [hb0] at e; simp only [RQ.at_, hkd] at e; exact e)
  clear hw HR HZ hb0
  obtain ⟨e0, e1, e2, e3, e4, e5, e6, e7, e8, e9, e10, e11, e12, e13, e14⟩ := D.all
  obtain ⟨l0, l1, l2, l3, l4, l5, l6, l7, l8, l9, l10, l11, l12, l13, l14⟩ := DK.all
  clear D DK
  simp only [hkd] at e3
  clear hkd
  have hne : Nonempty (Ext wr) := ⟨⟨wr, Below.refl _ _⟩⟩
  have x0 : ∀ y : Ext wr, y.world.cell? ⟨g1, 0, none⟩ = some (.int .i64 x.user) := fun y => y.cell e0
  have x1 : ∀ y : Ext wr, y.world.cell? ⟨g1, 1, none⟩ = some (.int .i64 x.key) := fun y => y.cell e1
  have x2 : ∀ y : Ext wr, y.world.cell? ⟨g1, 2, none⟩ = some (.int .i64 x.repo) := fun y => y.cell e2
  have x3 : ∀ y : Ext wr, y.world.cell? ⟨g1, 3, none⟩ = some (.int .i64 kd) := fun y => y.cell e3
  have x4 : ∀ y : Ext wr, y.world.cell? ⟨g1, 4, none⟩ = some (.string x.ref) := fun y => y.cell e4
  have x5 : ∀ y : Ext wr, y.world.cell? ⟨g1, 5, none⟩ = some (.string x.path) := fun y => y.cell e5
  have x6 : ∀ y : Ext wr, y.world.cell? ⟨g1, 6, none⟩ = some (.int .i64 x.old) := fun y => y.cell e6
  have x7 : ∀ y : Ext wr, y.world.cell? ⟨g1, 7, none⟩ = some (.int .i64 x.back) := fun y => y.cell e7
  have x8 : ∀ y : Ext wr, y.world.cell? ⟨g1, 8, none⟩ = some (.slice A x.edits.length c) := fun y => y.cell e8
  have x9 : ∀ y : Ext wr, y.world.cell? ⟨g1, 9, none⟩ = some (.int .i64 x.rule.user) := fun y => y.cell e9
  have x10 : ∀ y : Ext wr, y.world.cell? ⟨g1, 10, none⟩ = some (.string x.rule.ref) := fun y => y.cell e10
  have x11 : ∀ y : Ext wr, y.world.cell? ⟨g1, 11, none⟩ = some (.string x.rule.path) := fun y => y.cell e11
  have x12 : ∀ y : Ext wr, y.world.cell? ⟨g1, 12, none⟩ = some (.bool x.rule.write) := fun y => y.cell e12
  have x13 : ∀ y : Ext wr, y.world.cell? ⟨g1, 13, none⟩ = some (.int .i64 x.from_) := fun y => y.cell e13
  have x14 : ∀ y : Ext wr, y.world.cell? ⟨g1, 14, none⟩ = some (.string x.other) := fun y => y.cell e14
  have k0 : ∀ y : Ext wr, y.world.cell? ⟨g2, 0, none⟩ = some (.int .i64 0) := fun y => y.cell l0
  have k1 : ∀ y : Ext wr, y.world.cell? ⟨g2, 1, none⟩ = some (.int .i64 0) := fun y => y.cell l1
  have k2 : ∀ y : Ext wr, y.world.cell? ⟨g2, 2, none⟩ = some (.int .i64 0) := fun y => y.cell l2
  have k3 : ∀ y : Ext wr, y.world.cell? ⟨g2, 3, none⟩ = some (.int .i64 kd) := fun y => y.cell l3
  have k4 : ∀ y : Ext wr, y.world.cell? ⟨g2, 4, none⟩ = some (.string ⟨#[]⟩) := fun y => y.cell l4
  have k5 : ∀ y : Ext wr, y.world.cell? ⟨g2, 5, none⟩ = some (.string ⟨#[]⟩) := fun y => y.cell l5
  have k6 : ∀ y : Ext wr, y.world.cell? ⟨g2, 6, none⟩ = some (.int .i64 0) := fun y => y.cell l6
  have k7 : ∀ y : Ext wr, y.world.cell? ⟨g2, 7, none⟩ = some (.int .i64 0) := fun y => y.cell l7
  have k8 : ∀ y : Ext wr, y.world.cell? ⟨g2, 8, none⟩ = some (.slice none 0 0) := fun y => y.cell l8
  have k9 : ∀ y : Ext wr, y.world.cell? ⟨g2, 9, none⟩ = some (.int .i64 0) := fun y => y.cell l9
  have k10 : ∀ y : Ext wr, y.world.cell? ⟨g2, 10, none⟩ = some (.string ⟨#[]⟩) := fun y => y.cell l10
  have k11 : ∀ y : Ext wr, y.world.cell? ⟨g2, 11, none⟩ = some (.string ⟨#[]⟩) := fun y => y.cell l11
  have k12 : ∀ y : Ext wr, y.world.cell? ⟨g2, 12, none⟩ = some (.bool false) := fun y => y.cell l12
  have k13 : ∀ y : Ext wr, y.world.cell? ⟨g2, 13, none⟩ = some (.int .i64 0) := fun y => y.cell l13
  have k14 : ∀ y : Ext wr, y.world.cell? ⟨g2, 14, none⟩ = some (.string ⟨#[]⟩) := fun y => y.cell l14
  clear e0 e1 e2 e3 e4 e5 e6 e7 e8 e9 e10 e11 e12 e13 e14 l0 l1 l2 l3 l4 l5 l6 l7 l8 l9 l10 l11 l12 l13 l14
  have q1 : (kd == 1) = false := by simp [h1]
  have q9 : (kd == 9) = false := by simp [h9]
  have q10 : (kd == 10) = false := by simp [h10]
  clear h1 h9 h10
  refine region_ext (by kernel_rfl) (by kernel_rfl) ?_
  repeat (go_big_quiet_step (first
    | (go_at_call 6; exact calls_ext (CS.out _))
    | (go_at_call_of 5 (Value.agg #[.int .i64 0, .int .i64 0, .int .i64 0, .int .i64 kd, .string ⟨#[]⟩, .string ⟨#[]⟩, .int .i64 0, .int .i64 0, .slice none 0 0, .int .i64 0, .string ⟨#[]⟩, .string ⟨#[]⟩, .bool false, .int .i64 0, .string ⟨#[]⟩]); exact calls_ext (CK.out _))
    | (go_at_call 5; exact calls_ext (C1.out _))
    | (go_at_call 7; exact calls_ext (CI.out _))
    | (go_at_call 8; exact calls_ext (CO.out _))))
  refine wpQuiet_nil ?_
  rintro _ ⟨y, rfl⟩
  have hb9 := y.below
  go_wp2
  exact hend _ _ rfl rfl rfl hb9
end Go.Proofs.Ytcdkjlbpcihcjaa.W
