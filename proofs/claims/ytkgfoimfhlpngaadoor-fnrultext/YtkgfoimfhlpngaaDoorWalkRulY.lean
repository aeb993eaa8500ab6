
/-
  The walks of RulText of the specification and of the program. Texts of at most 1048576 bytes.
-/
import Derived.Test.YtkgfoimfhlpngaaDoorWalkRulX
import Derived.Test.YtkgfoimfhlpngaaDoorShelf
import Derived.Deep.DeepCutAuto
import Derived.Deep.RegionWith
namespace Go.Proofs.YtkgfoimfhlpngaaDoor.W
open Go.RowKit Go.Proofs.YtkgfoimfhlpngaaDoor.M

theorem rulB_u (x : RR) (h : rulB x = true) : ∃ n : Nat, n ≤ 4 ∧ x.user = n := by
  by_cases h0 : 0 ≤ x.user ∧ x.user ≤ 4
  · exact ⟨x.user.toNat, by omega, by omega⟩
  · rw [rulB_user x h0] at h; cases h

set_option maxRecDepth 100000 in
set_option maxHeartbeats 1000000 in
theorem rulText_spec (x : RR) (w : World) (hr : x.ref.size ≤ 1048576) (hp : x.path.size ≤ 1048576) :
    Calls Tryd.prog 11 #[.agg #[.int .i64 x.user, .string x.ref, .string x.path, .bool x.write]] w fun e w' => e = .returned (.string (textB x)) ∧ Below w.heap.size w w' := by
  cases hb : rulB x
  · have e0 : textB x = ⟨#[]⟩ := by unfold textB; rw [hb]; rfl
    rw [e0]
    have HB : Hid (rulB x = false) := hb
    clear hb e0
    go_enter Tryd.func11, Tryd.ntmps11
    go_wp2_with (go_at_call 26; refine (rulOk_spec x _ hr hp).mono ?_; rw [HB.out]; rintro e w1 ⟨rfl, hb⟩)
    go_ret
    exact ⟨rfl, ((Below.refl _ w).alloc (Nat.le_refl _) _).trans (hb.mono (by simp))⟩
  · obtain ⟨n, hn, hu⟩ := rulB_u x hb
    have e0 : textB x = digB n ++ spB ++ dashB x.ref ++ spB ++ dashB x.path ++ spB ++ wordB x.write := by unfold textB; rw [hb, hu]; rfl
    rw [e0]
    have HB : Hid (rulB x = true) := hb
    clear hb e0
    obtain ⟨u, r, p, b⟩ := x
    simp only at *
    subst hu
    have hs1 := dashB_size r
    have hs2 := dashB_size p
    have HR : Hid (∀ w, Calls Tryd.prog 28 #[.string r] w fun e w' => e = .returned (.string (dashB r)) ∧ Below w.heap.size w w') := fun w => l5Dash_any r w
    have HP : Hid (∀ w, Calls Tryd.prog 28 #[.string p] w fun e w' => e = .returned (.string (dashB p)) ∧ Below w.heap.size w w') := fun w => l5Dash_any p w
    have ks : (digB n).size = 1 := rfl
    have kp : spB.size = 1 := rfl
    cases b
    · go_enter Tryd.func11, Tryd.ntmps11
      go_upto_region 6 with (go_at_call 26; refine (rulOk_spec ⟨n, r, p, false⟩ _ hr hp).mono ?_; rw [HB.out]; rintro e w1 ⟨rfl, hb⟩; have D := (atR_new w ⟨n, r, p, false⟩ 23).up hb; have B := ((Below.refl _ w).alloc (Nat.le_refl _) _).trans (hb.mono (by simp)); clear hb; obtain ⟨d0, d1, d2, d3⟩ := id D; simp only at d0 d1 d2 d3)
      have x0 : ∀ y : Ext w1, y.world.cell? ⟨w.heap.size, 0, none⟩ = some (.int .i64 (n : Int)) := fun y => y.cell d0
      have x1 : ∀ y : Ext w1, y.world.cell? ⟨w.heap.size, 1, none⟩ = some (.string r) := fun y => y.cell d1
      have x2 : ∀ y : Ext w1, y.world.cell? ⟨w.heap.size, 2, none⟩ = some (.string p) := fun y => y.cell d2
      have hne : Nonempty (Ext w1) := ⟨⟨w1, Below.refl _ _⟩⟩
      refine region_ext (by kernel_rfl) (by kernel_rfl) ?_
      repeat (go_big_quiet_step (first | (go_at_call 27; exact calls_ext (l5Digits_any n _ hn)) | (go_at_call_of 28 r; exact calls_ext (HR.out _)) | (go_at_call_of 28 p; exact calls_ext (HP.out _))))
      refine wpQuiet_nil ?_
      rintro _ ⟨y, rfl⟩
      have hb1 := y.below
      go_wp2
      go_ret
      exact ⟨rfl, B.trans (hb1.mono B.size)⟩
    · go_enter Tryd.func11, Tryd.ntmps11
      go_upto_region 6 with (go_at_call 26; refine (rulOk_spec ⟨n, r, p, true⟩ _ hr hp).mono ?_; rw [HB.out]; rintro e w1 ⟨rfl, hb⟩; have D := (atR_new w ⟨n, r, p, true⟩ 23).up hb; have B := ((Below.refl _ w).alloc (Nat.le_refl _) _).trans (hb.mono (by simp)); clear hb; obtain ⟨d0, d1, d2, d3⟩ := id D; simp only at d0 d1 d2 d3)
      have x0 : ∀ y : Ext w1, y.world.cell? ⟨w.heap.size, 0, none⟩ = some (.int .i64 (n : Int)) := fun y => y.cell d0
      have x1 : ∀ y : Ext w1, y.world.cell? ⟨w.heap.size, 1, none⟩ = some (.string r) := fun y => y.cell d1
      have x2 : ∀ y : Ext w1, y.world.cell? ⟨w.heap.size, 2, none⟩ = some (.string p) := fun y => y.cell d2
      have hne : Nonempty (Ext w1) := ⟨⟨w1, Below.refl _ _⟩⟩
      refine region_ext (by kernel_rfl) (by kernel_rfl) ?_
      repeat (go_big_quiet_step (first | (go_at_call 27; exact calls_ext (l5Digits_any n _ hn)) | (go_at_call_of 28 r; exact calls_ext (HR.out _)) | (go_at_call_of 28 p; exact calls_ext (HP.out _))))
      refine wpQuiet_nil ?_
      rintro _ ⟨y, rfl⟩
      have hb1 := y.below
      go_wp2
      go_ret
      exact ⟨rfl, B.trans (hb1.mono B.size)⟩

theorem join4 (a b c d : ByteArray) : (⟨(Lib.join ([a, b, c, d].map (·.data.toList)) spB.data.toList).toArray⟩ : ByteArray) = a ++ spB ++ b ++ spB ++ c ++ spB ++ d := by
  apply ByteArray.ext
  simp [Lib.join, spB]
theorem decDig (n : Nat) (hn : n ≤ 4) : (⟨(Lib.decDigits n).toArray⟩ : ByteArray) = digB n := by
  have : n = 0 ∨ n = 1 ∨ n = 2 ∨ n = 3 ∨ n = 4 := by omega
  rcases this with rfl | rfl | rfl | rfl | rfl <;> (rw [Lib.decDigits_one (by omega)]; rfl)

theorem joins (n : Nat) (r p t : ByteArray) (w w1 v : World) (_hn : n ≤ 4) (hs1 : (dashB r).size ≤ 1048577) (hs2 : (dashB p).size ≤ 1048577) (ht : t.size ≤ 5) (B : Below w.heap.size w w1) (hv : Below w1.heap.size w1 v) :
    Calls Tryd.prog 21 #[.slice (some ⟨v.heap.size, 0, none⟩) 4 4, .string ⟨#[32]⟩] (v.alloc (.cells #[.string (digB n), .string (dashB r), .string (dashB p), .string t] 9)) fun e w' => e = .returned (.string (digB n ++ spB ++ dashB r ++ spB ++ dashB p ++ spB ++ t)) ∧ Below w.heap.size w w' := by
  have hl : (Lib.join ([digB n, dashB r, dashB p, t].map (·.data.toList)) spB.data.toList).length ≤ 140737488355328 := by
    have e := join4 (digB n) (dashB r) (dashB p) t
    have e2 := congrArg ByteArray.size e
    simp only [ByteArray.size_append] at e2
    have e3 : (⟨(Lib.join ([digB n, dashB r, dashB p, t].map (·.data.toList)) spB.data.toList).toArray⟩ : ByteArray).size = (Lib.join ([digB n, dashB r, dashB p, t].map (·.data.toList)) spB.data.toList).length := by simp [ByteArray.size]
    have e4 : (digB n).size = 1 := rfl
    have e5 : spB.size = 1 := rfl
    omega
  refine (Tryd.strings_Join v.heap.size 0 4 [digB n, dashB r, dashB p, t] spB (v.alloc (.cells #[.string (digB n), .string (dashB r), .string (dashB p), .string t] 9)) (fun j x hx => ?_) (by simp) (by simp) (by simp) hl).mono ?_
  · have hj : j < 4 := by simpa using (List.getElem?_eq_some_iff.1 hx).1
    have : j = 0 ∨ j = 1 ∨ j = 2 ∨ j = 3 := by omega
    rcases this with rfl | rfl | rfl | rfl <;> (simp at hx; subst hx; simp)
  · rintro e w' ⟨rfl, hb⟩
    rw [join4]
    exact ⟨rfl, (B.trans ((hv.alloc hv.size _).mono B.size)).trans (hb.mono (by have := B.size; have := hv.size; simp; omega))⟩

end Go.Proofs.YtkgfoimfhlpngaaDoor.W
