
/-
  The walk of RulText of the program at a rule that is ok and lets write. Texts of at most 1048576 bytes.
-/
import Derived.Test.YtkgfoimfhlpngaaDoorWalkRulY
namespace Go.Proofs.YtkgfoimfhlpngaaDoor.W
open Go.RowKit Go.Proofs.YtkgfoimfhlpngaaDoor.M

set_option maxRecDepth 100000 in
set_option maxHeartbeats 4000000 in
theorem rulText_w (n : Nat) (r p : ByteArray) (w : World) (hn : n ≤ 4) (hr : r.size ≤ 1048576) (hp : p.size ≤ 1048576) (HB : Hid (rulB ⟨n, r, p, true⟩ = true)) :
    Calls Tryd.prog 9 #[.agg #[.int .i64 (n : Int), .string r, .string p, .bool true]] w fun e w' => e = .returned (.string (digB n ++ spB ++ dashB r ++ spB ++ dashB p ++ spB ++ ⟨#[119, 114, 105, 116, 101]⟩)) ∧ Below w.heap.size w w' := by
  have hs1 : (dashB r).size ≤ 1048577 := Nat.le_trans (dashB_size r) (by omega)
  have hs2 : (dashB p).size ≤ 1048577 := Nat.le_trans (dashB_size p) (by omega)
  have HD : Hid ((⟨(Lib.decDigits n).toArray⟩ : ByteArray) = digB n) := decDig n hn
  go_enter Tryd.func9, Tryd.ntmps9
  go_upto_region 6 with (go_at_call 12; refine (rulOk_impl ⟨n, r, p, true⟩ _ hr hp).mono ?_; rw [HB.out]; rintro e w1 ⟨rfl, hb⟩; have D := (atR_new w ⟨n, r, p, true⟩ 23).up hb; have B := ((Below.refl _ w).alloc (Nat.le_refl _) _).trans (hb.mono (by simp)); clear hb; obtain ⟨d0, d1, d2, d3⟩ := id D; simp only at d0 d1 d2 d3)
  have HJ : Hid (∀ v : World, Below w1.heap.size w1 v → Calls Tryd.prog 21 #[.slice (some ⟨v.heap.size, 0, none⟩) 4 4, .string ⟨#[32]⟩] (v.alloc (.cells #[.string (digB n), .string (dashB r), .string (dashB p), .string ⟨#[119, 114, 105, 116, 101]⟩] 9)) fun e w' => e = .returned (.string (digB n ++ spB ++ dashB r ++ spB ++ dashB p ++ spB ++ ⟨#[119, 114, 105, 116, 101]⟩)) ∧ Below w.heap.size w w') := fun v hv => joins n r p ⟨#[119, 114, 105, 116, 101]⟩ w w1 v hn hs1 hs2 (by decide) B hv
  go_region_with (first
    | (go_at_call 22; refine (Tryd.strconv_Itoa_small n (by omega) _).mono ?_; rw [HD.out]; rintro e w2 ⟨rfl, h2⟩; subst h2)
    | (go_at_call_of 23 r; refine (markEmpty_any r _).mono ?_; rintro e w3 ⟨rfl, rfl⟩)
    | (go_at_call_of 23 p; refine (markEmpty_any p _).mono ?_; rintro e w4 ⟨rfl, rfl⟩)
    | (go_at_call 21; refine (HJ.out _ (Below.refl _ _).drew).mono ?_; rintro e w5 ⟨rfl, hb5⟩))
  all_goals
    go_wp2
    go_ret
    exact ⟨rfl, hb5⟩
end Go.Proofs.YtkgfoimfhlpngaaDoor.W
