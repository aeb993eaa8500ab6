
/-
  The walk of RulText of the program, at every rule. Texts of at most 1048576 bytes.
-/
import Derived.Test.YtkgfoimfhlpngaaDoorWalkRulZr
import Derived.Test.YtkgfoimfhlpngaaDoorWalkRulZw
namespace Go.Proofs.YtkgfoimfhlpngaaDoor.W
open Go.RowKit Go.Proofs.YtkgfoimfhlpngaaDoor.M

set_option maxRecDepth 100000 in
set_option maxHeartbeats 1000000 in
theorem rulText_impl (x : RR) (w : World) (hr : x.ref.size ≤ 1048576) (hp : x.path.size ≤ 1048576) :
    Calls Tryd.prog 9 #[.agg #[.int .i64 x.user, .string x.ref, .string x.path, .bool x.write]] w fun e w' => e = .returned (.string (textB x)) ∧ Below w.heap.size w w' := by
  cases hb : rulB x
  · have e0 : textB x = ⟨#[]⟩ := by unfold textB; rw [hb]; rfl
    rw [e0]
    have HB : Hid (rulB x = false) := hb
    clear hb e0
    go_enter Tryd.func9, Tryd.ntmps9
    go_wp2_with (go_at_call 12; refine (rulOk_impl x _ hr hp).mono ?_; rw [HB.out]; rintro e w1 ⟨rfl, hb⟩)
    go_ret
    exact ⟨rfl, ((Below.refl _ w).alloc (Nat.le_refl _) _).trans (hb.mono (by simp))⟩
  · obtain ⟨n, hn, hu⟩ := rulB_u x hb
    have e0 : textB x = digB n ++ spB ++ dashB x.ref ++ spB ++ dashB x.path ++ spB ++ wordB x.write := by unfold textB; rw [hb, hu]; rfl
    rw [e0]
    obtain ⟨u, r, p, b⟩ := x
    simp only at *
    subst hu
    cases b
    · exact rulText_r n r p w hn hr hp hb
    · exact rulText_w n r p w hn hr hp hb
end Go.Proofs.YtkgfoimfhlpngaaDoor.W
