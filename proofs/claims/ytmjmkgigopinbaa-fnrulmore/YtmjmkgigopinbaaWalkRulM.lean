
/-
  The walks of the program's tests of a rule: whether it is ok, for a user, for a ref, above a path, enough. Texts of at most 1048576 bytes.
-/
import Derived.Test.YtmjmkgigopinbaaWalkRulT
import Derived.Test.YtmjmkgigopinbaaMathNew
namespace Go.Proofs.Ytmjmkgigopinbaa.W
open Go.RowKit Go.Proofs.Ytmjmkgigopinbaa.M

theorem infoT : (Try.prog.info? 67).map (fun i => (i.zero, i.size, i.bytes)) = some (some .nilFunc, 1, 8) := by kernel_rfl
/-- what is asked: who, in which ref, where, whether to write -/
structure AK where
  user : Int
  ref : ByteArray
  path : ByteArray
  write : Bool

set_option maxHeartbeats 1000000 in
theorem isOk_any (x : RR) (k : AK) (w : World) (hr : x.ref.size ≤ 1048576) (hp : x.path.size ≤ 1048576) :
    Calls Try.prog 51 #[.agg #[.int .i64 x.user, .string x.ref, .string x.path, .bool x.write], .agg #[.int .i64 k.user, .string k.ref, .string k.path, .bool k.write]] w fun e w' => e = .returned (.bool (rulB x)) ∧ Below w.heap.size w w' := by
  generalize hk : rulB x = v
  have HK : Hid (rulB x = v) := hk
  clear hk
  go_enter Try.func51, Try.ntmps51
  go_wp2_with (go_at_call 25; refine (rulOk_impl x _ hr hp).mono ?_; rw [HK.out]; rintro e w1 ⟨rfl, hb1⟩)
  go_ret
  exact ⟨rfl, (((Below.refl _ _).alloc (Nat.le_refl _) _).alloc (by simp) _).trans (hb1.mono (by simp; omega))⟩

set_option maxHeartbeats 1000000 in
theorem isForUser_any (x : RR) (k : AK) (w : World) :
    Calls Try.prog 52 #[.agg #[.int .i64 x.user, .string x.ref, .string x.path, .bool x.write], .agg #[.int .i64 k.user, .string k.ref, .string k.path, .bool k.write]] w fun e w' => e = .returned (.bool (forU x k.user)) ∧ Below w.heap.size w w' := by
  unfold forU
  obtain ⟨a, r, p, b⟩ := x
  obtain ⟨u, q, s, c⟩ := k
  simp only at *
  by_cases h1 : a = 0
  · subst h1
    go_enter Try.func52, Try.ntmps52
    go_wp2
    go_ret
    exact ⟨rfl, ((Below.refl _ _).alloc (Nat.le_refl _) _).alloc (by simp) _⟩
  · by_cases h2 : a = u
    · subst h2
      rw [decide_eq_false h1]
      go_enter Try.func52, Try.ntmps52
      go_wp2
      go_ret
      exact ⟨ret_bool (by simp), ((Below.refl _ _).alloc (Nat.le_refl _) _).alloc (by simp) _⟩
    · rw [decide_eq_false h1, decide_eq_false h2]
      go_enter Try.func52, Try.ntmps52
      go_wp2
      go_ret
      exact ⟨ret_bool (by simp [h1, h2]), ((Below.refl _ _).alloc (Nat.le_refl _) _).alloc (by simp) _⟩

set_option maxHeartbeats 1000000 in
theorem isForRef_any (x : RR) (k : AK) (w : World) :
    Calls Try.prog 53 #[.agg #[.int .i64 x.user, .string x.ref, .string x.path, .bool x.write], .agg #[.int .i64 k.user, .string k.ref, .string k.path, .bool k.write]] w fun e w' => e = .returned (.bool (forR x k.ref)) ∧ Below w.heap.size w w' := by
  unfold forR
  obtain ⟨a, r, p, b⟩ := x
  obtain ⟨u, q, s, c⟩ := k
  simp only at *
  by_cases h1 : r.data.toList = []
  · rw [decide_eq_true h1]
    have z1 : r.toList.isEmpty = true := empty_t _ h1
    clear h1
    go_enter Try.func53, Try.ntmps53
    go_wp2
    go_ret
    exact ⟨rfl, ((Below.refl _ _).alloc (Nat.le_refl _) _).alloc (by simp) _⟩
  · rw [decide_eq_false h1]
    have z1 : r.toList.isEmpty = false := nonempty_f _ h1
    clear h1
    by_cases h2 : r = q
    · rw [decide_eq_true h2]
      subst h2
      go_enter Try.func53, Try.ntmps53
      go_wp2
      go_ret
      exact ⟨rfl, ((Below.refl _ _).alloc (Nat.le_refl _) _).alloc (by simp) _⟩
    · rw [decide_eq_false h2]
      have z2 := bytes_ne h2
      clear h2
      go_enter Try.func53, Try.ntmps53
      go_wp2
      go_ret
      exact ⟨rfl, ((Below.refl _ _).alloc (Nat.le_refl _) _).alloc (by simp) _⟩

set_option maxHeartbeats 1000000 in
theorem isAbove_any (x : RR) (k : AK) (w : World) (hp : x.path.size ≤ 1048576) (hk : k.path.size ≤ 1048576) :
    Calls Try.prog 46 #[.agg #[.int .i64 x.user, .string x.ref, .string x.path, .bool x.write], .agg #[.int .i64 k.user, .string k.ref, .string k.path, .bool k.write]] w fun e w' => e = .returned (.bool (undB x.path.data.toList k.path.data.toList)) ∧ Below w.heap.size w w' := by
  obtain ⟨a, r, p, b⟩ := x
  obtain ⟨u, q, s, c⟩ := k
  simp only at *
  generalize hk : undB p.data.toList s.data.toList = v
  have HK : Hid (undB p.data.toList s.data.toList = v) := hk
  clear hk
  go_enter Try.func46, Try.ntmps46
  go_wp2_with (go_at_call 12; refine (under_impl p s _ (by omega) (by omega)).mono ?_; rw [HK.out]; rintro e w1 ⟨rfl, hb1⟩)
  go_ret
  exact ⟨rfl, (((Below.refl _ _).alloc (Nat.le_refl _) _).alloc (by simp) _).trans (hb1.mono (by simp; omega))⟩

set_option maxHeartbeats 1000000 in
theorem isEnough_any (x : RR) (k : AK) (w : World) :
    Calls Try.prog 47 #[.agg #[.int .i64 x.user, .string x.ref, .string x.path, .bool x.write], .agg #[.int .i64 k.user, .string k.ref, .string k.path, .bool k.write]] w fun e w' => e = .returned (.bool (x.write || !k.write)) ∧ Below w.heap.size w w' := by
  obtain ⟨a, r, p, b⟩ := x
  obtain ⟨u, q, s, c⟩ := k
  simp only at *
  cases b <;> cases c
  all_goals
    go_enter Try.func47, Try.ntmps47
    go_wp2
    go_ret
    exact ⟨rfl, ((Below.refl _ _).alloc (Nat.le_refl _) _).alloc (by simp) _⟩

set_option maxHeartbeats 1000000 in
theorem seeing_any (w : World) :
    Calls Try.prog 37 #[] w fun e w' => e = .returned (.slice (some ⟨w.heap.size, 0, none⟩) 3 3) ∧ Below w.heap.size w w' ∧ w'.ownsRow w.heap.size 67 1 (.slice (some ⟨w.heap.size, 0, none⟩) 3 3) 3 [.func (.func 51) #[] #[], .func (.func 52) #[] #[], .func (.func 53) #[] #[]] := by
  go_enter Try.func37, Try.ntmps37
  go_wp2
  go_ret
  exact ⟨rfl, (Below.refl _ _).alloc (Nat.le_refl _) _, World.ownsRow_lit w _ 3 (Nat.le_refl _) (by unfold maxLen; omega) rfl⟩

set_option maxHeartbeats 1000000 in
theorem reaching_any (w : World) :
    Calls Try.prog 32 #[] w fun e w' => (∃ g cap, e = .returned (.slice (some ⟨g, 0, none⟩) 5 cap) ∧ w'.ownsRow w.heap.size 67 1 (.slice (some ⟨g, 0, none⟩) 5 cap) 5 [.func (.func 51) #[] #[], .func (.func 52) #[] #[], .func (.func 53) #[] #[], .func (.func 46) #[] #[], .func (.func 47) #[] #[]]) ∧ Below w.heap.size w w' := by
  obtain ⟨i0, hi, hz0, hz1, hz2⟩ := info_parts infoT
  go_enter Try.func32, Try.ntmps32
  go_wp2_with (first | (go_at_call 37; refine (seeing_any _).mono ?_; rintro e w1 ⟨rfl, hb1, o1⟩) | (at_builtin; refine wpList_append_own _ rfl _ _ 53 rfl w.heap.size 67 i0 .nilFunc 1 8 Try.underlying53 hi hz0 hz1 hz2 rfl (by decide) _ _ _ rfl (o1.alloc _) ⟨w1.heap.size, 0, none⟩ 2 2 [.func (.func 46) #[] #[], .func (.func 47) #[] #[]] rfl rfl (cells_new _ #[.func (.func 46) #[] #[], .func (.func 47) #[] #[]] _) (fun u hu => by simp at hu; rcases hu with rfl | rfl <;> rfl) (by unfold maxLen; omega) (by omega) (by have := hb1.size; simp; omega) ?_; intro v' w3 hown' hgrow3 hnil3))
  go_ret
  refine ⟨?_, growOwn (hb1.alloc hb1.size _) (by have := hb1.size; simp; omega) (o1.alloc _) hgrow3 (Nat.le_refl _)⟩
  rcases hown'.2 with ⟨rfl, hn0⟩ | ⟨g, cap, cur, rfl, _⟩
  · omega
  · exact ⟨g, cap, rfl, hown'⟩
end Go.Proofs.Ytmjmkgigopinbaa.W
