
/-
  The walks of RulOk of the program and of the specification: a rule that is ok. Texts of at most 1048576 bytes.
-/
import Derived.Test.YtcdkjlbpcihcjaaRowR
import Derived.Test.YtcdkjlbpcihcjaaMathExt
import Derived.Test.YtcdkjlbpcihcjaaMathTri
import Derived.Test.YtcdkjlbpcihcjaaWalkPth3
namespace Go.Proofs.Ytcdkjlbpcihcjaa.W
open Go.RowKit Go.Proofs.Ytcdkjlbpcihcjaa.M

/-- a rule that is ok -/
def rulB (x : RR) : Bool := decide (0 ≤ x.user ∧ x.user ≤ 4) && ((decide (x.ref.data.toList = []) || namB x.ref.data.toList) && pthB x.path.data.toList)
theorem rulB_user (x : RR) (h : ¬ (0 ≤ x.user ∧ x.user ≤ 4)) : rulB x = false := by unfold rulB; rw [decide_eq_false h]; rfl
theorem rulB_ref (x : RR) (h : x.ref.data.toList ≠ []) (h2 : namB x.ref.data.toList = false) : rulB x = false := by unfold rulB; rw [h2, decide_eq_false h]; simp
theorem rulB_path (x : RR) (h : pthB x.path.data.toList = false) : rulB x = false := by unfold rulB; rw [h]; simp
theorem rulB_none (x : RR) (h0 : 0 ≤ x.user ∧ x.user ≤ 4) (h : x.ref.data.toList = []) : rulB x = pthB x.path.data.toList := by unfold rulB; rw [decide_eq_true h0, decide_eq_true h]; simp
theorem rulB_name (x : RR) (h0 : 0 ≤ x.user ∧ x.user ≤ 4) (h : namB x.ref.data.toList = true) : rulB x = pthB x.path.data.toList := by unfold rulB; rw [decide_eq_true h0, h]; simp
theorem nam_is (s : ByteArray) (w : World) (_hs : s.size ≤ 1048576) (b : Bool) (h : namB s.data.toList = b) :
    Calls Try.prog 27 #[.string s] w fun e w' => e = .returned (.bool b) ∧ Below w.heap.size w w' := by
  subst h; exact (nam_all s w).mono fun e w' ⟨h, k⟩ => ⟨h, k ▸ Below.refl _ _⟩
theorem nams_is (s : ByteArray) (w : World) (hs : s.size ≤ 1048576) (b : Bool) (h : namB s.data.toList = b) :
    Calls Try.prog 19 #[.string s] w fun e w' => e = .returned (.bool b) ∧ Below w.heap.size w w' := by
  subst h; exact (nam_spec s w (by unfold maxLen; omega)).mono fun e w' ⟨h, k⟩ => ⟨h, k ▸ Below.refl _ _⟩

set_option maxHeartbeats 1000000 in
theorem rulOk_impl (x : RR) (w : World) (hr : x.ref.size ≤ 1048576) (hp : x.path.size ≤ 1048576) :
    Calls Try.prog 14 #[.agg #[.int .i64 x.user, .string x.ref, .string x.path, .bool x.write]] w fun e w' => e = .returned (.bool (rulB x)) ∧ Below w.heap.size w w' := by
  by_cases h0 : 0 ≤ x.user ∧ x.user ≤ 4
  · by_cases h1 : x.ref.data.toList = []
    · rw [rulB_none x h0 h1]
      have z1 : x.ref.toList.isEmpty = true := empty_t _ h1
      obtain ⟨h00, h01⟩ := h0
      obtain ⟨u, r, p, b⟩ := x
      simp only at *
      clear h1
      generalize hk : pthB p.data.toList = k
      have HK : Hid (pthB p.data.toList = k) := hk
      clear hk
      go_enter Try.func14, Try.ntmps14
      go_wp2_with (first | (go_at_call 13; refine (pthOk_impl p _ (by omega)).mono ?_; rw [HK.out]; rintro e w1 ⟨rfl, hb1⟩))
      go_ret
      exact ⟨rfl, ((Below.refl _ _).alloc (Nat.le_refl _) _).trans (hb1.mono (by simp))⟩
    · have z1 : x.ref.toList.isEmpty = false := nonempty_f _ h1
      cases h2 : namB x.ref.data.toList
      · rw [rulB_ref x h1 h2]
        obtain ⟨h00, h01⟩ := h0
        obtain ⟨u, r, p, b⟩ := x
        simp only at *
        have HN : Hid (namB r.data.toList = false) := h2
        clear h1 h2
        go_enter Try.func14, Try.ntmps14
        go_wp2_with (first | (go_at_call 27; refine (nam_is r _ hr _ HN.out).mono ?_; rintro e w1 ⟨rfl, hb1⟩))
        go_ret
        exact ⟨rfl, ((Below.refl _ _).alloc (Nat.le_refl _) _).trans (hb1.mono (by simp))⟩
      · rw [rulB_name x h0 h2]
        obtain ⟨h00, h01⟩ := h0
        obtain ⟨u, r, p, b⟩ := x
        simp only at *
        have HN : Hid (namB r.data.toList = true) := h2
        clear h1 h2
        generalize hk : pthB p.data.toList = k
        have HK : Hid (pthB p.data.toList = k) := hk
        clear hk
        go_enter Try.func14, Try.ntmps14
        go_wp2_with (first | (go_at_call 27; refine (nam_is r _ hr _ HN.out).mono ?_; rintro e w0 ⟨rfl, hb0⟩; have c2 : w0.cell? ⟨w.heap.size, 2, none⟩ = some (.string p) := (hb0.cell (p := ⟨w.heap.size, 2, none⟩) (by simp)).trans (by simp)) | (go_at_call 13; refine (pthOk_impl p _ (by omega)).mono ?_; rw [HK.out]; rintro e w1 ⟨rfl, hb1⟩))
        go_ret
        exact ⟨rfl, ((Below.refl _ _).alloc (Nat.le_refl _) _).trans ((hb0.trans (hb1.mono hb0.size)).mono (by simp))⟩
  · rw [rulB_user x h0]
    obtain ⟨u, r, p, b⟩ := x
    simp only at *
    by_cases h00 : 0 ≤ u
    · have h01 : ¬ u ≤ 4 := fun h => h0 ⟨h00, h⟩
      clear h0
      go_enter Try.func14, Try.ntmps14
      go_wp2
      go_ret
      exact ⟨rfl, (Below.refl _ _).alloc (Nat.le_refl _) _⟩
    · clear h0
      go_enter Try.func14, Try.ntmps14
      go_wp2
      go_ret
      exact ⟨rfl, (Below.refl _ _).alloc (Nat.le_refl _) _⟩

set_option maxHeartbeats 1000000 in
theorem rulOk_spec (x : RR) (w : World) (hr : x.ref.size ≤ 1048576) (hp : x.path.size ≤ 1048576) :
    Calls Try.prog 18 #[.agg #[.int .i64 x.user, .string x.ref, .string x.path, .bool x.write]] w fun e w' => e = .returned (.bool (rulB x)) ∧ Below w.heap.size w w' := by
  by_cases h0 : 0 ≤ x.user ∧ x.user ≤ 4
  · by_cases h1 : x.ref.data.toList = []
    · rw [rulB_none x h0 h1]
      have z1 : x.ref.toList.isEmpty = true := empty_t _ h1
      obtain ⟨h00, h01⟩ := h0
      obtain ⟨u, r, p, b⟩ := x
      simp only at *
      clear h1
      generalize hk : pthB p.data.toList = k
      have HK : Hid (pthB p.data.toList = k) := hk
      clear hk
      go_enter Try.func18, Try.ntmps18
      go_wp2_with (first | (go_at_call 16; refine (l1In_true _ _ _ _ h00 h01).mono ?_; rintro e w' ⟨rfl, rfl⟩) | (go_at_call 20; refine (pthOk_spec p _ (by omega)).mono ?_; rw [HK.out]; rintro e w1 ⟨rfl, hb1⟩))
      go_ret
      exact ⟨rfl, ((Below.refl _ _).alloc (Nat.le_refl _) _).trans (hb1.mono (by simp))⟩
    · have z1 : x.ref.toList.isEmpty = false := nonempty_f _ h1
      cases h2 : namB x.ref.data.toList
      · rw [rulB_ref x h1 h2]
        obtain ⟨h00, h01⟩ := h0
        obtain ⟨u, r, p, b⟩ := x
        simp only at *
        have HN : Hid (namB r.data.toList = false) := h2
        clear h1 h2
        go_enter Try.func18, Try.ntmps18
        go_wp2_with (first | (go_at_call 16; refine (l1In_true _ _ _ _ h00 h01).mono ?_; rintro e w' ⟨rfl, rfl⟩) | (go_at_call 19; refine (nams_is r _ hr _ HN.out).mono ?_; rintro e w1 ⟨rfl, hb1⟩))
        go_ret
        exact ⟨rfl, ((Below.refl _ _).alloc (Nat.le_refl _) _).trans (hb1.mono (by simp))⟩
      · rw [rulB_name x h0 h2]
        obtain ⟨h00, h01⟩ := h0
        obtain ⟨u, r, p, b⟩ := x
        simp only at *
        have HN : Hid (namB r.data.toList = true) := h2
        clear h1 h2
        generalize hk : pthB p.data.toList = k
        have HK : Hid (pthB p.data.toList = k) := hk
        clear hk
        go_enter Try.func18, Try.ntmps18
        go_wp2_with (first | (go_at_call 16; refine (l1In_true _ _ _ _ h00 h01).mono ?_; rintro e w' ⟨rfl, rfl⟩) | (go_at_call 19; refine (nams_is r _ hr _ HN.out).mono ?_; rintro e w0 ⟨rfl, hb0⟩; have c2 : w0.cell? ⟨w.heap.size, 2, none⟩ = some (.string p) := (hb0.cell (p := ⟨w.heap.size, 2, none⟩) (by simp)).trans (by simp)) | (go_at_call 20; refine (pthOk_spec p _ (by omega)).mono ?_; rw [HK.out]; rintro e w1 ⟨rfl, hb1⟩))
        go_ret
        exact ⟨rfl, ((Below.refl _ _).alloc (Nat.le_refl _) _).trans ((hb0.trans (hb1.mono hb0.size)).mono (by simp))⟩
  · rw [rulB_user x h0]
    obtain ⟨u, r, p, b⟩ := x
    simp only at *
    have h01 : u < 0 ∨ 4 < u := by omega
    clear h0
    go_enter Try.func18, Try.ntmps18
    go_wp2_with (go_at_call 16; refine (l1In_false _ _ _ _ h01).mono ?_; rintro e w' ⟨rfl, rfl⟩)
    go_ret
    exact ⟨rfl, (Below.refl _ _).alloc (Nat.le_refl _) _⟩
end Go.Proofs.Ytcdkjlbpcihcjaa.W
