
/-
  The walks of the program's tests of a rule (whether it is ok, for a user, for a ref, above a path, enough), and of the specification's l5For. Texts of at most 1048576 bytes.
-/
import Derived.Test.YtmjmkgigopinbaaWalkRul
import Derived.Test.YtmjmkgigopinbaaMathTxt
namespace Go.Proofs.Ytmjmkgigopinbaa.W
open Go.RowKit Go.Proofs.Ytmjmkgigopinbaa.M

/-- a rule for a user -/
def forU (x : RR) (u : Int) : Bool := decide (x.user = 0) || decide (x.user = u)
/-- a rule for a ref -/
def forR (x : RR) (r : ByteArray) : Bool := decide (x.ref.data.toList = []) || decide (x.ref = r)
def seesB (x : RR) (u : Int) (r : ByteArray) : Bool := rulB x && (forU x u && forR x r)
def mayB (x : RR) (u : Int) (r p : ByteArray) (b : Bool) : Bool := seesB x u r && (undB x.path.data.toList p.data.toList && (x.write || !b))
def aggR (x : RR) : Value := .agg #[.int .i64 x.user, .string x.ref, .string x.path, .bool x.write]

set_option maxHeartbeats 1000000 in
theorem l5For_any (x : RR) (u : Int) (q : ByteArray) (w : World) (hr : x.ref.size ≤ 1048576) (hp : x.path.size ≤ 1048576) :
    Calls Try.prog 33 #[.agg #[.int .i64 x.user, .string x.ref, .string x.path, .bool x.write], .int .i64 u, .string q] w fun e w' => e = .returned (.bool (seesB x u q)) ∧ Below w.heap.size w w' := by
  have hR := rulOk_spec x
  unfold seesB
  cases h0 : rulB x
  · have H0 : Hid (rulB x = false) := h0
    clear h0
    have hR' : Hid (∀ w, Calls Try.prog 40 #[.agg #[.int .i64 x.user, .string x.ref, .string x.path, .bool x.write]] w fun e w' => e = .returned (.bool false) ∧ Below w.heap.size w w') := fun w => by have := hR w hr hp; rwa [H0.out] at this
    obtain ⟨a, r, p, b⟩ := x
    simp only at *
    clear hR H0
    go_enter Try.func33, Try.ntmps33
    go_wp2_with (go_at_call 40; refine (hR'.out _).mono ?_; rintro e w1 ⟨rfl, hb1⟩)
    go_ret
    exact ⟨rfl, ((Below.refl _ _).alloc (Nat.le_refl _) _).trans (hb1.mono (by simp))⟩
  have H0 : Hid (rulB x = true) := h0
  clear h0
  have hR' : Hid (∀ w, Calls Try.prog 40 #[.agg #[.int .i64 x.user, .string x.ref, .string x.path, .bool x.write]] w fun e w' => e = .returned (.bool true) ∧ Below w.heap.size w w') := fun w => by have := hR w hr hp; rwa [H0.out] at this
  unfold forU forR
  obtain ⟨a, r, p, b⟩ := x
  simp only at *
  clear hR H0
  have hq : r.data.toList = [] ∨ (r.data.toList ≠ [] ∧ r = q) ∨ (r.data.toList ≠ [] ∧ r ≠ q) := by
    by_cases h1 : r.data.toList = []
    · exact .inl h1
    · by_cases h2 : r = q
      · exact .inr (.inl ⟨h1, h2⟩)
      · exact .inr (.inr ⟨h1, h2⟩)
  by_cases hu : a = 0 ∨ a = u
  · have eu : (decide (a = 0) || decide (a = u)) = true := by simp [hu]
    have hu' : a = 0 ∨ (a ≠ 0 ∧ a = u) := by omega
    rw [eu]
    clear eu hu
    rcases hq with h1 | ⟨h1, h2⟩ | ⟨h1, h2⟩
    · rw [decide_eq_true h1]
      have z1 : r.toList.isEmpty = true := empty_t _ h1
      clear h1
      rcases hu' with rfl | ⟨h3, rfl⟩
      all_goals
        go_enter Try.func33, Try.ntmps33
        go_wp2_with (go_at_call 40; refine (hR'.out _).mono ?_; rintro e w1 ⟨rfl, hb1⟩; have c0 := (hb1.cell (p := ⟨w.heap.size, 0, none⟩) (by simp)); have c1 := (hb1.cell (p := ⟨w.heap.size, 1, none⟩) (by simp)); simp at c0 c1)
        go_ret
        exact ⟨rfl, ((Below.refl _ _).alloc (Nat.le_refl _) _).trans (hb1.mono (by simp))⟩
    · rw [decide_eq_true h2, decide_eq_false h1]
      have z1 : r.toList.isEmpty = false := nonempty_f _ h1
      subst h2
      clear h1
      rcases hu' with rfl | ⟨h3, rfl⟩
      all_goals
        go_enter Try.func33, Try.ntmps33
        go_wp2_with (go_at_call 40; refine (hR'.out _).mono ?_; rintro e w1 ⟨rfl, hb1⟩; have c0 := (hb1.cell (p := ⟨w.heap.size, 0, none⟩) (by simp)); have c1 := (hb1.cell (p := ⟨w.heap.size, 1, none⟩) (by simp)); simp at c0 c1)
        go_ret
        exact ⟨rfl, ((Below.refl _ _).alloc (Nat.le_refl _) _).trans (hb1.mono (by simp))⟩
    · rw [decide_eq_false h2, decide_eq_false h1]
      have z1 : r.toList.isEmpty = false := nonempty_f _ h1
      have z2 := bytes_ne h2
      clear h1
      rcases hu' with rfl | ⟨h3, rfl⟩
      all_goals
        go_enter Try.func33, Try.ntmps33
        go_wp2_with (go_at_call 40; refine (hR'.out _).mono ?_; rintro e w1 ⟨rfl, hb1⟩; have c0 := (hb1.cell (p := ⟨w.heap.size, 0, none⟩) (by simp)); have c1 := (hb1.cell (p := ⟨w.heap.size, 1, none⟩) (by simp)); simp at c0 c1)
        go_ret
        exact ⟨rfl, ((Below.refl _ _).alloc (Nat.le_refl _) _).trans (hb1.mono (by simp))⟩
  · have eu : (decide (a = 0) || decide (a = u)) = false := by simp; omega
    have h3 : a ≠ 0 := by omega
    have h4 : a ≠ u := by omega
    rw [eu]
    clear eu hu hq
    go_enter Try.func33, Try.ntmps33
    go_wp2_with (go_at_call 40; refine (hR'.out _).mono ?_; rintro e w1 ⟨rfl, hb1⟩; have c0 := (hb1.cell (p := ⟨w.heap.size, 0, none⟩) (by simp)); have c1 := (hb1.cell (p := ⟨w.heap.size, 1, none⟩) (by simp)); simp at c0 c1)
    go_ret
    exact ⟨rfl, ((Below.refl _ _).alloc (Nat.le_refl _) _).trans (hb1.mono (by simp))⟩
end Go.Proofs.Ytmjmkgigopinbaa.W
