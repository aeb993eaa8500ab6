
/-
  What rules let: more under a path, reading where writing, the ref where anything; one rule alone. No condition.
-/
import Derived.Test.YtmjmkgigopinbaaWalkRulI
import Derived.Test.YtmjmkgigopinbaaWalkRulS
import Derived.Test.YtmjmkgigopinbaaWalkOrder
namespace Go.Proofs.Ytmjmkgigopinbaa.W
open Go.RowKit Go.Proofs.Ytmjmkgigopinbaa.M

theorem mayB_under {x : RR} {u : Int} {r p s : ByteArray} {wt : Bool} (h : undB p.data.toList s.data.toList = true) (hm : mayB x u r p wt = true) : mayB x u r s wt = true := by
  unfold mayB at *
  rw [Bool.and_eq_true, Bool.and_eq_true] at *
  exact ⟨hm.1, und_trans _ _ _ hm.2.1 h, hm.2.2⟩
theorem may_under {L : List RR} {u : Int} {r p s : ByteArray} {wt : Bool} (h : undB p.data.toList s.data.toList = true) (hm : (L.any fun x => mayB x u r p wt) = true) : (L.any fun x => mayB x u r s wt) = true := by
  rw [List.any_eq_true] at *
  obtain ⟨x, hx, hx2⟩ := hm
  exact ⟨x, hx, mayB_under h hx2⟩
theorem may_read {L : List RR} {u : Int} {r p : ByteArray} {wt : Bool} (hm : (L.any fun x => mayB x u r p wt) = true) : (L.any fun x => mayB x u r p false) = true := by
  rw [List.any_eq_true] at *
  obtain ⟨x, hx, hx2⟩ := hm
  refine ⟨x, hx, ?_⟩
  unfold mayB at *
  rw [Bool.and_eq_true, Bool.and_eq_true] at *
  exact ⟨hx2.1, hx2.2.1, by simp⟩
theorem may_sees {L : List RR} {u : Int} {r p : ByteArray} {wt : Bool} (hm : (L.any fun x => mayB x u r p wt) = true) : (L.any fun x => seesB x u r) = true := by
  rw [List.any_eq_true] at *
  obtain ⟨x, hx, hx2⟩ := hm
  refine ⟨x, hx, ?_⟩
  unfold mayB at hx2
  rw [Bool.and_eq_true] at hx2
  exact hx2.1
theorem may_of {L : List RR} {x : RR} {u : Int} {r p : ByteArray} {wt : Bool} (hx : x ∈ L) (hm : mayB x u r p wt = true) : (L.any fun x => mayB x u r p wt) = true := List.any_eq_true.2 ⟨x, hx, hm⟩
/-- a rule for all is one for each -/
theorem may_all {x : RR} {u : Int} {r p : ByteArray} {wt : Bool} (hm : mayB x u r p wt = true) : mayB ⟨0, x.ref, x.path, x.write⟩ u r p wt = true := by
  unfold mayB seesB rulB forU forR at *
  simp only [Bool.and_eq_true, Bool.or_eq_true, decide_eq_true_eq] at *
  exact ⟨⟨⟨by omega, hm.1.1.2⟩, .inl trivial, hm.1.2.2⟩, hm.2⟩
theorem may_user {x : RR} {u : Int} {r p : ByteArray} {wt : Bool} (hm : mayB x u r p wt = true) : x.user = 0 ∨ x.user = u := by
  unfold mayB seesB forU at hm
  simp only [Bool.and_eq_true, Bool.or_eq_true, decide_eq_true_eq] at hm
  exact hm.1.2.1
theorem may_ref {x : RR} {u : Int} {r p : ByteArray} {wt : Bool} (hm : mayB x u r p wt = true) : x.ref.data.toList = [] ∨ x.ref = r := by
  unfold mayB seesB forR at hm
  simp only [Bool.and_eq_true, Bool.or_eq_true, decide_eq_true_eq] at hm
  exact hm.1.2.2
theorem rdR_one (w : World) (x : RR) (t : TypeId) : RdR (w.alloc (.cells #[.int .i64 x.user, .string x.ref, .string x.path, .bool x.write] t)).heap.size (w.alloc (.cells #[.int .i64 x.user, .string x.ref, .string x.path, .bool x.write] t)) (some ⟨w.heap.size, 0, none⟩) [x] := fun j hj => by
  obtain rfl : j = 0 := by simpa using hj
  exact ⟨w.heap.size, 0, rfl, by simp, by simp, by simp, by simp, by simp⟩
theorem one_at {x : RR} (h1 : x.ref.size ≤ 64) (h2 : x.path.size ≤ 64) : ∀ j (h : j < [x].length), ([x][j]).ref.size ≤ 1048576 ∧ ([x][j]).path.size ≤ 1048576 := fun j hj => by
  obtain rfl : j = 0 := by simpa using hj
  exact ⟨by simp; omega, by simp; omega⟩
theorem any_one {x : RR} {f : RR → Bool} : [x].any f = f x := by simp
theorem may_lit1 : mayB ⟨0, ⟨#[]⟩, ⟨#[]⟩, true⟩ 3 ⟨#[98]⟩ ⟨#[97, 47, 98]⟩ true = true := by decide
theorem may_lit2 : mayB ⟨0, ⟨#[]⟩, ⟨#[97]⟩, false⟩ 2 ⟨#[98]⟩ ⟨#[97, 47, 99]⟩ false = true := by decide
theorem sees_lit : seesB ⟨0, ⟨#[]⟩, ⟨#[97]⟩, false⟩ 1 ⟨#[97]⟩ = true := by decide
theorem mayOne (W : World) (x : RR) (t : TypeId) (u : Int) (q p : ByteArray) (wt : Bool) (h1 : x.ref.size ≤ 64) (h2 : x.path.size ≤ 64) (hp : p.size ≤ 1048576) :
    Calls Try.prog 9 #[.slice (some ⟨W.heap.size, 0, none⟩) 1 1, .int .i64 u, .string q, .string p, .bool wt] (W.alloc (.cells #[.int .i64 x.user, .string x.ref, .string x.path, .bool x.write] t)) fun e w' => e = .returned (.bool (mayB x u q p wt)) ∧ Below W.heap.size W w' := by
  refine (rulMay_impl (some ⟨W.heap.size, 0, none⟩) 1 [x] u q p wt _ (rdR_one W x t) (by simp) hp (one_at h1 h2)).mono ?_
  rintro e w' ⟨rfl, hb⟩
  exact ⟨ret_bool any_one, ((Below.refl _ _).alloc (Nat.le_refl _) _).trans (hb.mono (by simp))⟩
theorem mayOne' (W : World) (n : Nat) (hn : W.heap.size = n) (x : RR) (t : TypeId) (u : Int) (q p : ByteArray) (wt : Bool) (h1 : x.ref.size ≤ 64) (h2 : x.path.size ≤ 64) (hp : p.size ≤ 1048576) :
    Calls Try.prog 9 #[.slice (some ⟨n, 0, none⟩) 1 1, .int .i64 u, .string q, .string p, .bool wt] (W.alloc (.cells #[.int .i64 x.user, .string x.ref, .string x.path, .bool x.write] t)) fun e w' => e = .returned (.bool (mayB x u q p wt)) ∧ Below n W w' := by
  subst hn; exact mayOne W x t u q p wt h1 h2 hp
theorem seesOne (W : World) (x : RR) (t : TypeId) (u : Int) (q : ByteArray) (h1 : x.ref.size ≤ 64) (h2 : x.path.size ≤ 64) :
    Calls Try.prog 13 #[.slice (some ⟨W.heap.size, 0, none⟩) 1 1, .int .i64 u, .string q] (W.alloc (.cells #[.int .i64 x.user, .string x.ref, .string x.path, .bool x.write] t)) fun e w' => e = .returned (.bool (seesB x u q)) ∧ Below W.heap.size W w' := by
  refine (rulSees_impl (some ⟨W.heap.size, 0, none⟩) 1 [x] u q _ (rdR_one W x t) (by simp) (one_at h1 h2)).mono ?_
  rintro e w' ⟨rfl, hb⟩
  exact ⟨ret_bool any_one, ((Below.refl _ _).alloc (Nat.le_refl _) _).trans (hb.mono (by simp))⟩
end Go.Proofs.Ytmjmkgigopinbaa.W
