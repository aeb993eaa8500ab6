
/-
  What ReqOk asks of a request's numbers, names and edits: the program's helpers and the specification's. Texts of at most 1048576 bytes.
-/
import Derived.Test.YtcdkjlbpcihcjaaRowQ
import Derived.Test.YtcdkjlbpcihcjaaWalkRul
import Derived.Test.YtcdkjlbpcihcjaaWalkEdt
namespace Go.Proofs.Ytcdkjlbpcihcjaa.W
open Go.RowKit Go.Proofs.Ytcdkjlbpcihcjaa.M

def inB (n a b : Int) : Bool := decide (a ≤ n ∧ n ≤ b)
theorem inB_yes {n a b : Int} (h : inB n a b = true) : a ≤ n ∧ n ≤ b := of_decide_eq_true h
theorem inB_no {n a b : Int} (h : inB n a b = false) : n < a ∨ b < n := by
  have := of_decide_eq_false h
  omega
theorem in_spec (n a b : Int) (k : Bool) (w : World) (h : inB n a b = k) :
    Calls Try.prog 16 #[.int .i64 n, .int .i64 a, .int .i64 b] w fun e w' => e = .returned (.bool k) ∧ w = w' := by
  cases k
  · exact l1In_false n a b w (inB_no h)
  · exact l1In_true n a b w (inB_yes h).1 (inB_yes h).2
theorem in_impl (n b : Int) (k : Bool) (w : World) (h : inB n 0 b = k) :
    Calls Try.prog 26 #[.int .i64 n, .int .i64 b] w fun e w' => e = .returned (.bool k) ∧ w = w' := by
  by_cases h1 : 0 ≤ n
  · by_cases h2 : n ≤ b
    · obtain rfl : k = true := by rw [← h]; exact decide_eq_true ⟨h1, h2⟩
      go_enter Try.func26, Try.ntmps26
      go_wp2
      go_ret
      exact ⟨rfl, rfl⟩
    · obtain rfl : k = false := by rw [← h]; exact decide_eq_false (fun q => h2 q.2)
      go_enter Try.func26, Try.ntmps26
      go_wp2
      go_ret
      exact ⟨rfl, rfl⟩
  · obtain rfl : k = false := by rw [← h]; exact decide_eq_false (fun q => h1 q.1)
    go_enter Try.func26, Try.ntmps26
    go_wp2
    go_ret
    exact ⟨rfl, rfl⟩
def emB (s : ByteArray) : Bool := decide (s.data.toList = []) || namB s.data.toList
theorem emB_e (s : ByteArray) (h : s.data.toList = []) : emB s = true := by simp [emB, h]
theorem emB_n (s : ByteArray) (h : s.data.toList ≠ []) : emB s = namB s.data.toList := by simp [emB, h]
theorem em_impl (s : ByteArray) (k : Bool) (w : World) (h : emB s = k) :
    Calls Try.prog 12 #[.string s] w fun e w' => e = .returned (.bool k) ∧ w = w' := by
  subst h
  by_cases h1 : s.data.toList = []
  · rw [emB_e s h1]
    have z1 : s.toList.isEmpty = true := empty_t _ h1
    go_enter Try.func12, Try.ntmps12
    go_wp2
    go_ret
    exact ⟨rfl, rfl⟩
  · rw [emB_n s h1]
    have z1 : s.toList.isEmpty = false := nonempty_f _ h1
    generalize hk : namB s.data.toList = k
    have HK : Hid (namB s.data.toList = k) := hk
    clear hk
    go_enter Try.func12, Try.ntmps12
    go_wp2_with (go_at_call 27; refine (nam_all s _).mono ?_; rw [HK.out]; rintro e w' ⟨rfl, rfl⟩)
    go_ret
    exact ⟨rfl, rfl⟩
end Go.Proofs.Ytcdkjlbpcihcjaa.W
