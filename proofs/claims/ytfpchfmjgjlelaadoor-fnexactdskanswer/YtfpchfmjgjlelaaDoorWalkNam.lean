
/-
  The walks of 'letters', both 'NamOk' and 'l1In': each answers as the plain function of MathNam, at every text; the world stays. No condition but the reading's own bound on a text's size.
-/
import Derived.Test.YtfpchfmjgjlelaaDoorBase
import Derived.Test.YtfpchfmjgjlelaaDoorMathNam
import Derived.WalkKit
import Derived.WalkLawsBesides
import Derived.Outline
namespace Go.Proofs.YtfpchfmjgjlelaaDoor.W
open Go.RowKit Go.Proofs.YtfpchfmjgjlelaaDoor.M


theorem l1In_true (n a b : Int) (w : World) (h1 : a ≤ n) (h2 : n ≤ b) :
    Calls Tryd.prog 15 #[.int .i64 n, .int .i64 a, .int .i64 b] w fun e w' => e = .returned (.bool true) ∧ w = w' := by
  go_enter Tryd.func15, Tryd.ntmps15
  go_wp2
  go_ret
  exact ⟨ret_bool (by simp), rfl⟩

theorem l1In_false (n a b : Int) (w : World) (h : n < a ∨ b < n) :
    Calls Tryd.prog 15 #[.int .i64 n, .int .i64 a, .int .i64 b] w fun e w' => e = .returned (.bool false) ∧ w = w' := by
  by_cases h1 : n < a
  · clear h
    go_enter Tryd.func15, Tryd.ntmps15
    go_wp2
    go_ret
    exact ⟨rfl, rfl⟩
  · have h2 : b < n := by omega
    have h3 : a ≤ n := by omega
    clear h h1
    go_enter Tryd.func15, Tryd.ntmps15
    go_wp2
    go_ret
    exact ⟨ret_bool (by simp; omega), rfl⟩

theorem nam_short (l : List UInt8) (h : ¬ 1 ≤ l.length) : namB l = false := by simp [namB]; omega
theorem nam_long (l : List UInt8) (h : ¬ l.length ≤ 3) : namB l = false := by simp [namB]; omega
theorem nam_mid (l : List UInt8) (h1 : 1 ≤ l.length) (h2 : l.length ≤ 3) : namB l = decide (letN l = l.length) := by rw [namB_eq]; simp [h1, h2]
theorem nam_mid' (l : List UInt8) (h1 : 1 ≤ l.length) (h2 : l.length ≤ 3) : namB l = l.all low := by unfold namB; simp [h1, h2]

end Go.Proofs.YtfpchfmjgjlelaaDoor.W
