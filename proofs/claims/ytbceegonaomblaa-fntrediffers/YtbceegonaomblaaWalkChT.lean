
/-
  The walk of the laws' chTexts over two slices that read as the same texts. At most 100000000 texts.
-/
import Derived.Test.YtbceegonaomblaaRowT
import Derived.Test.YtbceegonaomblaaWalkTexts
namespace Go.Proofs.Ytbceegonaomblaa.W
open Go.RowKit Go.Proofs.Ytbceegonaomblaa.M

theorem chTexts_rd (A B : Option Addr) (c d : Nat) (N : List (List UInt8)) (w : World) (hA : RdT w.heap.size w A N) (hB : RdT w.heap.size w B N) (hn : N.length ≤ 100000000) :
    Calls Try.prog 10 #[.slice A N.length c, .slice B N.length d] w fun e w' => e = .returned (.bool true) ∧ Below w.heap.size w w' := by
  by_cases h0 : N.length = 0
  · rw [h0]
    exact chTexts_none A B c d w
  · obtain ⟨g1, rfl, _, _⟩ := hA 0 (by omega)
    obtain ⟨g2, rfl, _, _⟩ := hB 0 (by omega)
    refine chTexts_some g1 c g2 d N w (fun j hj => ?_) (fun j hj => ?_) hn
    · obtain ⟨b, e, _, k⟩ := hA j hj
      simp only [Option.some.injEq, Addr.mk.injEq] at e
      obtain ⟨rfl, _⟩ := e
      exact k
    · obtain ⟨b, e, _, k⟩ := hB j hj
      simp only [Option.some.injEq, Addr.mk.injEq] at e
      obtain ⟨rfl, _⟩ := e
      exact k
end Go.Proofs.Ytbceegonaomblaa.W
