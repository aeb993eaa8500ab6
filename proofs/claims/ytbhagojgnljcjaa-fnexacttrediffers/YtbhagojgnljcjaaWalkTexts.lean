
/-
  The walks of the laws' 'chTexts' over two rows of the same texts, and of the draw of one path. Condition: rows of at most 100000000 texts.
-/
import Derived.Test.YtbhagojgnljcjaaWalkDraw3
import Derived.Test.YtbhagojgnljcjaaMathNames
import Derived.Test.YtbhagojgnljcjaaWalkPthSpec
import Derived.BigQuiet
import Derived.Deep.QuietTactic
import Derived.Deep.RegionWith
namespace Go.Proofs.Ytbhagojgnljcjaa.W
open Go.RowKit Go.Proofs.Ytbhagojgnljcjaa.M

theorem ownsStay {w w' : World} {b B : Nat} {e : TypeId} {z : Nat} {v : Value} {n : Nat} {xs : List Value} (h : w.ownsRow b e z v n xs) (hb : Below B w w') (hB : w.heap.size ≤ B) : w'.ownsRow b e z v n xs := by
  refine ⟨h.1, ?_⟩
  rcases h.2 with h1 | ⟨g, cap, cur, h1, h2, h3, h4⟩
  · exact .inl h1
  · have hg : g < w.heap.size := (Array.getElem?_eq_some_iff.1 h3).1
    exact .inr ⟨g, cap, cur, h1, h2, (hb.block g (by omega)).trans h3, h4⟩
theorem row_none {w : World} {b : Nat} {e : TypeId} {z : Nat} {v : Value} {xs : List Value} (h : w.ownsRow b e z v 0 xs) : ∃ a c, v = .slice a 0 c := by
  rcases h.2 with ⟨rfl, _⟩ | ⟨g, cap, _, rfl, _⟩
  · exact ⟨none, 0, rfl⟩
  · exact ⟨_, cap, rfl⟩
theorem row_some {w : World} {b : Nat} {v : Value} {L : List (List UInt8)} (h : w.ownsRow b 9 1 v L.length (strs L)) (h1 : 1 ≤ L.length) : ∃ g c : Nat, v = .slice (some ⟨g, 0, none⟩) L.length c ∧ ∀ j (h : j < L.length), w.cell? ⟨g, j, none⟩ = some (.string ⟨(L[j]).toArray⟩) := by
  rcases h.2 with ⟨_, h0⟩ | ⟨g, c, _, rfl, _⟩
  · omega
  · exact ⟨g, c, rfl, fun j hj => by rw [h.cellAt j (by omega), strs_get L j hj]⟩
theorem row_lt {w : World} {b g n c : Nat} {e : TypeId} {z : Nat} {xs : List Value} (h : w.ownsRow b e z (.slice (some ⟨g, 0, none⟩) n c) n xs) : g < w.heap.size := (h.lt g rfl).2
theorem pth_all (l : List UInt8) (h : pthB l = true) : (nms l).all namB = true := by
  unfold pthB at h; simp only [Bool.and_eq_true, decide_eq_true_iff] at h; exact h.2
end Go.Proofs.Ytbhagojgnljcjaa.W
