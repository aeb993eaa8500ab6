
/-
  The walks of the laws' 'chTexts' over two rows of the same texts, and of the draw of one path. Condition: rows of at most 100000000 texts.
-/
import Derived.Test.YtbceegonaomblaaWalkDraw3
import Derived.Test.YtbceegonaomblaaMathNames
import Derived.Test.YtbceegonaomblaaWalkPthSpec
import Derived.BigQuiet
import Derived.Deep.QuietTactic
import Derived.Deep.RegionWith
namespace Go.Proofs.Ytbceegonaomblaa.W
open Go.RowKit Go.Proofs.Ytbceegonaomblaa.M

set_option maxHeartbeats 400000 in
theorem chTexts_none (a b : Option Addr) (c d : Nat) (w : World) :
    Calls Try.prog 10 #[.slice a 0 c, .slice b 0 d] w fun e w' => e = .returned (.bool true) ∧ Below w.heap.size w w' := by
  go_enter Try.func10, Try.ntmps10
  go_wp2
  refine wp_loop_rounds 1 ?_
  rw [rounds_succ]
  go_wp2
  go_ret
  exact ⟨rfl, Below.refl _ _⟩

set_option maxHeartbeats 1000000 in
theorem chTexts_some (g1 c1 g2 c2 : Nat) (L : List (List UInt8)) (w : World) (h1 : ∀ j (h : j < L.length), w.cell? ⟨g1, j, none⟩ = some (.string ⟨(L[j]).toArray⟩)) (h2 : ∀ j (h : j < L.length), w.cell? ⟨g2, j, none⟩ = some (.string ⟨(L[j]).toArray⟩)) (hL : L.length ≤ 100000000) :
    Calls Try.prog 10 #[.slice (some ⟨g1, 0, none⟩) L.length c1, .slice (some ⟨g2, 0, none⟩) L.length c2] w fun e w' => e = .returned (.bool true) ∧ Below w.heap.size w w' := by
  have H1 : Hid (∀ j (h : j < L.length), w.cell? ⟨g1, j, none⟩ = some (.string ⟨(L[j]).toArray⟩)) := h1
  have H2 : Hid (∀ j (h : j < L.length), w.cell? ⟨g2, j, none⟩ = some (.string ⟨(L[j]).toArray⟩)) := h2
  clear h1 h2
  go_enter Try.func10, Try.ntmps10
  go_wp2
  go_loopw [5] (fun i wr => ∃ j q : Nat, j ≤ L.length ∧ i = .int .i64 j ∧ wr = w.drewN q) (fun i _ => L.length - (intOf i).toNat)
  case atStart => exact ⟨0, 0, Nat.zero_le _, rfl, rfl⟩
  case round =>
    obtain ⟨j, q, hj, rfl, rfl⟩ := hrel
    by_cases hlt : j < L.length
    · have k1 := H1.out j hlt
      have k2 := H2.out j hlt
      obtain ⟨x, hx⟩ : ∃ x, x = L[j] := ⟨_, rfl⟩
      rw [← hx] at k1 k2
      clear hx
      go_wp2
      go_quiet (fail)
      go_wp2
      go_roundw
      case rel => exact ⟨j + 1, _, by omega, by go_num, rfl⟩
      case measure => simp [intOf]; omega
    · go_wp2
      go_ret
      exact ⟨rfl, (Below.refl _ _).trans ⟨rfl, rfl, rfl, Nat.le_refl _, fun _ _ => rfl⟩⟩

/-- two rows of the same texts are found the same -/
theorem chTexts_any (b1 b2 : Nat) (v1 v2 : Value) (L : List (List UInt8)) (w : World) (o1 : w.ownsRow b1 9 1 v1 L.length (strs L)) (o2 : w.ownsRow b2 9 1 v2 L.length (strs L)) (hL : L.length ≤ 100000000) :
    Calls Try.prog 10 #[v1, v2] w fun e w' => e = .returned (.bool true) ∧ Below w.heap.size w w' := by
  by_cases h0 : L.length = 0
  · rw [h0] at o1 o2
    obtain ⟨a, c, rfl⟩ : ∃ a c, v1 = .slice a 0 c := by
      rcases o1.2 with ⟨rfl, _⟩ | ⟨g, cap, _, rfl, _⟩
      · exact ⟨none, 0, rfl⟩
      · exact ⟨_, cap, rfl⟩
    obtain ⟨b, d, rfl⟩ : ∃ a c, v2 = .slice a 0 c := by
      rcases o2.2 with ⟨rfl, _⟩ | ⟨g, cap, _, rfl, _⟩
      · exact ⟨none, 0, rfl⟩
      · exact ⟨_, cap, rfl⟩
    exact chTexts_none a b c d w
  · rcases o1.2 with ⟨_, h⟩ | ⟨g1, c1, _, rfl, _⟩
    · exact absurd h h0
    · rcases o2.2 with ⟨_, h⟩ | ⟨g2, c2, _, rfl, _⟩
      · exact absurd h h0
      · exact chTexts_some g1 c1 g2 c2 L w (fun j hj => by rw [o1.cellAt j (by omega), strs_get L j hj]) (fun j hj => by rw [o2.cellAt j (by omega), strs_get L j hj]) hL

theorem ownsStay {w w' : World} {b B : Nat} {e : TypeId} {z : Nat} {v : Value} {n : Nat} {xs : List Value} (h : w.ownsRow b e z v n xs) (hb : Below B w w') (hB : w.heap.size ≤ B) : w'.ownsRow b e z v n xs := by
  refine ⟨h.1, ?_⟩
  rcases h.2 with h1 | ⟨g, cap, cur, h1, h2, h3, h4⟩
  · exact .inl h1
  · have hg : g < w.heap.size := (Array.getElem?_eq_some_iff.1 h3).1
    exact .inr ⟨g, cap, cur, h1, h2, (hb.block g (by omega)).trans h3, h4⟩
theorem row_none {w : World} {b : Nat} {e : TypeId} {z : Nat} {v : Value} {xs : List Value} (h : w.ownsRow b e z v 0 xs) : ∃ a c, v = .slice a 0 c := by
  rcases h.2 with ⟨rfl, _⟩ | ⟨g, cap, _, rfl, _⟩
  · exact ⟨none, 0, rfl⟩
  · exact ⟨_, cap, rfl⟩
theorem row_some {w : World} {b : Nat} {v : Value} {L : List (List UInt8)} (h : w.ownsRow b 9 1 v L.length (strs L)) (h1 : 1 ≤ L.length) : ∃ g c : Nat, v = .slice (some ⟨g, 0, none⟩) L.length c ∧ ∀ j (h : j < L.length), w.cell? ⟨g, j, none⟩ = some (.string ⟨(L[j]).toArray⟩) := by
  rcases h.2 with ⟨_, h0⟩ | ⟨g, c, _, rfl, _⟩
  · omega
  · exact ⟨g, c, rfl, fun j hj => by rw [h.cellAt j (by omega), strs_get L j hj]⟩
theorem row_lt {w : World} {b g n c : Nat} {e : TypeId} {z : Nat} {xs : List Value} (h : w.ownsRow b e z (.slice (some ⟨g, 0, none⟩) n c) n xs) : g < w.heap.size := (h.lt g rfl).2
theorem pth_all (l : List UInt8) (h : pthB l = true) : (nms l).all namB = true := by
  unfold pthB at h; simp only [Bool.and_eq_true, decide_eq_true_iff] at h; exact h.2
end Go.Proofs.Ytbceegonaomblaa.W
