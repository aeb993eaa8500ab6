
/-
  The exact laws' own 'markAnsAnswer'. No condition but those named.
-/
import Derived.Test.YtfpchfmjgjlelaaDoorRowA
namespace Go.Proofs.YtfpchfmjgjlelaaDoor.W
open Go.RowKit Go.Proofs.YtfpchfmjgjlelaaDoor.M

/-- two rows of other types never share a block -/
theorem apartA {w : World} {b b' z z' n n' : Nat} {e e' : TypeId} {v v' : Value} {xs xs' : List Value} (h : w.ownsRow b e z v n xs) (h' : w.ownsRow b' e' z' v' n' xs') (hne : e ≠ e') : v.ownBlock = none ∨ v.ownBlock ≠ v'.ownBlock := by
  rcases h.2 with ⟨rfl, _⟩ | ⟨g1, c1, cur1, rfl, _, h1, _⟩
  · exact .inl rfl
  · refine .inr fun e9 => ?_
    rcases h'.2 with ⟨rfl, _⟩ | ⟨g2, c2, cur2, rfl, _, h3, _⟩
    · simp [Value.ownBlock] at e9
    · obtain rfl : g1 = g2 := by simpa [Value.ownBlock] using e9
      rw [h1] at h3
      cases h3
      exact hne rfl
set_option maxHeartbeats 1000000 in
theorem markS_grown (base g cap k : Nat) (L : List (List UInt8)) (w : World) (hown : w.ownsRow base 9 1 (.slice (some ⟨g, 0, none⟩) L.length cap) L.length (strs L)) (h1 : 1 ≤ k) (h2 : k + L.length ≤ 100000000) :
    Calls Tryd.prog 11 #[.slice (some ⟨g, 0, none⟩) L.length cap, .int .i64 k] w fun e w' => e = .returned (.int .i64 ((k + L.length : Nat) : Int)) ∧ w.grownBy w' (some g) := by
  go_enter Tryd.func11, Tryd.ntmps11
  go_wp2
  go_loopw [1, 5] (fun kk i wr => ∃ j : Nat, j ≤ L.length ∧ i = .int .i64 j ∧ kk = .int .i64 ((k + j : Nat) : Int) ∧ wr.ownsRow base 9 1 (.slice (some ⟨g, 0, none⟩) L.length cap) L.length (strs (marked L k j)) ∧ w.grownBy wr (some g)) (fun _ i _ => L.length - (intOf i).toNat)
  case atStart => exact ⟨0, Nat.zero_le _, rfl, rfl, by rw [marked_zero]; exact hown, World.grownBy.refl _ _⟩
  case round =>
    obtain ⟨j, hj, rfl, rfl, hrow, hb⟩ := hrel
    have hsz := hb.size
    by_cases hlt : j < L.length
    · go_wp2_with (go_at_call 25; refine (markText_any (k + j) _ (by omega) (by omega)).mono ?_; rintro e w1 ⟨rfl, hb1⟩; have hrow1 : w1.ownsRow base 9 1 (.slice (some ⟨g, 0, none⟩) L.length cap) L.length (strs (marked L k j)) := hrow.kept (row := none) ⟨hb1.os, hb1.tape, hb1.output, hb1.size, fun q hq _ => hb1.block q hq⟩ (by simp [Value.ownBlock]); have hf1 := hrow1.frozenAt j; obtain ⟨u, hu⟩ : ∃ u, w1.cell? ⟨g, j, none⟩ = some u := ⟨_, (hrow1.cellAt j (by omega)).trans (List.getElem?_eq_getElem (by rw [strs_length, marked_length _ _ _ hj]; exact hlt))⟩)
      go_roundw
      case rel =>
        have hst := hrow1.stored j (.string ⟨(markL (k + j)).toArray⟩)
        rw [strs_set, marked_step L k j hlt] at hst
        exact ⟨j + 1, by omega, by go_num, by go_num, hst.1, grownT (grownT hb (grownB hb1)) (grownS w1 g j _)⟩
      case measure => simp [intOf]; omega
    · go_wp2
      go_ret
      obtain rfl : j = L.length := by omega
      exact ⟨rfl, hb⟩
theorem markSk_own {b : Nat} (v : Value) (k : Nat) (L : List (List UInt8)) (w : World) (h : w.ownsRow b 9 1 v L.length (strs L)) (h1 : 1 ≤ k) (hn : k + L.length ≤ 100000000) :
    Calls Tryd.prog 11 #[v, .int .i64 k] w fun e w' => e = .returned (.int .i64 ((k + L.length : Nat) : Int)) ∧ w.grownBy w' v.ownBlock := by
  rcases h.2 with ⟨rfl, hn0⟩ | ⟨g, cap, cur, rfl, _⟩
  · refine (markS_none none 0 k w).mono ?_
    rintro e w' ⟨rfl, rfl⟩
    rw [hn0]
    exact ⟨rfl, World.grownBy.refl _ _⟩
  · refine (markS_grown b g cap k L w h h1 hn).mono ?_
    rintro e w' ⟨rfl, h4⟩
    exact ⟨rfl, h4⟩
theorem markF_one {b : Nat} (v : Value) (L : List TF) (w : World) (h : w.ownsRow b 41 2 v L.length (cellsF L)) (hn : L.length ≤ 1048576) :
    Calls Tryd.prog 24 #[v, .int .i64 1] w fun e w' => (∃ k2 : Nat, e = .returned (.int .i64 k2) ∧ 1 ≤ k2 ∧ k2 ≤ 3000000) ∧ w.grownBy w' v.ownBlock := by
  have h9 := markF_from 1 v L w h hn (by omega) (by omega)
  have e9 : ((1 : Nat) : Int) = 1 := rfl
  rw [e9] at h9
  refine h9.mono ?_
  rintro e w' ⟨k2, rfl, hk, _, hg⟩
  exact ⟨⟨k2, rfl, by omega, by omega⟩, hg⟩
set_option maxHeartbeats 2000000 in
/-- an answer's rows are marked: the files' first, then the names' -/
theorem markA_own {b1 b2 : Nat} (x : AN) (v u : Value) (w : World) (o1 : w.ownsRow b1 41 2 v x.files.length (cellsF x.files)) (o2 : w.ownsRow b2 9 1 u x.names.length (strs x.names)) (hn : x.files.length ≤ 1048576) (hm : x.names.length ≤ 1048576) :
    Calls Tryd.prog 10 #[.agg (x.at_ v u), .int .i64 1] w fun e w' => (∃ k : Nat, e = .returned (.int .i64 k)) ∧ ∃ w1 w2, Below w.heap.size w w1 ∧ w1.grownBy w2 v.ownBlock ∧ w2.grownBy w' u.ownBlock := by
  obtain ⟨w0, hw0, D, B0⟩ : ∃ w0, w.alloc (.cells (x.at_ v u) 30) = w0 ∧ AtA w0 w.heap.size x v u ∧ Below w.heap.size w w0 := ⟨_, rfl, atA_new w x _ _ _, (Below.refl _ w).alloc (Nat.le_refl _) _⟩
  have q1 := ownsUnder o1 B0 (Nat.le_refl _)
  have q2 := ownsUnder o2 B0 (Nat.le_refl _)
  have hv : ∀ k, v.ownBlock = some k → k ≠ w.heap.size := fun k hk e => by have := (o1.lt k hk).2; omega
  have hap := apartA q2 q1 (by decide)
  have HW : Hid (Below w.heap.size w w0) := B0
  have HV : Hid (∀ k, v.ownBlock = some k → k ≠ w.heap.size) := hv
  have HQ : Hid (w0.ownsRow b2 9 1 u x.names.length (strs x.names)) := q2
  have HP : Hid (u.ownBlock = none ∨ u.ownBlock ≠ v.ownBlock) := hap
  clear B0 o1 o2 q2 hap hv
  simp only [AN.at_] at hw0 ⊢
  go_enter Tryd.func10, Tryd.ntmps10
  obtain ⟨d0, d1, d2, d3⟩ := D.all
  go_wp2_with (first
    | (go_at_call 24; refine (markF_one v x.files _ q1 hn).mono ?_; rintro e w2 ⟨⟨k2, rfl, hk1, hk2⟩, hg⟩; have D2 := D.row hg HV.out; have Q2 := HQ.out.kept hg HP.out; clear d0 d1 d2 d3; obtain ⟨d0, d1, d2, d3⟩ := D2.all)
    | (go_at_call 11; refine (markSk_own u k2 x.names _ Q2 (by omega) (by omega)).mono ?_; rintro e w3 ⟨rfl, hg3⟩))
  go_ret
  exact ⟨⟨_, rfl⟩, w0, w2, HW.out, hg, hg3⟩
end Go.Proofs.YtfpchfmjgjlelaaDoor.W
