
/-
  The exact laws' own 'szTreFileS' from whatever is left. No condition but those named.
-/
import Derived.Test.YtfpchfmjgjlelaaDoorRowF
import Derived.Test.YtfpchfmjgjlelaaDoorRowFM
namespace Go.Proofs.YtfpchfmjgjlelaaDoor.W
open Go.RowKit

set_option maxHeartbeats 1000000 in
theorem szFS_left (A : Option Addr) (c : Nat) (L : List TF) (left : Nat) (w : World) (hl : left ≤ 1048576) (hL : RdF w.heap.size w A L) (hn : L.length ≤ maxLen) (ht : ∀ j (h : j < L.length), (L[j]).pa.size ≤ maxLen ∧ (L[j]).by_.size ≤ maxLen) :
    Calls Tryd.prog 13 #[.slice A L.length c, .int .i64 left] w fun e w' => (∃ r : Int, e = .returned (.int .i64 r) ∧ (r < 0 ∨ ∃ l : Nat, r = l ∧ l + (L.length + szF L) = left)) ∧ Below w.heap.size w w' := by
  unfold maxLen at hn
  by_cases h0 : left < L.length
  · go_enter Tryd.func13, Tryd.ntmps13
    go_wp2
    go_ret
    exact ⟨⟨_, rfl, Or.inl (by decide)⟩, Below.refl _ _⟩
  have HT : Hid (∀ j (h : j < L.length), (L[j]).pa.size ≤ maxLen ∧ (L[j]).by_.size ≤ maxLen) := ht
  have HL : Hid (RdF w.heap.size w A L) := hL
  clear ht hL hn
  go_enter Tryd.func13, Tryd.ntmps13
  go_wp2
  go_loopw [1, 5] (fun lv iv wr => ∃ j s : Nat, j ≤ L.length ∧ iv = .int .i64 j ∧ lv = .int .i64 ((left - (L.length + s) : Nat) : Int) ∧ L.length + s ≤ left ∧ Hid (s = szF (L.take j)) ∧ Below w.heap.size w wr) (fun _ i _ => L.length - (intOf i).toNat)
  case atStart => exact ⟨0, 0, Nat.zero_le _, rfl, by go_num, by omega, rfl, Below.refl _ _⟩
  case round =>
    obtain ⟨j, s, hj, rfl, rfl, hs, HS, hb⟩ := hrel
    have hsz := hb.size
    by_cases hlt : j < L.length
    · obtain ⟨b, o, rfl, hbl, c1, c2⟩ := (HL.out.below hb (Nat.le_refl _)) j hlt
      have htx := HT.out j hlt
      have est := szF_snoc L j hlt
      have ele := szF_le L (j + 1)
      generalize (L[j]).pa = f0 at *
      generalize (L[j]).by_ = f1 at *
      have HE : Hid (szF (L.take (j + 1)) = s + (f0.size + f1.size)) := by rw [HS.out]; exact est
      have HF : Hid (szF (L.take (j + 1)) ≤ szF L) := ele
      clear est ele
      obtain ⟨m0, m1⟩ := htx
      by_cases hfit : f0.size + f1.size ≤ left - (L.length + s)
      · go_wp2_with (go_at_call 26; refine (szTreFile_fits f0 f1 _ _ (by omega) hfit).mono ?_; rintro e w1 ⟨rfl, hb1⟩)
        go_roundw
        case rel => exact ⟨j + 1, s + (f0.size + f1.size), by omega, by go_num, by go_num, by omega, HE.out.symm, hb.trans (hb1.mono (by omega))⟩
        case measure => simp [intOf]; omega
      · go_wp2_with (go_at_call 26; refine (szTreFile_over f0 f1 _ _ (by omega) m0 m1 (by omega)).mono ?_; rintro e w1 ⟨rfl, hb1⟩)
        go_ret
        exact ⟨⟨_, rfl, Or.inl (by decide)⟩, hb.trans (hb1.mono (by omega))⟩
    · go_wp2
      go_ret
      obtain rfl : j = L.length := by omega
      have e := HS.out
      rw [List.take_length] at e
      exact ⟨⟨_, rfl, Or.inr ⟨_, rfl, by omega⟩⟩, hb⟩

theorem markF_from {b : Nat} (k : Nat) (v : Value) (L : List TF) (w : World) (h : w.ownsRow b 41 2 v L.length (cellsF L)) (hn : L.length ≤ 1048576) (h1 : 1 ≤ k) (hk : k ≤ 3000000) :
    Calls Tryd.prog 24 #[v, .int .i64 k] w fun e w' => ∃ k2 : Nat, e = .returned (.int .i64 k2) ∧ k2 = k + L.length * 2 ∧ w'.ownsRow b 41 2 v L.length (cellsF (mkF k L.length)) ∧ w.grownBy w' v.ownBlock := by
  rcases h.2 with ⟨rfl, hn0⟩ | ⟨g, cap, cur, rfl, _⟩
  · refine (markFS_nil k w).mono ?_
    rintro e w' ⟨rfl, rfl⟩
    rw [hn0]
    exact ⟨k, rfl, by omega, World.ownsRow_nil _ _ _ _, World.grownBy.refl _ _⟩
  · refine (markFS_any b g cap k L w h h1 (by omega)).mono ?_
    rintro e w' ⟨rfl, h2, h3⟩
    exact ⟨_, rfl, rfl, h2, h3⟩
end Go.Proofs.YtfpchfmjgjlelaaDoor.W
