
/-
  How much a rule's texts need: the exact laws' own 'szRulRule', either way. No condition but those named.
-/
import Derived.Test.YtolpalbeldolnaaRowR
namespace Go.Proofs.Ytolpalbeldolnaa.W
open Go.RowKit

theorem szR1_any (x : RR) (left : Nat) (w : World) (hl : left ≤ 1048576) (hm : x.ref.size ≤ maxLen ∧ x.path.size ≤ maxLen) :
    Calls Try.prog 9 #[.agg #[.int .i64 x.user, .string x.ref, .string x.path, .bool x.write], .int .i64 left] w fun e w' => (∃ r : Int, e = .returned (.int .i64 r) ∧ (r < 0 ∨ (¬ r < 0 ∧ x.ref.size + x.path.size ≤ left))) ∧ Below w.heap.size w w' := by
  by_cases h : x.ref.size + x.path.size ≤ left
  · refine (szRulRule_fits _ _ _ _ left w hl h).mono ?_
    rintro e w' ⟨rfl, hb⟩
    exact ⟨⟨_, rfl, Or.inr ⟨by omega, h⟩⟩, hb⟩
  · refine (szRulRule_over _ _ _ _ left w hl hm.1 hm.2 (by omega)).mono ?_
    rintro e w' ⟨rfl, hb⟩
    exact ⟨⟨_, rfl, Or.inl (by decide)⟩, hb⟩
/-- a rule lies in a block -/
def AtR (w : World) (b : Nat) (x : RR) : Prop := w.cell? ⟨b, 0, none⟩ = some (.int .i64 x.user) ∧ w.cell? ⟨b, 1, none⟩ = some (.string x.ref) ∧ w.cell? ⟨b, 2, none⟩ = some (.string x.path) ∧ w.cell? ⟨b, 3, none⟩ = some (.bool x.write)
theorem AtR.lt {w : World} {b : Nat} {x : RR} (h : AtR w b x) : b < w.heap.size := World.block_lt_of_cell? _ _ h.1
theorem AtR.up {w w' : World} {b : Nat} {x : RR} (h : AtR w b x) (hb : Below w.heap.size w w') : AtR w' b x :=
  ⟨(hb.cell (p := ⟨b, _, none⟩) h.lt).trans h.1, (hb.cell (p := ⟨b, _, none⟩) h.lt).trans h.2.1, (hb.cell (p := ⟨b, _, none⟩) h.lt).trans h.2.2.1, (hb.cell (p := ⟨b, _, none⟩) h.lt).trans h.2.2.2⟩
theorem atR_new (w : World) (x : RR) (t : TypeId) : AtR (w.alloc (.cells #[.int .i64 x.user, .string x.ref, .string x.path, .bool x.write] t)) w.heap.size x := by simp [AtR]
theorem AtR.below {w w' : World} {b B : Nat} {x : RR} (h : AtR w b x) (hb : Below B w w') (hB : b < B) : AtR w' b x :=
  ⟨(hb.cell (p := ⟨b, _, none⟩) hB).trans h.1, (hb.cell (p := ⟨b, _, none⟩) hB).trans h.2.1, (hb.cell (p := ⟨b, _, none⟩) hB).trans h.2.2.1, (hb.cell (p := ⟨b, _, none⟩) hB).trans h.2.2.2⟩
theorem AtR.kept {w w' : World} {b : Nat} {x : RR} {row : Option Nat} (h : AtR w b x) (hg : w.grownBy w' row) (hne : row ≠ some b) : AtR w' b x := by
  have hb : w'.heap[b]? = w.heap[b]? := hg.block b h.lt (fun e => hne e.symm)
  have e : ∀ i, w'.cell? ⟨b, i, none⟩ = w.cell? ⟨b, i, none⟩ := fun i => by
    unfold World.cell?; simp only [hb]
  exact ⟨(e _).trans h.1, (e _).trans h.2.1, (e _).trans h.2.2.1, (e _).trans h.2.2.2⟩
theorem ownNe {w : World} {B b : Nat} {e : TypeId} {z n : Nat} {v : Value} {xs : List Value} (o : w.ownsRow B e z v n xs) (hb : b < B) : v.ownBlock ≠ some b := fun h => by
  have := (o.lt b h).1; omega
set_option maxHeartbeats 1000000 in
theorem szRS_anyL (A : Option Addr) (c : Nat) (L : List RR) (w : World) (hL : RdR w.heap.size w A L) (hn : L.length ≤ maxLen) (ht : ∀ j (h : j < L.length), (L[j]).ref.size ≤ maxLen ∧ (L[j]).path.size ≤ maxLen) :
    Calls Try.prog 13 #[.slice A L.length c, .int .i64 1048576] w fun e w' => (∃ r : Int, e = .returned (.int .i64 r) ∧ (r < 0 ∨ ∃ l : Nat, r = l ∧ l ≤ 1048576 ∧ L.length + szR L ≤ 1048576)) ∧ Below w.heap.size w w' := by
  unfold maxLen at hn
  by_cases h0 : 1048576 < L.length
  · go_enter Try.func13, Try.ntmps13
    go_wp2
    go_ret
    exact ⟨⟨_, rfl, Or.inl (by decide)⟩, Below.refl _ _⟩
  have HT : Hid (∀ j (h : j < L.length), (L[j]).ref.size ≤ maxLen ∧ (L[j]).path.size ≤ maxLen) := ht
  have HL : Hid (RdR w.heap.size w A L) := hL
  clear ht hL hn
  go_enter Try.func13, Try.ntmps13
  go_wp2
  go_loopw [1, 5] (fun lv iv wr => ∃ j s : Nat, j ≤ L.length ∧ iv = .int .i64 j ∧ lv = .int .i64 ((1048576 - (L.length + s) : Nat) : Int) ∧ L.length + s ≤ 1048576 ∧ Hid (s = szR (L.take j)) ∧ Below w.heap.size w wr) (fun _ i _ => L.length - (intOf i).toNat)
  case atStart => exact ⟨0, 0, Nat.zero_le _, rfl, by go_num, by omega, rfl, Below.refl _ _⟩
  case round =>
    obtain ⟨j, s, hj, rfl, rfl, hs, HS, hb⟩ := hrel
    have hsz := hb.size
    by_cases hlt : j < L.length
    · obtain ⟨b, o, rfl, hbl, c1, c2, c3, c4⟩ := (HL.out.below hb (Nat.le_refl _)) j hlt
      have htx := HT.out j hlt
      have est := szR_snoc L j hlt
      have ele := szR_le L (j + 1)
      generalize (L[j]).user = f0 at *
      generalize (L[j]).ref = f1 at *
      generalize (L[j]).path = f2 at *
      generalize (L[j]).write = f3 at *
      have HE : Hid (szR (L.take (j + 1)) = s + (f1.size + f2.size)) := by rw [HS.out]; exact est
      have HF : Hid (szR (L.take (j + 1)) ≤ szR L) := ele
      clear est ele
      obtain ⟨m1, m2⟩ := htx
      by_cases hfit : f1.size + f2.size ≤ 1048576 - (L.length + s)
      · go_wp2_with (go_at_call 9; refine (szRulRule_fits f0 f1 f2 f3 _ _ (by omega) hfit).mono ?_; rintro e w1 ⟨rfl, hb1⟩)
        go_roundw
        case rel => exact ⟨j + 1, s + (f1.size + f2.size), by omega, by go_num, by go_num, by omega, HE.out.symm, hb.trans (hb1.mono (by omega))⟩
        case measure => simp [intOf]; omega
      · go_wp2_with (go_at_call 9; refine (szRulRule_over f0 f1 f2 f3 _ _ (by omega) m1 m2 (by omega)).mono ?_; rintro e w1 ⟨rfl, hb1⟩)
        go_ret
        exact ⟨⟨_, rfl, Or.inl (by decide)⟩, hb.trans (hb1.mono (by omega))⟩
    · go_wp2
      go_ret
      obtain rfl : j = L.length := by omega
      have e := HS.out
      rw [List.take_length] at e
      exact ⟨⟨_, rfl, Or.inr ⟨_, rfl, by omega, by omega⟩⟩, hb⟩
end Go.Proofs.Ytolpalbeldolnaa.W
