
/-
  A request: what it is; the walks of the exact laws' own helpers 'sz', 'to' and 'eq' on it. No condition but those named.
-/
import Derived.Test.YtjlpainieppfnaaRowE
import Derived.Test.YtjlpainieppfnaaRowR
import Derived.Test.YtjlpainieppfnaaWalkRul2
namespace Go.Proofs.Ytjlpainieppfnaa.W
open Go.RowKit

structure RQ where
  user : Int
  key : Int
  repo : Int
  kind : Int
  ref : ByteArray
  path : ByteArray
  old : Int
  back : Int
  edits : List TE
  rule : RR
  from_ : Int
  other : ByteArray

/-- a request's cells, its edits at a place -/
def RQ.at_ (x : RQ) (v : Value) : Array Value := #[.int .i64 x.user, .int .i64 x.key, .int .i64 x.repo, .int .i64 x.kind, .string x.ref, .string x.path, .int .i64 x.old, .int .i64 x.back, v, .int .i64 x.rule.user, .string x.rule.ref, .string x.rule.path, .bool x.rule.write, .int .i64 x.from_, .string x.other]
/-- a request lies in a block -/
def AtQ (w : World) (b : Nat) (x : RQ) (v : Value) : Prop := ∀ i u, (x.at_ v)[i]? = some u → w.cell? ⟨b, i, none⟩ = some u
theorem AtQ.lt {w : World} {b : Nat} {x : RQ} {v : Value} (h : AtQ w b x v) : b < w.heap.size := World.block_lt_of_cell? _ _ (h 0 _ rfl)
theorem AtQ.below {w w' : World} {b B : Nat} {x : RQ} {v : Value} (h : AtQ w b x v) (hb : Below B w w') (hB : b < B) : AtQ w' b x v := fun i u e => (hb.cell (p := ⟨b, _, none⟩) hB).trans (h i u e)
theorem AtQ.up {w w' : World} {b : Nat} {x : RQ} {v : Value} (h : AtQ w b x v) (hb : Below w.heap.size w w') : AtQ w' b x v := h.below hb h.lt
theorem atQ_new (w : World) (x : RQ) (v : Value) (t : TypeId) : AtQ (w.alloc (.cells (x.at_ v) t)) w.heap.size x v := fun i u h => by simpa using h
theorem AtQ.all {w : World} {b : Nat} {x : RQ} {v : Value} (h : AtQ w b x v) : w.cell? ⟨b, 0, none⟩ = some (.int .i64 x.user) ∧ w.cell? ⟨b, 1, none⟩ = some (.int .i64 x.key) ∧ w.cell? ⟨b, 2, none⟩ = some (.int .i64 x.repo) ∧ w.cell? ⟨b, 3, none⟩ = some (.int .i64 x.kind) ∧ w.cell? ⟨b, 4, none⟩ = some (.string x.ref) ∧ w.cell? ⟨b, 5, none⟩ = some (.string x.path) ∧ w.cell? ⟨b, 6, none⟩ = some (.int .i64 x.old) ∧ w.cell? ⟨b, 7, none⟩ = some (.int .i64 x.back) ∧ w.cell? ⟨b, 8, none⟩ = some v ∧ w.cell? ⟨b, 9, none⟩ = some (.int .i64 x.rule.user) ∧ w.cell? ⟨b, 10, none⟩ = some (.string x.rule.ref) ∧ w.cell? ⟨b, 11, none⟩ = some (.string x.rule.path) ∧ w.cell? ⟨b, 12, none⟩ = some (.bool x.rule.write) ∧ w.cell? ⟨b, 13, none⟩ = some (.int .i64 x.from_) ∧ w.cell? ⟨b, 14, none⟩ = some (.string x.other) :=
  ⟨h 0 _ rfl, h 1 _ rfl, h 2 _ rfl, h 3 _ rfl, h 4 _ rfl, h 5 _ rfl, h 6 _ rfl, h 7 _ rfl, h 8 _ rfl, h 9 _ rfl, h 10 _ rfl, h 11 _ rfl, h 12 _ rfl, h 13 _ rfl, h 14 _ rfl⟩

/-- how much its texts need -/
def szQ (x : RQ) : Nat := x.ref.size + x.path.size + (x.edits.length + szE x.edits) + (x.rule.ref.size + x.rule.path.size) + x.other.size

set_option maxHeartbeats 1000000 in
theorem szES_left (A : Option Addr) (c : Nat) (L : List TE) (left : Nat) (w : World) (hl : left ≤ 1048576) (hL : RdE w.heap.size w A L) (hn : L.length ≤ maxLen) (ht : ∀ j (h : j < L.length), (L[j]).pa.size ≤ maxLen ∧ (L[j]).by_.size ≤ maxLen) :
    Calls Try.prog 26 #[.slice A L.length c, .int .i64 left] w fun e w' => (∃ r : Int, e = .returned (.int .i64 r) ∧ (r < 0 ∨ ∃ l : Nat, r = l ∧ l + (L.length + szE L) = left)) ∧ Below w.heap.size w w' := by
  unfold maxLen at hn
  by_cases h0 : left < L.length
  · go_enter Try.func26, Try.ntmps26
    go_wp2
    go_ret
    exact ⟨⟨_, rfl, Or.inl (by decide)⟩, Below.refl _ _⟩
  have HT : Hid (∀ j (h : j < L.length), (L[j]).pa.size ≤ maxLen ∧ (L[j]).by_.size ≤ maxLen) := ht
  have HL : Hid (RdE w.heap.size w A L) := hL
  clear ht hL hn
  go_enter Try.func26, Try.ntmps26
  go_wp2
  go_loopw [1, 5] (fun lv iv wr => ∃ j s : Nat, j ≤ L.length ∧ iv = .int .i64 j ∧ lv = .int .i64 ((left - (L.length + s) : Nat) : Int) ∧ L.length + s ≤ left ∧ Hid (s = szE (L.take j)) ∧ Below w.heap.size w wr) (fun _ i _ => L.length - (intOf i).toNat)
  case atStart => exact ⟨0, 0, Nat.zero_le _, rfl, by go_num, by omega, rfl, Below.refl _ _⟩
  case round =>
    obtain ⟨j, s, hj, rfl, rfl, hs, HS, hb⟩ := hrel
    have hsz := hb.size
    by_cases hlt : j < L.length
    · obtain ⟨b, o, rfl, hbl, c1, c2, c3⟩ := (HL.out.below hb (Nat.le_refl _)) j hlt
      have htx := HT.out j hlt
      have est := szE_snoc L j hlt
      have ele := szE_le L (j + 1)
      generalize (L[j]).pa = f0 at *
      generalize (L[j]).by_ = f1 at *
      generalize (L[j]).gone = f2 at *
      have HE : Hid (szE (L.take (j + 1)) = s + (f0.size + f1.size)) := by rw [HS.out]; exact est
      have HF : Hid (szE (L.take (j + 1)) ≤ szE L) := ele
      clear est ele
      obtain ⟨m0, m1⟩ := htx
      by_cases hfit : f0.size + f1.size ≤ left - (L.length + s)
      · go_wp2_with (go_at_call 41; refine (szTreEdit_fits f0 f1 f2 _ _ (by omega) hfit).mono ?_; rintro e w1 ⟨rfl, hb1⟩)
        go_roundw
        case rel => exact ⟨j + 1, s + (f0.size + f1.size), by omega, by go_num, by go_num, by omega, HE.out.symm, hb.trans (hb1.mono (by omega))⟩
        case measure => simp [intOf]; omega
      · go_wp2_with (go_at_call 41; refine (szTreEdit_over f0 f1 f2 _ _ (by omega) m0 m1 (by omega)).mono ?_; rintro e w1 ⟨rfl, hb1⟩)
        go_ret
        exact ⟨⟨_, rfl, Or.inl (by decide)⟩, hb.trans (hb1.mono (by omega))⟩
    · go_wp2
      go_ret
      obtain rfl : j = L.length := by omega
      have e := HS.out
      rw [List.take_length] at e
      exact ⟨⟨_, rfl, Or.inr ⟨_, rfl, by omega⟩⟩, hb⟩

theorem szR1_left (x : RR) (left : Nat) (w : World) (hl : left ≤ 1048576) (hm : x.ref.size ≤ maxLen ∧ x.path.size ≤ maxLen) :
    Calls Try.prog 27 #[.agg #[.int .i64 x.user, .string x.ref, .string x.path, .bool x.write], .int .i64 left] w fun e w' => (∃ r : Int, e = .returned (.int .i64 r) ∧ (r < 0 ∨ ∃ l : Nat, r = l ∧ l + (x.ref.size + x.path.size) = left)) ∧ Below w.heap.size w w' := by
  by_cases h : x.ref.size + x.path.size ≤ left
  · refine (szRulRule_fits _ _ _ _ left w hl h).mono ?_
    rintro e w' ⟨rfl, hb⟩
    exact ⟨⟨_, rfl, Or.inr ⟨_, rfl, by omega⟩⟩, hb⟩
  · refine (szRulRule_over _ _ _ _ left w hl hm.1 hm.2 (by omega)).mono ?_
    rintro e w' ⟨rfl, hb⟩
    exact ⟨⟨_, rfl, Or.inl (by decide)⟩, hb⟩

/-- texts that a machine can hold -/
def fitQ (x : RQ) : Prop := x.ref.size ≤ maxLen ∧ x.path.size ≤ maxLen ∧ x.edits.length ≤ maxLen ∧ (∀ j (h : j < x.edits.length), (x.edits[j]).pa.size ≤ maxLen ∧ (x.edits[j]).by_.size ≤ maxLen) ∧ (x.rule.ref.size ≤ maxLen ∧ x.rule.path.size ≤ maxLen) ∧ x.other.size ≤ maxLen

set_option maxRecDepth 100000 in
set_option maxHeartbeats 4000000 in
theorem szQ_any (x : RQ) (A : Option Addr) (c : Nat) (w : World) (hL : RdE w.heap.size w A x.edits) (hm : fitQ x) :
    Calls Try.prog 11 #[.agg (x.at_ (.slice A x.edits.length c)), .int .i64 1048576] w fun e w' => (∃ r : Int, e = .returned (.int .i64 r) ∧ (r < 0 ∨ (¬ r < 0 ∧ szQ x ≤ 1048576))) ∧ Below w.heap.size w w' := by
  obtain ⟨m1, m2, m3, m4, m5, m6⟩ := hm
  obtain ⟨w0, hw0, D, B0, hs0⟩ : ∃ w0, w.alloc (.cells (x.at_ (.slice A x.edits.length c)) 34) = w0 ∧ AtQ w0 w.heap.size x (.slice A x.edits.length c) ∧ Below w.heap.size w w0 ∧ w0.heap.size = w.heap.size + 1 := ⟨_, rfl, atQ_new w x _ _, (Below.refl _ w).alloc (Nat.le_refl _) _, by simp⟩
  have L2 := (hL.below B0 (Nat.le_refl _)).mono (show w.heap.size ≤ w0.heap.size by omega)
  simp only [RQ.at_] at hw0 ⊢
  go_enter Try.func11, Try.ntmps11
  obtain ⟨d0, d1, d2, d3, d4, d5, d6, d7, d8, d9, d10, d11, d12, d13, d14⟩ := D.all
  unfold szQ
  unfold maxLen at m1 m2 m6
  by_cases k1 : 1048576 < x.ref.size
  · go_wp2
    go_ret
    exact ⟨⟨_, rfl, Or.inl (by decide)⟩, B0⟩
  by_cases k2 : 1048576 < x.ref.size + x.path.size
  · go_wp2
    go_ret
    exact ⟨⟨_, rfl, Or.inl (by decide)⟩, B0⟩
  have q1 : (1048576 : Int) - (x.ref.size : Int) - (x.path.size : Int) = ((1048576 - (x.ref.size + x.path.size) : Nat) : Int) := by omega
  go_wp2_with (first
    | (go_at_call 26; refine (szES_left A c x.edits (1048576 - (x.ref.size + x.path.size)) _ (by omega) L2 m3 m4).mono ?_; rintro e w1 ⟨⟨r, rfl, hr | ⟨l, hr, hl⟩⟩, hb⟩; rotate_left; subst hr; replace D := D.up hb; replace B0 := B0.trans (hb.mono (by omega)); clear hb L2 d0 d1 d2 d3 d4 d5 d6 d7 d8 d9 d10 d11 d12 d13 d14; obtain ⟨d0, d1, d2, d3, d4, d5, d6, d7, d8, d9, d10, d11, d12, d13, d14⟩ := D.all)
    | (go_at_call 27; refine (szR1_left x.rule l _ (by omega) m5).mono ?_; rintro e w2 ⟨⟨r, rfl, hr | ⟨l2, hr, hl2⟩⟩, hb⟩; rotate_left; subst hr; replace D := D.up hb; replace B0 := B0.trans (hb.mono B0.size); clear hb d0 d1 d2 d3 d4 d5 d6 d7 d8 d9 d10 d11 d12 d13 d14; obtain ⟨d0, d1, d2, d3, d4, d5, d6, d7, d8, d9, d10, d11, d12, d13, d14⟩ := D.all; by_cases k3 : l2 < x.other.size))
  · go_ret
    exact ⟨⟨_, rfl, Or.inl (by decide)⟩, B0⟩
  · go_ret
    exact ⟨⟨_, rfl, Or.inr ⟨by go_num, by omega⟩⟩, B0⟩
  · go_ret
    exact ⟨⟨_, rfl, Or.inl (by decide)⟩, B0.trans (hb.mono B0.size)⟩
  · go_ret
    exact ⟨⟨_, rfl, Or.inl (by decide)⟩, B0.trans (hb.mono (by omega))⟩
end Go.Proofs.Ytjlpainieppfnaa.W
