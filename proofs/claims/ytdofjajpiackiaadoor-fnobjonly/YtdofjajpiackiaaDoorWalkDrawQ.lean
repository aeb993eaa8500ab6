
/-
  The walks of the draws of objects: some bytes, some entries, some text of at most 800 bytes; of what lay nothing has turned.
-/
import Derived.Test.YtdofjajpiackiaaDoorWalkDrawO
import Derived.Test.YtdofjajpiackiaaDoorWalkDraw5
import Derived.Test.YtdofjajpiackiaaDoorWalkSheet
import Derived.Test.YtdofjajpiackiaaDoorWalkObjS
namespace Go.Proofs.YtdofjajpiackiaaDoor.W
open Go.RowKit Go.Proofs.YtdofjajpiackiaaDoor.M

set_option maxHeartbeats 2000000 in
theorem drawObjLeaf_any (w : World) (a : Option Addr) (len cap : Nat) (zs : Nat → Int) (h : W.Src w a len cap zs) :
    Calls Tryd.prog 5 #[.slice a len cap] w fun e w' => ∃ s : ByteArray, e = .returned (.string s) ∧ s.size ≤ 64 ∧ Below w.heap.size w w' := by
  go_enter Tryd.func5, Tryd.ntmps5
  go_wp2_with (first
    | (go_at_call 20; refine (open_any _ a len cap zs h).mono ?_; rintro e w1 ⟨a', len', cap', rfl, hR1, hl1, hg1⟩; have B1 : Below w.heap.size w w1 := (Below.refl _ _).grown hg1 (Nat.le_refl _) (fun _ e => by cases e); clear hg1)
    | (go_at_call 21; refine (pick_any w1 w.heap.size 0 a' len' cap' 6 zs hR1 (by omega) (by omega) (by omega)).mono ?_; rintro e w2 ⟨v2, hv2, rfl, hR2, hg2⟩; have B2 : Below w.heap.size w w2 := B1.grown hg2 (by omega) (fun _ e => by cases e; exact Nat.le_refl _); have hz2 := hg2.size; clear hR1 hg2)
    | (go_at_call 22; refine (bytes_any w2 w.heap.size (0 + 1) a' len' cap' zs hR2 (by omega) (by omega)).mono ?_; rintro e w3 ⟨s, p3, rfl, hs, hp3, hR3, hg3⟩; have B3 : Below w.heap.size w w3 := B2.grown hg3 (by omega) (fun _ e => by cases e; exact Nat.le_refl _)))
  · go_ret
    exact ⟨_, rfl, by decide, B2⟩
  · go_ret
    exact ⟨s, rfl, hs, B3⟩
set_option maxHeartbeats 2000000 in
theorem drawObjSheet_any (w : World) (a : Option Addr) (len cap : Nat) (zs : Nat → Int) (h : W.Src w a len cap zs) :
    Calls Tryd.prog 7 #[.slice a len cap] w fun e w' => ∃ (v : Value) (L : List OE), e = .returned v ∧ v ≠ .slice none 0 0 ∧ L.length ≤ 6 ∧ SmO L ∧ w'.ownsRow w.heap.size 34 3 v L.length (cellsO L) ∧ Below w.heap.size w w' := by
  go_enter Tryd.func7, Tryd.ntmps7
  go_wp2_with (first
    | (go_at_call 20; refine (open_any _ a len cap zs h).mono ?_; rintro e w1 ⟨a', len', cap', rfl, hR1, hl1, hg1⟩; have B1 : Below w.heap.size w w1 := (Below.refl _ _).grown hg1 (Nat.le_refl _) (fun _ e => by cases e); clear hg1)
    | (go_at_call 24; refine (entries_any w1 w.heap.size 3 0 a' len' cap' zs hR1 (by omega) hl1 (by omega) (by omega)).mono ?_; rintro e w2 ⟨v, L, q, rfl, h1, h2, h3, h4, hq, hR2, hg2⟩; have B2 : Below w.heap.size w w2 := B1.grown hg2 (by omega) (fun _ e => by cases e; exact Nat.le_refl _)))
  go_ret
  exact ⟨v, L, rfl, h1, h2, h3, ownsUp h4 (by omega), B2⟩
end Go.Proofs.YtdofjajpiackiaaDoor.W
