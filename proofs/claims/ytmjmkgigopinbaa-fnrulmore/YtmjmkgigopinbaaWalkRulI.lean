
/-
  The walks of RulSees and RulMay of the program. At most 1048576 rules, texts of at most 1048576 bytes.
-/
import Derived.Test.YtmjmkgigopinbaaWalkRulN
namespace Go.Proofs.Ytmjmkgigopinbaa.W
open Go.RowKit Go.Proofs.Ytmjmkgigopinbaa.M

set_option maxHeartbeats 1000000 in
theorem rulSees_impl (A : Option Addr) (c : Nat) (L : List RR) (u : Int) (q : ByteArray) (w : World) (hL : RdR w.heap.size w A L) (hn : L.length ≤ 1048576) (ht : ∀ j (h : j < L.length), (L[j]).ref.size ≤ 1048576 ∧ (L[j]).path.size ≤ 1048576) :
    Calls Try.prog 13 #[.slice A L.length c, .int .i64 u, .string q] w fun e w' => e = .returned (.bool (L.any fun x => seesB x u q)) ∧ Below w.heap.size w w' := by
  have HL : Hid (RdR w.heap.size w A L) := hL
  have HT : Hid (∀ j (h : j < L.length), (L[j]).ref.size ≤ 1048576 ∧ (L[j]).path.size ≤ 1048576) := ht
  clear hL ht
  generalize hres : (L.any fun x => seesB x u q) = res
  have HR : Hid ((L.any fun x => seesB x u q) = res) := hres
  clear hres
  go_enter Try.func13, Try.ntmps13
  go_wp2_with (first
    | (go_at_call 37; refine (seeing_any _).mono ?_; rintro e w1 ⟨rfl, hb1, o1⟩; have G : Tst3 w1 w.heap.size := ⟨by rw [o1.cellAt 0 (by omega)]; rfl, by rw [o1.cellAt 1 (by omega)]; rfl, by rw [o1.cellAt 2 (by omega)]; rfl⟩; have HG : Hid (Tst3 w1 w.heap.size) := G; clear G)
    | (go_at_call 31; refine (oneFits3 A c w.heap.size 3 L ⟨u, q, ByteArray.empty, false⟩ _ (HL.out.up hb1) hn HT.out HG.out).mono ?_; rw [HR.out]; rintro e w2 ⟨rfl, hb2⟩))
  go_ret
  exact ⟨rfl, hb1.trans (hb2.mono hb1.size)⟩
set_option maxHeartbeats 1000000 in
theorem rulMay_impl (A : Option Addr) (c : Nat) (L : List RR) (u : Int) (q p : ByteArray) (wt : Bool) (w : World) (hL : RdR w.heap.size w A L) (hn : L.length ≤ 1048576) (hpp : p.size ≤ 1048576) (ht : ∀ j (h : j < L.length), (L[j]).ref.size ≤ 1048576 ∧ (L[j]).path.size ≤ 1048576) :
    Calls Try.prog 9 #[.slice A L.length c, .int .i64 u, .string q, .string p, .bool wt] w fun e w' => e = .returned (.bool (L.any fun x => mayB x u q p wt)) ∧ Below w.heap.size w w' := by
  have HL : Hid (RdR w.heap.size w A L) := hL
  have HT : Hid (∀ j (h : j < L.length), (L[j]).ref.size ≤ 1048576 ∧ (L[j]).path.size ≤ 1048576) := ht
  clear hL ht
  generalize hres : (L.any fun x => mayB x u q p wt) = res
  have HR : Hid ((L.any fun x => mayB x u q p wt) = res) := hres
  clear hres
  go_enter Try.func9, Try.ntmps9
  go_wp2_with (first
    | (go_at_call 32; refine (reaching_any _).mono ?_; rintro e w1 ⟨⟨g, cap, rfl, o1⟩, hb1⟩; have G : Tst5 w1 g := ⟨by rw [o1.cellAt 0 (by omega)]; rfl, by rw [o1.cellAt 1 (by omega)]; rfl, by rw [o1.cellAt 2 (by omega)]; rfl, by rw [o1.cellAt 3 (by omega)]; rfl, by rw [o1.cellAt 4 (by omega)]; rfl⟩; have HG : Hid (Tst5 w1 g) := G; clear G)
    | (go_at_call 31; refine (oneFits5 A c g cap L ⟨u, q, p, wt⟩ _ (HL.out.up hb1) hn HT.out hpp HG.out).mono ?_; rw [HR.out]; rintro e w2 ⟨rfl, hb2⟩))
  go_ret
  exact ⟨rfl, hb1.trans (hb2.mono hb1.size)⟩
end Go.Proofs.Ytmjmkgigopinbaa.W
