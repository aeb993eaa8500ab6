
/-
  The walk of risingOnce at texts: a row of the call's own is sorted and compacted in its place. No condition but that the row is owned.
-/
import Derived.Test.YtbceegonaomblaaMathSort
import Derived.Test.YtbceegonaomblaaShelf
import Derived.Sort.OwnSorted
import Derived.Sort.Grow
import Derived.Lib.OwnBridge
import Derived.Lib.RowBridge
namespace Go.Proofs.Ytbceegonaomblaa.W
open Go.RowKit Go.Shelf Go.Sort Go.Proofs.Ytbceegonaomblaa.M
set_option linter.unusedVariables false

set_option maxRecDepth 100000 in
set_option maxHeartbeats 2000000 in
theorem rising_own (v : Value) (L : List (List UInt8)) (base : Nat) (w : World) (hO : w.ownsRow base 9 1 v L.length (L.map encStr)) (hn : L.length ≤ 1048576) :
    Calls Try.prog 27 #[v] w fun e w' => ∃ v', e = .returned v' ∧ w'.ownsRow base 9 1 v' (namesB L).length ((namesB L).map encStr) ∧ Below base w w' ∧ (v = .slice none 0 0 → w' = w ∧ v' = .slice none 0 0) := by
  by_cases hnn : v = .slice none 0 0
  · subst hnn
    have hL : L = [] := by
      rcases hO.2 with ⟨_, h0⟩ | ⟨g, c, cur, h0, _⟩
      · exact List.eq_nil_of_length_eq_zero h0
      · cases h0
    subst hL
    go_enter Try.func27, Try.ntmps27
    go_wp2_with (first
      | (go_at_call 50; refine (Try.slices_Sort_string_none none 0 _).mono ?_; rintro e w' ⟨rfl, rfl⟩)
      | (go_at_call 51; refine (Try.slices_Compact_string_empty none 0 _).mono ?_; rintro e w' ⟨rfl, rfl⟩))
    go_ret
    exact ⟨_, rfl, ⟨rfl, .inl ⟨rfl, rfl⟩⟩, Below.refl _ _, fun _ => ⟨rfl, rfl⟩⟩
  · obtain ⟨g, cap, rfl, hbg, hgl, hncap, hcm, hlen, hH⟩ := Lib.holds_of_ownsRow hO hnn
    have hsort := Try.slices_Sort_string g 0 cap L w hH hgl (by omega)
    have hl2 : (L.mergeSort fun x y => decide (x ≤ y)).length = L.length := List.length_mergeSort L
    have X : Hid (w.ownsRow base 9 1 (.slice (some ⟨g, 0, none⟩) L.length cap) L.length (L.map encStr) ∧ base ≤ g ∧ g < w.heap.size ∧ L.length ≤ cap ∧ Holds encStr w g 0 L.toArray) := ⟨hO, hbg, hgl, hncap, hH⟩
    have HC : Hid (∀ (nn : Nat) (os : Array Obj), Calls Try.prog 51 #[.slice (some ⟨g, 0, none⟩) L.length cap] (grow (putRow encStr (Sort.ahead w nn) g 0 (L.mergeSort fun x y => decide (x ≤ y)).toArray) os) fun e w' => e = .returned (.slice (some ⟨g, 0, none⟩) (Lib.compact (L.mergeSort fun x y => decide (x ≤ y))).length cap) ∧ ∃ q, w' = putRow encStr (Sort.ahead (grow (putRow encStr (Sort.ahead w nn) g 0 (L.mergeSort fun x y => decide (x ≤ y)).toArray) os) q) g 0 (Lib.compact (L.mergeSort fun x y => decide (x ≤ y)) ++ List.replicate (L.length - (Lib.compact (L.mergeSort fun x y => decide (x ≤ y))).length) []).toArray) := fun nn os => by
      have hH2 : Holds encStr (grow (putRow encStr (Sort.ahead w nn) g 0 (L.mergeSort fun x y => decide (x ≤ y)).toArray) os) g 0 (L.mergeSort fun x y => decide (x ≤ y)).toArray :=
        holds_grow encStr _ os g 0 _ (by simpa [putRow, mapBlock, Sort.ahead] using hgl) (holds_putRow encStr _ g 0 _ _ (holds_ahead encStr w nn g 0 _ hH) (by simp))
      have hc := Try.slices_Compact_string g 0 cap (L.mergeSort fun x y => decide (x ≤ y)) _ hH2 (by omega) (by omega)
      rw [hl2] at hc
      exact hc
    clear hO hH hnn hbg hgl hncap hcm hlen
    go_enter Try.func27, Try.ntmps27
    go_wp2_with (first
      | (go_at_call 50; refine hsort.mono ?_; rintro e w2 ⟨rfl, nn, os, rfl⟩)
      | (go_at_call 51; refine (HC.out nn os).mono ?_; rintro e w3 ⟨rfl, q, rfl⟩))
    go_ret
    obtain ⟨hO, hbg, hgl, hncap, hH⟩ := X.out
    have hle := Lib.compact_length_le (L.mergeSort fun x y => decide (x ≤ y))
    rcases hO.2 with ⟨h0, _⟩ | ⟨g', cap', cur, hv, hbase, hb, h1, h2, h3, h4⟩
    · cases h0
    cases hv
    have hs := ownsRow_sorted (n := nn) (os := os) (ts := L.mergeSort fun x y => decide (x ≤ y)) hl2 hbase hb h1 h2 h3
    have hc := Lib.ownsRow_putRow (q := q) (k := (Lib.compact (L.mergeSort fun x y => decide (x ≤ y))).length) (ys := Lib.compact (L.mergeSort fun x y => decide (x ≤ y)) ++ List.replicate (L.length - (Lib.compact (L.mergeSort fun x y => decide (x ≤ y))).length) []) hs (by simp; omega) (by omega)
    rw [List.take_left] at hc
    have hbel := Lib.below_putRow (enc := encStr) (w := grow (putRow encStr (Sort.ahead w nn) g 0 (L.mergeSort fun x y => decide (x ≤ y)).toArray) os) (q := q) (d := (Lib.compact (L.mergeSort fun x y => decide (x ≤ y)) ++ List.replicate (L.length - (Lib.compact (L.mergeSort fun x y => decide (x ≤ y))).length) []).toArray) ((Below.refl base w).grown (grownBy_sorted _) (by omega) (fun j hj => by cases hj; exact hbase)) hbg
    rw [← sortCompact L]
    exact ⟨_, rfl, hc, hbel, fun e => by cases e⟩
end Go.Proofs.Ytbceegonaomblaa.W
