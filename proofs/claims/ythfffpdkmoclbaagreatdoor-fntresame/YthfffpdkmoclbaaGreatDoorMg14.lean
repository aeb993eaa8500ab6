/-
  The walks of 'l20Open' and of the draws of chapters 1 and 2: some texts of at most 200 bytes; of what lay nothing has turned.
  The walks of the laws' 'chTexts' over two rows of the same texts, and of the draw of one path. Condition: rows of at most 100000000 texts.
  The cells of a row that has just been laid; what an append leaves as it was. No condition.
-/
import Derived.Test.YthfffpdkmoclbaaGreatDoorMg13
import Derived.Deep.RegionWith
import Derived.OpenShut
import Derived.Test.YthfffpdkmoclbaaGreatDoorMg07
import Derived.Test.YthfffpdkmoclbaaGreatDoorMg04
import Derived.BigQuiet
import Derived.Deep.QuietTactic
namespace Go.Proofs.YthfffpdkmoclbaaGreatDoor.W
open Go.RowKit Go.Proofs.YthfffpdkmoclbaaGreatDoor.M

/-- bytes that are there to be read -/
def Src (w : World) (a : Option Addr) (len cap : Nat) (zs : Nat → Int) : Prop :=
  len = 0 ∨ ∃ b off, a = some ⟨b, off, none⟩ ∧ len ≤ cap ∧ cap ≤ 9223372036854775807 ∧ b < w.heap.size ∧ ∀ i, i < len → w.cell? ⟨b, off + i, none⟩ = some (.int .u8 (zs i)) ∧ 0 ≤ zs i ∧ zs i ≤ 255

theorem Src.below {w w' : World} {a : Option Addr} {len cap : Nat} {zs : Nat → Int} (h : Src w a len cap zs) (hb : Below w.heap.size w w') : Src w' a len cap zs := by
  rcases h with h | ⟨b, off, e, h1, h2, h3, h4⟩
  · exact .inl h
  · refine .inr ⟨b, off, e, h1, h2, Nat.lt_of_lt_of_le h3 hb.size, fun i hi => ?_⟩
    obtain ⟨hz, hz0, hz1⟩ := h4 i hi
    exact ⟨(hb.cell (p := ⟨b, off + i, none⟩) h3).trans hz, hz0, hz1⟩

theorem cell_lt {w : World} {b o : Nat} {v : Value} (h : w.cell? ⟨b, o, none⟩ = some v) : b < w.heap.size := by
  rcases Nat.lt_or_ge b w.heap.size with h' | h'
  · exact h'
  · have : w.heap[b]? = none := Array.getElem?_eq_none h'
    simp [World.cell?, this] at h
theorem addN (b off i : Nat) : (⟨b, off, none⟩ : Addr).add i = ⟨b, off + i, none⟩ := by unfold Addr.add; split <;> simp_all
theorem src_of (w : World) (a : Option Addr) (len cap : Nat) (zs : List Int)
    (h : (a = none ∧ len = 0 ∧ cap = 0 ∧ zs = []) ∨ ∃ x, a = some x ∧ len ≤ cap ∧ cap ≤ maxLen ∧ zs.length = cap ∧ (∀ i, i < zs.length → w.cell? (x.add i) = some (.int .u8 (zs.getD i 0))) ∧ ∀ n ∈ zs, (Lit.int .u8 n).wf = true) :
    Src w a len cap (fun i => zs.getD i 0) := by
  rcases h with ⟨_, h0, _, _⟩ | ⟨x, rfl, hl, hm, hz, hcell, hwz⟩
  · exact .inl h0
  · by_cases h0 : len = 0
    · exact .inl h0
    · obtain ⟨b, off, spot⟩ := x
      have hc := hcell 0 (by omega)
      have hspot : spot = none := by simpa [Addr.add] using World.cell?_spot hc
      subst hspot
      have hc0 : w.cell? ⟨b, off, none⟩ = some (.int .u8 (zs.getD 0 0)) := by simpa [Addr.add] using hc
      refine .inr ⟨b, off, rfl, hl, hm, cell_lt hc0, fun i hi => ⟨?_, ?_⟩⟩
      · have := hcell i (by omega); rwa [addN] at this
      · have hmem : zs.getD i 0 ∈ zs := by
          rw [List.getD_eq_getElem?_getD, List.getElem?_eq_getElem (by omega)]; exact List.getElem_mem _
        have hw := hwz _ hmem
        exact bounds_u8 hw

set_option maxHeartbeats 400000 in
theorem open_any (w : World) (a : Option Addr) (len cap : Nat) (zs : Nat → Int) (h : Src w a len cap zs) :
    Calls Tryz.prog 47 #[.slice a len cap] w fun e w' => ∃ a' len' cap', e = .returned (.pointer (some ⟨w.heap.size, 0, none⟩)) ∧ Rd w' w.heap.size 0 a' len' cap' zs ∧ w.heap.size < w'.heap.size ∧ w.grownBy w' none := by
  rcases h with rfl | ⟨b, off, rfl, h1, h2, h3, h4⟩
  · go_enter Tryz.func47, Tryz.ntmps47
    go_wp2
    go_ret
    exact ⟨a, 0, cap, rfl, ⟨by simp, by simp, by simp, by omega, .inl rfl⟩, by simp, galloc _ _⟩
  · have H4 : Hid (∀ i, i < len → w.cell? ⟨b, off + i, none⟩ = some (.int .u8 (zs i)) ∧ 0 ≤ zs i ∧ zs i ≤ 255) := h4
    clear h4
    by_cases h5 : 2000 < len
    · go_enter Tryz.func47, Tryz.ntmps47
      go_wp2
      go_ret
      refine ⟨some ⟨b, off, none⟩, 2000, cap, rfl, ⟨by simp, by simp, by simp, by omega, .inr ⟨b, off, rfl, h3, fun i hi => ?_⟩⟩, by simp, galloc _ _⟩
      obtain ⟨hz, hz0, hz1⟩ := H4.out i (by omega)
      exact ⟨(World.cell?_alloc_lt _ _ _ h3).trans hz, hz0, hz1⟩
    · go_enter Tryz.func47, Tryz.ntmps47
      go_wp2
      go_ret
      refine ⟨some ⟨b, off, none⟩, len, cap, rfl, ⟨by simp, by simp, by simp, by omega, .inr ⟨b, off, rfl, h3, fun i hi => ?_⟩⟩, by simp, galloc _ _⟩
      obtain ⟨hz, hz0, hz1⟩ := H4.out i (by omega)
      exact ⟨(World.cell?_alloc_lt _ _ _ h3).trans hz, hz0, hz1⟩

end Go.Proofs.YthfffpdkmoclbaaGreatDoor.W
namespace Go.Proofs.YthfffpdkmoclbaaGreatDoor.W
open Go.RowKit Go.Proofs.YthfffpdkmoclbaaGreatDoor.M

set_option maxHeartbeats 400000 in
theorem chTexts_none (a b : Option Addr) (c d : Nat) (w : World) :
    Calls Tryz.prog 34 #[.slice a 0 c, .slice b 0 d] w fun e w' => e = .returned (.bool true) ∧ Below w.heap.size w w' := by
  go_enter Tryz.func34, Tryz.ntmps34
  go_wp2
  refine wp_loop_rounds 1 ?_
  rw [rounds_succ]
  go_wp2
  go_ret
  exact ⟨rfl, Below.refl _ _⟩

set_option maxHeartbeats 1000000 in
theorem chTexts_some (g1 c1 g2 c2 : Nat) (L : List (List UInt8)) (w : World) (h1 : ∀ j (h : j < L.length), w.cell? ⟨g1, j, none⟩ = some (.string ⟨(L[j]).toArray⟩)) (h2 : ∀ j (h : j < L.length), w.cell? ⟨g2, j, none⟩ = some (.string ⟨(L[j]).toArray⟩)) (hL : L.length ≤ 100000000) :
    Calls Tryz.prog 34 #[.slice (some ⟨g1, 0, none⟩) L.length c1, .slice (some ⟨g2, 0, none⟩) L.length c2] w fun e w' => e = .returned (.bool true) ∧ Below w.heap.size w w' := by
  have H1 : Hid (∀ j (h : j < L.length), w.cell? ⟨g1, j, none⟩ = some (.string ⟨(L[j]).toArray⟩)) := h1
  have H2 : Hid (∀ j (h : j < L.length), w.cell? ⟨g2, j, none⟩ = some (.string ⟨(L[j]).toArray⟩)) := h2
  clear h1 h2
  go_enter Tryz.func34, Tryz.ntmps34
  go_wp2
  go_loopw [5] (fun i wr => ∃ j q : Nat, j ≤ L.length ∧ i = .int .i64 j ∧ wr = w.drewN q) (fun i _ => L.length - (intOf i).toNat)
  case atStart => exact ⟨0, 0, Nat.zero_le _, rfl, rfl⟩
  case round =>
    obtain ⟨j, q, hj, rfl, rfl⟩ := hrel
    by_cases hlt : j < L.length
    · have k1 := H1.out j hlt
      have k2 := H2.out j hlt
      obtain ⟨x, hx⟩ : ∃ x, x = L[j] := ⟨_, rfl⟩
      rw [← hx] at k1 k2
      clear hx
      go_wp2
      go_quiet (fail)
      go_wp2
      go_roundw
      case rel => exact ⟨j + 1, _, by omega, by go_num, rfl⟩
      case measure => simp [intOf]; omega
    · go_wp2
      go_ret
      exact ⟨rfl, (Below.refl _ _).trans ⟨rfl, rfl, rfl, Nat.le_refl _, fun _ _ => rfl⟩⟩

/-- two rows of the same texts are found the same -/
theorem chTexts_any (b1 b2 : Nat) (v1 v2 : Value) (L : List (List UInt8)) (w : World) (o1 : w.ownsRow b1 9 1 v1 L.length (strs L)) (o2 : w.ownsRow b2 9 1 v2 L.length (strs L)) (hL : L.length ≤ 100000000) :
    Calls Tryz.prog 34 #[v1, v2] w fun e w' => e = .returned (.bool true) ∧ Below w.heap.size w w' := by
  by_cases h0 : L.length = 0
  · rw [h0] at o1 o2
    obtain ⟨a, c, rfl⟩ : ∃ a c, v1 = .slice a 0 c := by
      rcases o1.2 with ⟨rfl, _⟩ | ⟨g, cap, _, rfl, _⟩
      · exact ⟨none, 0, rfl⟩
      · exact ⟨_, cap, rfl⟩
    obtain ⟨b, d, rfl⟩ : ∃ a c, v2 = .slice a 0 c := by
      rcases o2.2 with ⟨rfl, _⟩ | ⟨g, cap, _, rfl, _⟩
      · exact ⟨none, 0, rfl⟩
      · exact ⟨_, cap, rfl⟩
    exact chTexts_none a b c d w
  · rcases o1.2 with ⟨_, h⟩ | ⟨g1, c1, _, rfl, _⟩
    · exact absurd h h0
    · rcases o2.2 with ⟨_, h⟩ | ⟨g2, c2, _, rfl, _⟩
      · exact absurd h h0
      · exact chTexts_some g1 c1 g2 c2 L w (fun j hj => by rw [o1.cellAt j (by omega), strs_get L j hj]) (fun j hj => by rw [o2.cellAt j (by omega), strs_get L j hj]) hL

theorem ownsStay {w w' : World} {b B : Nat} {e : TypeId} {z : Nat} {v : Value} {n : Nat} {xs : List Value} (h : w.ownsRow b e z v n xs) (hb : Below B w w') (hB : w.heap.size ≤ B) : w'.ownsRow b e z v n xs := by
  refine ⟨h.1, ?_⟩
  rcases h.2 with h1 | ⟨g, cap, cur, h1, h2, h3, h4⟩
  · exact .inl h1
  · have hg : g < w.heap.size := (Array.getElem?_eq_some_iff.1 h3).1
    exact .inr ⟨g, cap, cur, h1, h2, (hb.block g (by omega)).trans h3, h4⟩
theorem row_none {w : World} {b : Nat} {e : TypeId} {z : Nat} {v : Value} {xs : List Value} (h : w.ownsRow b e z v 0 xs) : ∃ a c, v = .slice a 0 c := by
  rcases h.2 with ⟨rfl, _⟩ | ⟨g, cap, _, rfl, _⟩
  · exact ⟨none, 0, rfl⟩
  · exact ⟨_, cap, rfl⟩
theorem row_some {w : World} {b : Nat} {v : Value} {L : List (List UInt8)} (h : w.ownsRow b 9 1 v L.length (strs L)) (h1 : 1 ≤ L.length) : ∃ g c : Nat, v = .slice (some ⟨g, 0, none⟩) L.length c ∧ ∀ j (h : j < L.length), w.cell? ⟨g, j, none⟩ = some (.string ⟨(L[j]).toArray⟩) := by
  rcases h.2 with ⟨_, h0⟩ | ⟨g, c, _, rfl, _⟩
  · omega
  · exact ⟨g, c, rfl, fun j hj => by rw [h.cellAt j (by omega), strs_get L j hj]⟩
theorem row_lt {w : World} {b g n c : Nat} {e : TypeId} {z : Nat} {xs : List Value} (h : w.ownsRow b e z (.slice (some ⟨g, 0, none⟩) n c) n xs) : g < w.heap.size := (h.lt g rfl).2
theorem pth_all (l : List UInt8) (h : pthB l = true) : (nms l).all namB = true := by
  unfold pthB at h; simp only [Bool.and_eq_true, decide_eq_true_iff] at h; exact h.2
end Go.Proofs.YthfffpdkmoclbaaGreatDoor.W
namespace Go.Proofs.YthfffpdkmoclbaaGreatDoor.W
open Go.RowKit
theorem cells_new (w : World) (cs : Array Value) (t : TypeId) : ∀ j u, cs.toList[j]? = some u → (w.alloc (.cells cs t)).cell? ((⟨w.heap.size, 0, none⟩ : Addr).add j) = some u := by
  intro j u h
  have e : (⟨w.heap.size, 0, none⟩ : Addr).add j = ⟨w.heap.size, j, none⟩ := by unfold Addr.add; split <;> simp_all
  rw [e]
  simpa using h
theorem cells_new' (w : World) (cs : Array Value) (t : TypeId) (n : Nat) (hn : w.heap.size = n) : ∀ j u, cs.toList[j]? = some u → (w.alloc (.cells cs t)).cell? ((⟨n, 0, none⟩ : Addr).add j) = some u := by
  subst hn; exact cells_new w cs t
theorem growOwn {w w' : World} {B base : Nat} {a : World} {e : TypeId} {z : Nat} {v : Value} {n : Nat} {xs : List Value} (hb : Below B a w) (hB : B ≤ w.heap.size) (hown : w.ownsRow base e z v n xs) (hg : w.grownBy w' v.ownBlock) (hbase : B ≤ base) : Below B a w' :=
  hb.grown hg hB (fun k hk => Nat.le_trans hbase (hown.lt k hk).1)

end Go.Proofs.YthfffpdkmoclbaaGreatDoor.W
