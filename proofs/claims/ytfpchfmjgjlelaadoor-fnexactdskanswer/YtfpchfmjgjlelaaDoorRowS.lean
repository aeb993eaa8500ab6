
/-
  Texts side by side, as a slice reads them; the walks of the exact laws' own helpers 'szStringS' and 'toStringS'; an argument that is such a slice, laid open. No condition but those named.
-/
import Derived.Test.YtfpchfmjgjlelaaDoorWalkMarkU
import Derived.Test.YtfpchfmjgjlelaaDoorMathRow
import Derived.OpenShut
import Derived.ShutString
import Derived.Deep.SlicePairs
namespace Go.Proofs.YtfpchfmjgjlelaaDoor.W
open Go.ChangeShapes Go.WideShapes Go.RowKit Go.Deep Go.Proofs.YtfpchfmjgjlelaaDoor.M

/-- the slice at A reads as these texts -/
def RdS (B : Nat) (w : World) (A : Option Addr) (N : List (List UInt8)) : Prop :=
  ∀ j (h : j < N.length), ∃ b o, A = some ⟨b, o, none⟩ ∧ b < B ∧ w.cell? ⟨b, o + j, none⟩ = some (.string ⟨(N[j]).toArray⟩)
theorem RdS.below {B B' : Nat} {w w' : World} {A : Option Addr} {N : List (List UInt8)} (h : RdS B w A N) (hb : Below B' w w') (hB : B ≤ B') : RdS B w' A N := fun j hj => by
  obtain ⟨b, o, e, hl, c⟩ := h j hj
  exact ⟨b, o, e, hl, (hb.cell (p := ⟨b, _, none⟩) (by show b < B'; omega)).trans c⟩
theorem RdS.mono {B B' : Nat} {w : World} {A : Option Addr} {N : List (List UInt8)} (h : RdS B w A N) (hB : B ≤ B') : RdS B' w A N := fun j hj => by
  obtain ⟨b, o, e, hl, c⟩ := h j hj
  exact ⟨b, o, e, by omega, c⟩
theorem RdS.up {w w' : World} {A : Option Addr} {N : List (List UInt8)} (h : RdS w.heap.size w A N) (hb : Below w.heap.size w w') : RdS w'.heap.size w' A N := (h.below hb (Nat.le_refl _)).mono hb.size
theorem strs_at' (L : List (List UInt8)) (j : Nat) (h : j < L.length) : (strs L)[j]? = some (.string ⟨(L[j]).toArray⟩) := by simp [strs, h]
theorem rdS_of_own {w : World} {base : Nat} {e : TypeId} {v : Value} {N : List (List UInt8)} (h : w.ownsRow base e 1 v N.length (strs N)) : ∃ A c, v = .slice A N.length c ∧ RdS w.heap.size w A N := by
  have hl := h.lt
  rcases h.2 with ⟨rfl, hn⟩ | ⟨g, cap, cur, rfl, _⟩
  · exact ⟨none, 0, by rw [hn], fun j hj => by omega⟩
  · exact ⟨some ⟨g, 0, none⟩, cap, rfl, fun j hj => ⟨g, 0, rfl, (hl g rfl).2, by rw [Nat.zero_add, h.cellAt j (by omega)]; exact strs_at' N j hj⟩⟩

def szT (N : List (List UInt8)) : Nat := (N.map List.length).sum
theorem szT_snoc (N : List (List UInt8)) (j : Nat) (h : j < N.length) : szT (N.take (j + 1)) = szT (N.take j) + (N[j]).length := by
  unfold szT
  rw [List.take_succ_eq_append_getElem h]
  simp only [List.map_append, List.sum_append, List.map_cons, List.map_nil, List.sum_cons, List.sum_nil, Nat.add_zero]
theorem szT_le (N : List (List UInt8)) (j : Nat) : szT (N.take j) ≤ szT N := by
  unfold szT
  conv => rhs; rw [← List.take_append_drop j N]
  simp only [List.map_append, List.sum_append]
  omega
set_option maxHeartbeats 1000000 in
theorem szSS_left (A : Option Addr) (c : Nat) (N : List (List UInt8)) (left : Nat) (w : World) (hl : left ≤ 1048576) (hL : RdS w.heap.size w A N) (hn : N.length ≤ maxLen) (ht : ∀ j (h : j < N.length), (N[j]).length ≤ maxLen) :
    Calls Tryd.prog 14 #[.slice A N.length c, .int .i64 left] w fun e w' => (∃ r : Int, e = .returned (.int .i64 r) ∧ (r < 0 ∨ ∃ l : Nat, r = l ∧ l + (N.length + szT N) = left)) ∧ Below w.heap.size w w' := by
  unfold maxLen at hn ht
  by_cases h0 : left < N.length
  · go_enter Tryd.func14, Tryd.ntmps14
    go_wp2
    go_ret
    exact ⟨⟨_, rfl, Or.inl (by decide)⟩, Below.refl _ _⟩
  have HT : Hid (∀ j (h : j < N.length), (N[j]).length ≤ 9223372036854775807) := ht
  have HL : Hid (RdS w.heap.size w A N) := hL
  clear ht hL hn
  go_enter Tryd.func14, Tryd.ntmps14
  go_wp2
  go_loopw [1, 5] (fun lv iv wr => ∃ j s : Nat, j ≤ N.length ∧ iv = .int .i64 j ∧ lv = .int .i64 ((left - (N.length + s) : Nat) : Int) ∧ N.length + s ≤ left ∧ Hid (s = szT (N.take j)) ∧ Below w.heap.size w wr) (fun _ i _ => N.length - (intOf i).toNat)
  case atStart => exact ⟨0, 0, Nat.zero_le _, rfl, by go_num, by omega, rfl, Below.refl _ _⟩
  case round =>
    obtain ⟨j, s, hj, rfl, rfl, hs, HS, hb⟩ := hrel
    have hsz := hb.size
    by_cases hlt : j < N.length
    · obtain ⟨b, o, rfl, hbl, c1⟩ := (HL.out.below hb (Nat.le_refl _)) j hlt
      have m0 := HT.out j hlt
      have est := szT_snoc N j hlt
      have e0 : (ByteArray.mk (N[j]).toArray).size = (N[j]).length := size_mk _
      rw [← e0] at est m0
      obtain ⟨q, hq⟩ : ∃ q, ByteArray.mk (N[j]).toArray = q := ⟨_, rfl⟩
      rw [hq] at c1 est m0
      have HE : Hid (szT (N.take (j + 1)) = s + q.size) := by rw [HS.out]; exact est
      clear est hq e0
      by_cases hfit : q.size ≤ left - (N.length + s)
      · go_wp2
        go_roundw
        case rel => exact ⟨j + 1, s + q.size, by omega, by go_num, by go_num, by omega, HE.out.symm, hb⟩
        case measure => simp [intOf]; omega
      · go_wp2
        go_ret
        exact ⟨⟨_, rfl, Or.inl (by decide)⟩, hb⟩
    · go_wp2
      go_ret
      obtain rfl : j = N.length := by omega
      have e := HS.out
      rw [List.take_length] at e
      exact ⟨⟨_, rfl, Or.inr ⟨_, rfl, by omega⟩⟩, hb⟩
theorem infoS : (Tryd.prog.info? 9).map (fun i => (i.zero, i.size, i.bytes)) = some (some (.string ByteArray.empty), 1, 16) := by kernel_rfl
def laidS (L : List (List UInt8)) (j : Nat) : List Value := strs (L.take j) ++ List.replicate (L.length - j) (.string ByteArray.empty)
theorem laidS_zero (L : List (List UInt8)) : laidS L 0 = (madeCells #[.string ByteArray.empty] (L.length * 1)).toList := by
  rw [made_flat _ _ 1 rfl (by decide)]; simp [laidS, strs, List.flatten_replicate_singleton]
theorem laidS_all (L : List (List UInt8)) : laidS L L.length = strs L := by simp [laidS]
theorem laidS_step (L : List (List UInt8)) (j : Nat) (h : j < L.length) : (laidS L j).set j (.string ⟨(L[j]).toArray⟩) = laidS L (j + 1) := by
  unfold laidS
  have hl : (strs (L.take j)).length = j := by rw [strs_length]; simp; omega
  obtain ⟨m, hm⟩ : ∃ m, L.length - j = m + 1 := ⟨L.length - j - 1, by omega⟩
  have hm' : L.length - (j + 1) = m := by omega
  rw [hm, hm', List.replicate_succ, List.take_succ_eq_append_getElem h, strs_snoc]
  rw [List.set_append_right _ _ (by omega), hl, show j - j = 0 by omega]
  simp
set_option maxHeartbeats 1000000 in
theorem toSS_any (A : Option Addr) (c : Nat) (L : List (List UInt8)) (w : World) (hL : RdS w.heap.size w A L) (hn : L.length ≤ 1048576) :
    Calls Tryd.prog 19 #[.slice A L.length c] w fun e w' => (∃ v, e = .returned v ∧ w'.ownsRow w.heap.size 9 1 v L.length (strs L)) ∧ Below w.heap.size w w' := by
  have HL : Hid (RdS w.heap.size w A L) := hL
  clear hL
  obtain ⟨i0, hi, hz0, hz1, hz2⟩ := info_parts infoS
  go_enter Tryd.func19, Tryd.ntmps19
  go_wp2_with (at_make; refine wpList_make_full _ rfl _ _ 23 rfl w.heap.size 9 i0 (.string ByteArray.empty) 1 Tryd.underlying23 hi hz0 hz1 _ _ _ _ L.length rfl rfl rfl rfl (by rw [hz2]; omega) (by unfold maxLen; omega) (Nat.le_refl _) ?_)
  intro w1 hown hgr
  have hb0 : Below w.heap.size w w1 := (Below.refl _ _).grown hgr (Nat.le_refl _) (fun k h => by cases h)
  have hown' : w1.ownsRow w.heap.size 9 1 (.slice (some ⟨w.heap.size, 0, none⟩) L.length L.length) L.length (laidS L 0) := by rw [laidS_zero, Nat.mul_one]; exact hown
  clear hown
  go_wp2
  go_loopw [4] (fun iv wr => ∃ j : Nat, j ≤ L.length ∧ iv = .int .i64 j ∧ wr.ownsRow w.heap.size 9 1 (.slice (some ⟨w.heap.size, 0, none⟩) L.length L.length) L.length (laidS L j) ∧ Below w.heap.size w wr) (fun i _ => L.length - (intOf i).toNat)
  case atStart => exact ⟨0, Nat.zero_le _, rfl, hown', hb0⟩
  case round =>
    obtain ⟨j, hj, rfl, hrow, hb⟩ := hrel
    have hsz := hb.size
    by_cases hlt : j < L.length
    · obtain ⟨b, o, rfl, hbl, c1⟩ := (HL.out.below hb (Nat.le_refl _)) j hlt
      have est := laidS_step L j hlt
      obtain ⟨q, hq⟩ : ∃ q, ByteArray.mk (L[j]).toArray = q := ⟨_, rfl⟩
      rw [hq] at c1 est
      have HE : Hid ((laidS L j).set j (.string q) = laidS L (j + 1)) := est
      clear est hq
      obtain ⟨u0, hu0⟩ := ownsCell hrow j (by omega)
      have hf0 := hrow.frozenAt j
      go_wp2
      go_roundw
      case rel =>
        have hst := (hrow.stored j (.string q)).1
        rw [HE.out] at hst
        exact ⟨j + 1, by omega, by go_num, hst, hb.setCell (p := ⟨w.heap.size, j, none⟩) (Nat.le_refl _) _⟩
      case measure => simp [intOf]; omega
    · go_wp2
      go_ret
      obtain rfl : j = L.length := by omega
      rw [laidS_all] at hrow
      exact ⟨⟨_, rfl, hrow⟩, hb⟩
theorem cellsOfS : Tryd.prog.cellsOf 9 = 1 := by kernel_rfl
set_option maxRecDepth 100000 in
theorem open_S {H : Type} {enc : TypeId × Value → H} {W : World} {v : Value} {d : DataW H} {ps : List MemPlace} (hd : DataW.Trod enc Tryd.prog W 0 (fun _ => true) true 23 v d ps)
    (hv : ∃ a len cap, v = .slice a len cap) :
    ∃ A c L, v = .slice A (List.length L) c ∧ RdS W.heap.size W A L ∧ L.length ≤ maxLen ∧ ∀ j (h : j < L.length), (L[j]).length ≤ maxLen := by
  obtain ⟨a0, len0, cap0, rfl⟩ := hv
  obtain ⟨fuel, hf⟩ := hd
  rcases open_slice Tryd.underlying23 hf with ⟨hcs, _⟩ | ⟨a, len, cap, m, n, D, Pl, hcs, _, hl, hm, hmm, _, hx⟩
  · simp [Value.cells] at hcs
    obtain ⟨rfl, rfl, rfl⟩ := hcs
    exact ⟨none, 0, [], rfl, fun j h => by simp at h, by simp, fun j h => by simp at h⟩
  · simp [Value.cells] at hcs
    obtain ⟨rfl, rfl, rfl⟩ := hcs
    simp at hmm
    subst hmm
    have each : ∀ i, i < m → ∃ q : ByteArray, W.cell? (a.add (i * 1)) = some (.string q) ∧ q.size ≤ maxLen := fun i hi => by
      obtain ⟨cs', h1, h2⟩ := hx i hi
      rw [cellsOfS] at h1
      obtain ⟨_, hlen, hcell⟩ := World.cells?_some h1
      match cs', hlen with
      | [v0], _ =>
        have e0 := hcell 0 (by omega)
        obtain ⟨z0, q0, _, s0⟩ := DataW.trod_string Tryd.underlying9 h2
        simp at q0
        have : (a.add (i * 1)).add 0 = a.add (i * 1) := by rw [add_add]; rfl
        rw [this] at e0
        exact ⟨z0, by simpa [q0] using e0, s0⟩
    obtain ⟨f, hfx⟩ := choose_lt each
    have hlen : ((List.range len0).map fun i => (f i).data.toList).length = len0 := by simp
    refine ⟨some a, m, (List.range len0).map fun i => (f i).data.toList, by rw [hlen], fun j hj => ?_, by rw [hlen]; omega, fun j hj => ?_⟩
    · rw [hlen] at hj
      obtain ⟨b, o, sp⟩ := a
      have hsp : sp = none := by
        have h0 := (hfx 0 (by omega)).1
        simpa [Addr.add] using World.cell?_spot h0
      subst hsp
      obtain ⟨c0, _⟩ := hfx j (by omega)
      have a0 : Addr.add ⟨b, o, none⟩ (j * 1) = ⟨b, o + j, none⟩ := by unfold Addr.add; split <;> simp_all
      rw [a0] at c0
      exact ⟨b, o, rfl, World.block_lt_of_cell? _ _ c0, by simpa using c0⟩
    · rw [hlen] at hj
      have h9 := (hfx j (by omega)).2
      rw [List.getElem_map, List.getElem_range, Array.length_toList]
      exact h9
end Go.Proofs.YtfpchfmjgjlelaaDoor.W
