/-
  Rows that a call has made, beside each other: what a row keeps while another one is written. No condition.
  The walk of the program's readSheet. Texts of at most 1048576 bytes.
  The walk of the program's readLeaf. Texts of at most 4194304 bytes.
-/
import Derived.Test.YthfffpdkmoclbaaGreatDoorMg07
import Derived.Test.YthfffpdkmoclbaaGreatDoorMg24
import Derived.Test.YthfffpdkmoclbaaGreatDoorMg25
import Derived.Test.YthfffpdkmoclbaaGreatDoorMg14
import Derived.Test.YthfffpdkmoclbaaGreatDoorMg01
import Derived.Below
namespace Go.Proofs.YthfffpdkmoclbaaGreatDoor.W
open Go.RowKit
theorem keptLo {w w' : World} {b0 B n n1 z z1 : Nat} {e e1 : TypeId} {v0 v1 : Value} {xs xs1 : List Value} (o0 : w.ownsRow b0 e z v0 n xs) (s : ∀ k, v0.ownBlock = some k → k < B) (o1 : w.ownsRow B e1 z1 v1 n1 xs1) (hg : w.grownBy w' v1.ownBlock) : w'.ownsRow b0 e z v0 n xs := by
  refine o0.kept hg ?_
  cases h : v0.ownBlock with
  | none => exact .inl rfl
  | some k => exact .inr fun e => by have := s k h; have := (o1.lt k e.symm).1; omega
theorem keptHi {w w' : World} {b1 B n n1 z z1 : Nat} {e e1 : TypeId} {v0 v1 : Value} {xs xs1 : List Value} (o0 : w.ownsRow B e z v0 n xs) (_o1 : w.ownsRow b1 e1 z1 v1 n1 xs1) (s : ∀ k, v1.ownBlock = some k → k < B) (hg : w.grownBy w' v1.ownBlock) : w'.ownsRow B e z v0 n xs := by
  refine o0.kept hg ?_
  cases h : v0.ownBlock with
  | none => exact .inl rfl
  | some k => exact .inr fun e => by have := (o0.lt k h).1; have := s k e.symm; omega
theorem ownsLt {w : World} {b n z : Nat} {e : TypeId} {v : Value} {xs : List Value} (o : w.ownsRow b e z v n xs) : ∀ k, v.ownBlock = some k → k < w.heap.size := fun k h => (o.lt k h).2
end Go.Proofs.YthfffpdkmoclbaaGreatDoor.W
namespace Go.Proofs.YthfffpdkmoclbaaGreatDoor.W
open Go.RowKit Go.Proofs.YthfffpdkmoclbaaGreatDoor.M

def szV : Value → Nat
  | .string b => b.size
  | _ => 0
def oeOf (x : En) : OE := ⟨⟨x.nm.toArray⟩, x.sh, x.id⟩
theorem en_oe (x : En) : enO (oeOf x) = x := by simp [enO, oeOf]
theorem ownsUpO {w : World} {base base' n z : Nat} {e : TypeId} {v : Value} {xs : List Value} (h : w.ownsRow base e z v n xs) (hb : base' ≤ base) : w.ownsRow base' e z v n xs := by
  refine ⟨h.1, ?_⟩
  rcases h.2 with h1 | ⟨g, cap, cur, h1, h2, h3⟩
  · exact .inl h1
  · exact .inr ⟨g, cap, cur, h1, by omega, h3⟩
theorem AtC.kept {w w' : World} {b : Nat} {cs : Array Value} {row : Option Nat} (h : AtC w b cs) (hg : w.grownBy w' row) (hl : b < w.heap.size) (hne : row ≠ some b) : AtC w' b cs := by
  have hb : w'.heap[b]? = w.heap[b]? := hg.block b hl (fun e => hne e.symm)
  exact ⟨fun j u hj => (World.cell?_of_block (w := w) (a := ⟨b, j, none⟩) hb).trans (h.1 j u hj), fun j => (World.frozen?_of_block (w := w) (a := ⟨b, j, none⟩) hb).trans (h.2 j)⟩

/-- what readSheet answers -/
def ShAns (l : List UInt8) (B : Nat) (w' : World) (e : Ending) : Prop :=
  (∃ m : ByteArray, e = .returned (.tuple #[.agg #[.slice none 0 0], .iface 159 (.agg #[.string m])]) ∧ sheetI l = none) ∨
  (∃ (A : Option Addr) (c : Nat) (L : List OE), e = .returned (.tuple #[.agg #[.slice A L.length c], .nilIface]) ∧ sheetI l = some (L.map enO) ∧ w'.ownsRow B 90 3 (.slice A L.length c) L.length (cellsO L))

set_option maxRecDepth 100000 in
set_option maxHeartbeats 4000000 in
theorem readSheet_any (s : ByteArray) (w : World) (hs : s.size ≤ 1048576) :
    Calls Tryz.prog 142 #[.string s] w fun e w' => ShAns s.data.toList w.heap.size w' e ∧ Below w.heap.size w w' := by
  obtain ⟨i0, hi, hz0, hz1, hz2⟩ := info_parts infoO
  obtain ⟨w0, HW, B, H, G, GLT⟩ : ∃ w0, Hid ((w.alloc (.cells #[.slice none 0 0] 128)).alloc (.cells #[.slice none 0 0] 128) = w0) ∧ Below w.heap.size w w0 ∧ AtC w0 w.heap.size #[.slice none 0 0] ∧ AtC w0 (w.heap.size + 1) #[.slice none 0 0] ∧ w.heap.size + 1 < w0.heap.size := by
    refine ⟨_, rfl, ((Below.refl _ w).alloc (Nat.le_refl _) _).alloc (by simp) _, (atC_new w _ _).alloc (by simp) _, ?_, by simp⟩
    have := atC_new (w.alloc (.cells #[.slice none 0 0] 128)) #[.slice none 0 0] 128
    simpa using this
  go_enter Tryz.func142, Tryz.ntmps142
  go_wp2
  go_loopw [0] (fun sv wr => ∃ (r : ByteArray) (L : List OE) (A : Option Addr) (c : Nat), sv = .string r ∧ r.size + 9 * L.length ≤ s.size ∧ Hid (parse s.data.toList = (parse r.data.toList).map (L.map enO ++ ·)) ∧ Hid (∀ j (h : j < L.length), (L[j]).nm.size ≤ 1048576) ∧ wr.ownsRow (w.heap.size + 1 + 1) 90 3 (.slice A L.length c) L.length (cellsO L) ∧ AtC wr w.heap.size #[.slice none 0 0] ∧ AtC wr (w.heap.size + 1) #[.slice A L.length c] ∧ w.heap.size + 1 < wr.heap.size ∧ Below w.heap.size w wr) (fun sv _ => szV sv)
  case atStart =>
    have e := HW.out
    simp only [e]
    exact ⟨s, [], none, 0, rfl, by simp, by show _ = _; simp, (show ∀ j (h : j < ([] : List OE).length), _ from fun j h => by simp at h), World.ownsRow_nil _ _ _ _, H, G, GLT, B⟩
  case round =>
    clear B H G GLT HW
    obtain ⟨r, L, A, c, rfl, hsz, HP, HN, hown, H, G, GLT, B⟩ := hrel
    have r0 : wr.cell? ⟨w.heap.size, 0, none⟩ = some (.slice none 0 0) := H.1 0 _ rfl
    have f0 : wr.frozen? ⟨w.heap.size, 0, none⟩ = false := H.2 0
    have g0 : wr.cell? ⟨w.heap.size + 1, 0, none⟩ = some (.slice A L.length c) := G.1 0 _ rfl
    have gf0 : wr.frozen? ⟨w.heap.size + 1, 0, none⟩ = false := G.2 0
    have HLT : w.heap.size < wr.heap.size := by omega
    by_cases he : r.data.toList = []
    · have z1 : r.toList.isEmpty = true := by rw [Lib.toList_data, he]; rfl
      have HB : Hid (sheetI s.data.toList = if okL (L.map enO) = true then some (L.map enO) else none) := by
        show _ = _
        rw [sheetI_parse, HP.out, he, parse_nil]; simp
      have rd : RdO wr.heap.size wr A L := by
        obtain ⟨A2, c2, e2, rd⟩ := rdO_of_own hown
        cases e2; exact rd
      have hq := fun w' h => sheetOk_any A c L w' h (by omega) HN.out
      cases hk : okL (L.map enO)
      · rw [hk] at hq
        have HB' : Hid (sheetI s.data.toList = none) := by show _ = _; rw [HB.out, hk]; rfl
        go_wp2_with (go_at_call 160; refine (hq _ rd).mono ?_; rintro e w1 ⟨rfl, hb⟩; clear r0 f0 g0 gf0; replace H := H.up hb HLT; replace G := G.up hb GLT; replace HLT := Nat.lt_of_lt_of_le HLT hb.size; replace B := B.trans (hb.mono B.size); have r0 : w1.cell? ⟨w.heap.size, 0, none⟩ = some (.slice none 0 0) := H.1 0 _ rfl; have f0 : w1.frozen? ⟨w.heap.size, 0, none⟩ = false := H.2 0; have g0 : w1.cell? ⟨w.heap.size + 1, 0, none⟩ = some (.slice A L.length c) := G.1 0 _ rfl)
        have k0 := (H.own 0 (.slice none 0 0)).1 0 _ rfl
        refine bodyPost_ret (v := .tuple #[.agg #[.slice none 0 0], .iface 159 (.agg #[.string _])]) (by simp [results, Tryz.results142, go_sem, k0]; rfl) rfl ?_
        exact ⟨.inl ⟨_, rfl, HB'.out⟩, B.setCell (p := ⟨w.heap.size, 0, none⟩) (Nat.le_refl _) _⟩
      · rw [hk] at hq
        have HB' : Hid (sheetI s.data.toList = some (L.map enO)) := by show _ = _; rw [HB.out, hk]; rfl
        go_wp2_with (go_at_call 160; refine (hq _ rd).mono ?_; rintro e w1 ⟨rfl, hb⟩; clear r0 f0 g0 gf0; replace H := H.up hb HLT; replace G := G.up hb GLT; replace HLT := Nat.lt_of_lt_of_le HLT hb.size; replace hown := ownsUnder hown hb (Nat.le_refl _); replace B := B.trans (hb.mono B.size); have r0 : w1.cell? ⟨w.heap.size, 0, none⟩ = some (.slice none 0 0) := H.1 0 _ rfl; have f0 : w1.frozen? ⟨w.heap.size, 0, none⟩ = false := H.2 0; have g0 : w1.cell? ⟨w.heap.size + 1, 0, none⟩ = some (.slice A L.length c) := G.1 0 _ rfl)
        have k0 := (H.own 0 (.slice A L.length c)).1 0 _ rfl
        refine bodyPost_ret (v := .tuple #[.agg #[.slice A L.length c], .nilIface]) (by simp [results, Tryz.results142, go_sem, k0]) rfl ?_
        exact ⟨.inr ⟨A, c, L, rfl, HB'.out, ownsUpO (ownsRow_setCell_below hown (a := ⟨w.heap.size, 0, none⟩) (by simp; omega) _) (by omega)⟩, B.setCell (p := ⟨w.heap.size, 0, none⟩) (Nat.le_refl _) _⟩
    · have z1 : r.toList.isEmpty = false := by rw [Lib.toList_data]; simpa using he
      have hc := fun w => cutE_any r w (by omega)
      cases hcut : cutL r.data.toList with
      | none =>
        have HB : Hid (sheetI s.data.toList = none) := by
          show _ = _
          rw [sheetI_parse, HP.out, parse_bad _ he hcut]; rfl
        rw [hcut] at hc
        go_wp2_with (go_at_call 159; refine (hc _).mono ?_; rintro e w1 ⟨⟨m, rfl⟩, hb⟩; clear r0 f0 g0 gf0; replace H := H.up hb HLT; replace HLT := Nat.lt_of_lt_of_le HLT hb.size; replace B := B.trans (hb.mono B.size); have r0 : w1.cell? ⟨w.heap.size, 0, none⟩ = some (.slice none 0 0) := H.1 0 _ rfl; have f0 : w1.frozen? ⟨w.heap.size, 0, none⟩ = false := H.2 0)
        have k0 := ((H.own 0 (.slice none 0 0)).alloc (by simpa using HLT) (.cells #[.string ⟨#[]⟩, .bool false, .int .i64 0] 90)).1 0 _ rfl
        refine bodyPost_ret (v := .tuple #[.agg #[.slice none 0 0], .iface 159 (.agg #[.string m])]) (by simp [results, Tryz.results142, go_sem, k0]) rfl ?_
        exact ⟨.inl ⟨m, rfl, HB.out⟩, (B.setCell (p := ⟨w.heap.size, 0, none⟩) (Nat.le_refl _) _).alloc (by simpa using Nat.le_of_lt HLT) _⟩
      | some x =>
        obtain ⟨x, r'⟩ := x
        obtain ⟨hl1, hl2⟩ := cut_len _ _ _ hcut
        rw [size_dat] at hl1 hl2
        have HP' : Hid (parse s.data.toList = (parse r').map ((L ++ [oeOf x]).map enO ++ ·)) := by
          show _ = _
          rw [HP.out, parse_cut _ he _ _ hcut]
          cases parse r' <;> simp [en_oe]
        have HN' : Hid (∀ j (h : j < (L ++ [oeOf x]).length), ((L ++ [oeOf x])[j]).nm.size ≤ 1048576) := fun j h => by
          by_cases hj : j < L.length
          · rw [List.getElem_append_left hj]; exact HN.out j hj
          · rw [List.getElem_append_right (by omega)]
            simp [oeOf, ByteArray.size]
            omega
        rw [hcut] at hc
        have hLl : L.length ≤ 1048576 := by omega
        go_wp2_with (first
          | (go_at_call 159; refine (hc _).mono ?_; rintro e w1 ⟨rfl, hb⟩; clear r0 f0 g0 gf0; replace H := H.up hb HLT; replace G := G.up hb GLT; replace HLT := Nat.lt_of_lt_of_le HLT hb.size; replace GLT := Nat.lt_of_lt_of_le GLT hb.size; replace hown := ownsUnder hown hb (Nat.le_refl _); replace B := B.trans (hb.mono B.size); clear hb; have g0 : w1.cell? ⟨w.heap.size + 1, 0, none⟩ = some (.slice A L.length c) := G.1 0 _ rfl; have gf0 : w1.frozen? ⟨w.heap.size + 1, 0, none⟩ = false := G.2 0)
          | (at_builtin; refine wpList_append_own _ rfl _ _ 81 rfl (w.heap.size + 1 + 1) 90 i0 (.agg #[.string ByteArray.empty, .bool false, .int .i64 0]) 3 32 Tryz.underlying81 hi hz0 hz1 hz2 rfl (by decide) _ _ _ rfl ((hown.alloc _).alloc _) ⟨w1.heap.size + 1, 0, none⟩ 1 1 [.string ⟨x.nm.toArray⟩, .bool x.sh, .int .i64 x.id] rfl rfl (cells_new' _ #[.string ⟨x.nm.toArray⟩, .bool x.sh, .int .i64 x.id] _ _ (by simp)) (fun u hu => by simp at hu; rcases hu with rfl | rfl | rfl <;> rfl) (by unfold maxLen; omega) (by omega) (by simp; omega) ?_; intro v' w3 hown' hgrow3 _; have hlt3 := hgrow3.size; simp at hlt3; obtain ⟨A', c', rfl, _⟩ := rdO_of_own (L := L ++ [oeOf x]) (by simpa [cellsO_snoc, oeOf] using hown'); clear g0 gf0; replace G := ((G.alloc GLT _).alloc (by simp; omega) _).kept hgrow3 (by simp; omega) (fun e => by have := (hown.lt _ e).1; omega); replace H := ((H.alloc HLT _).alloc (by simp; omega) _).kept hgrow3 (by simp; omega) (fun e => by have := (hown.lt _ e).1; omega); have g0 : w3.cell? ⟨w.heap.size + 1, 0, none⟩ = some (.slice A L.length c) := G.1 0 _ rfl; have gf0 : w3.frozen? ⟨w.heap.size + 1, 0, none⟩ = false := G.2 0))
        have B3 : Below w.heap.size w w3 := growOwn ((B.alloc B.size (.cells #[.string ⟨x.nm.toArray⟩, .bool x.sh, .int .i64 x.id] 90)).alloc (by have := B.size; simp; omega) (.cells #[.string ⟨x.nm.toArray⟩, .bool x.sh, .int .i64 x.id] 90)) (by have := B.size; simp; omega) ((hown.alloc _).alloc _) hgrow3 (by omega)
        go_roundw
        case rel =>
          refine ⟨⟨r'.toArray⟩, L ++ [oeOf x], A', c', rfl, by rw [size_of]; simp; omega, by show _ = _; rw [mk_dat]; exact HP'.out, HN', ?_, H.set (by omega), ?_, by simp; omega, B3.setCell (p := ⟨w.heap.size + 1, 0, none⟩) (show w.heap.size ≤ w.heap.size + 1 by omega) _⟩
          · exact ownsRow_setCell_below (by simpa [cellsO_snoc, oeOf] using hown') (a := ⟨w.heap.size + 1, 0, none⟩) (show w.heap.size + 1 < w.heap.size + 1 + 1 by omega) _
          · simpa using G.own 0 (.slice A' (L.length + 1) c')
        case measure => simp [szV]; rw [size_of]; omega
end Go.Proofs.YthfffpdkmoclbaaGreatDoor.W
namespace Go.Proofs.YthfffpdkmoclbaaGreatDoor.W
open Go.RowKit

theorem leafOk_r (s : ByteArray) (w : World) (hs : s.size ≤ 4194304) :
    Calls Tryz.prog 158 #[.agg #[.string s]] w fun e w' => e = .returned (.bool (decide (s.size ≤ 6))) ∧ Below w.heap.size w w' := by
  go_enter Tryz.func158, Tryz.ntmps158
  go_wp2
  go_ret
  exact ⟨ret_bool (by rw [Bool.eq_iff_iff]; simp; omega), (Below.refl _ _).alloc (Nat.le_refl _) _⟩

set_option maxRecDepth 100000 in
set_option maxHeartbeats 1000000 in
theorem readLeaf_yes (s : ByteArray) (w : World) (h : s.size ≤ 6) :
    Calls Tryz.prog 141 #[.string s] w fun e w' => e = .returned (.tuple #[.agg #[.string s], .nilIface]) ∧ Below w.heap.size w w' := by
  have hd : decide (s.size ≤ 6) = true := decide_eq_true h
  have hq := fun w' => leafOk_r s w' (by omega)
  rw [hd] at hq
  go_enter Tryz.func141, Tryz.ntmps141
  go_wp2_with (go_at_call 158; refine (hq _).mono ?_; rintro e w1 ⟨rfl, hb1⟩; have c0 : w1.cell? ⟨w.heap.size, 0, none⟩ = some (.string ⟨#[]⟩) := (hb1.cell (p := ⟨w.heap.size, _, none⟩) (by simp; omega)).trans (by simp); have c1 : w1.cell? ⟨w.heap.size + 1, 0, none⟩ = some (.string s) := (hb1.cell (p := ⟨w.heap.size + 1, _, none⟩) (by simp)).trans (by simp); have f0 : w1.frozen? ⟨w.heap.size, 0, none⟩ = false := (hb1.frozen (p := ⟨w.heap.size, _, none⟩) (by simp; omega)).trans (by simp))
  refine bodyPost_ret (v := .tuple #[.agg #[.string s], .nilIface]) (by simp [results, Tryz.results141, go_sem, c0]) rfl ?_
  exact ⟨rfl, ((((Below.refl _ _).alloc (Nat.le_refl _) _).alloc (by simp) _).trans (hb1.mono (by simp; omega))).setCell (p := ⟨w.heap.size, 0, none⟩) (Nat.le_refl _) _⟩

set_option maxRecDepth 100000 in
set_option maxHeartbeats 1000000 in
theorem readLeaf_no (s : ByteArray) (w : World) (hs : s.size ≤ 4194304) (h : ¬ s.size ≤ 6) :
    Calls Tryz.prog 141 #[.string s] w fun e w' => (∃ m : ByteArray, e = .returned (.tuple #[.agg #[.string ⟨#[]⟩], .iface 159 (.agg #[.string m])])) ∧ Below w.heap.size w w' := by
  have hd : decide (s.size ≤ 6) = false := decide_eq_false h
  have hq := fun w' => leafOk_r s w' hs
  rw [hd] at hq
  go_enter Tryz.func141, Tryz.ntmps141
  go_wp2_with (go_at_call 158; refine (hq _).mono ?_; rintro e w1 ⟨rfl, hb1⟩; have c0 : w1.cell? ⟨w.heap.size, 0, none⟩ = some (.string ⟨#[]⟩) := (hb1.cell (p := ⟨w.heap.size, _, none⟩) (by simp; omega)).trans (by simp); have f0 : w1.frozen? ⟨w.heap.size, 0, none⟩ = false := (hb1.frozen (p := ⟨w.heap.size, _, none⟩) (by simp; omega)).trans (by simp))
  refine bodyPost_ret (v := .tuple #[.agg #[.string ⟨#[]⟩], .iface 159 (.agg #[.string _])]) (by simp [results, Tryz.results141, go_sem, c0]; rfl) rfl ?_
  exact ⟨⟨_, rfl⟩, ((((Below.refl _ _).alloc (Nat.le_refl _) _).alloc (by simp) _).trans (hb1.mono (by simp; omega))).setCell (p := ⟨w.heap.size, 0, none⟩) (Nat.le_refl _) _⟩
end Go.Proofs.YthfffpdkmoclbaaGreatDoor.W
