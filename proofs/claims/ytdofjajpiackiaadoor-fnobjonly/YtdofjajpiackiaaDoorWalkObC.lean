
/-
  The walk of the draw of an object's text; numbers held against each other; there is one way to write an object. No condition.
-/
import Derived.Test.YtdofjajpiackiaaDoorWalkDrawQ
import Derived.Test.YtdofjajpiackiaaDoorWalkObB
import Derived.Test.YtdofjajpiackiaaDoorWalkKids
namespace Go.Proofs.YtdofjajpiackiaaDoor.W
open Go.RowKit Go.Proofs.YtdofjajpiackiaaDoor.M

theorem leafB_size (b : ByteArray) (h : b.size ≤ 64) : (leafB b).size ≤ 65 := by
  by_cases h6 : b.size ≤ 6
  · rw [← leafB_yes b h6, ByteArray.size_append]
    show 1 + b.size ≤ 65
    omega
  · rw [leaf_no b h6]; decide
set_option maxRecDepth 100000 in
set_option maxHeartbeats 2000000 in
theorem text_drawn (w : World) (rb n p : Nat) (ad : Option Addr) (len cap : Nat) (zs : Nat → Int) (h : Rd w rb p ad len cap zs) (hp : p ≤ 300000) (hlt : rb < w.heap.size) (hn : 1 ≤ n) (hn2 : n ≤ 1000000) :
    Calls Tryd.prog 29 #[.pointer (some ⟨rb, 0, none⟩), .int .i64 n] w fun e w' => ∃ s : ByteArray, e = .returned (.string s) ∧ s.size ≤ 200 ∧ w.grownBy w' (some rb) := by
  go_enter Tryd.func29, Tryd.ntmps29
  go_wp2_with (first
    | (go_at_call 22; refine (bytes_any w rb p ad len cap zs h (by omega) hlt).mono ?_; rintro e w1 ⟨b, p1, rfl, hb, hp1, hR1, hg1⟩; clear h; have hz1 := hg1.size)
    | (go_at_call 9; refine (leaf_spec b _ (by unfold maxLen; omega)).mono ?_; rintro e w2 ⟨rfl, rfl⟩; obtain ⟨S, hS⟩ : ∃ S, S = leafB b := ⟨_, rfl⟩; have hSz : S.size ≤ 65 := (by rw [hS]; exact leafB_size b hb); rw [← hS]; clear hS)
    | (go_at_call 21; refine (pick_any w1 rb p1 ad len cap 2 zs hR1 (by omega) (by omega) (by omega)).mono ?_; rintro e w3 ⟨v3, hv3, rfl, hR3, hg3⟩; clear hR1; have hz3 := hg3.size; have G3 := gtrans hg1 hg3)
    | (go_at_call 24; refine (entries_any w3 rb 99 (p1 + 1) ad len cap zs hR3 (by omega) (by omega) (by omega) (by omega)).mono ?_; rintro e w4 ⟨v, L, p4, rfl, h1, h2, h3, h4, hp4, hR4, hg4⟩; have hz4 := hg4.size; have G4 := gtrans G3 hg4; obtain ⟨A, c, rfl, rd⟩ := rdO_of_own h4; have HT : Hid (∀ j (h : j < L.length), (L[j]).nm.size ≤ 1048576) := (fun j hj => (by have := h3 _ (List.getElem_mem hj); omega)))
    | (go_at_call 10; refine (sheet_spec A c L _ rd (by omega) HT.out).mono ?_; rintro e w5 ⟨rfl, hb5⟩; have hz5 := hb5.size; have hR5 := rdBelow hR4 hb5 (by omega); have G5 := gtrans G4 (bGrow hb5); obtain ⟨T, hT⟩ : ∃ T, T = shB L := ⟨_, rfl⟩; have hTz : T.size ≤ 100 := (by rw [hT]; exact shB_size L h2); rw [show (ByteArray.mk (sheetT (L.map enO)).toArray) = T from hT.symm]; clear hT)
    | (go_at_call 21; refine (pick_any w5 rb p4 ad len cap n zs hR5 (by omega) (by omega) (by omega)).mono ?_; rintro e w6 ⟨v6, hv6, rfl, hR6, hg6⟩; have hz6 := hg6.size; have G6 := gtrans G5 hg6)
    | (go_at_call 21; refine (pick_any w3 rb (p1 + 1) ad len cap n zs hR3 (by omega) (by omega) (by omega)).mono ?_; rintro e w7 ⟨v7, hv7, rfl, hR7, hg7⟩; have hz7 := hg7.size; have G7 := gtrans G3 hg7)
    | (go_at_call 37; refine (bent_any w6 rb (p4 + 1) ad len cap zs T hR6 (by omega) (by omega) (by omega)).mono ?_; rintro e w8 ⟨t, rfl, ht, hg8⟩)
    | (go_at_call 37; refine (bent_any w7 rb (p1 + 1 + 1) ad len cap zs S hR7 (by omega) (by omega) (by omega)).mono ?_; rintro e w8 ⟨t, rfl, ht, hg8⟩))
  · go_ret
    exact ⟨t, rfl, by omega, gtrans G6 hg8⟩
  · go_ret
    exact ⟨T, rfl, by omega, G6⟩
  · go_ret
    exact ⟨t, rfl, by omega, gtrans G7 hg8⟩
  · go_ret
    exact ⟨S, rfl, by omega, G7⟩
set_option maxHeartbeats 2000000 in
theorem drawObjKind_any (w : World) (a : Option Addr) (len cap : Nat) (zs : Nat → Int) (h : W.Src w a len cap zs) :
    Calls Tryd.prog 15 #[.slice a len cap] w fun e w' => ∃ s : ByteArray, e = .returned (.string s) ∧ s.size ≤ 200 ∧ Below w.heap.size w w' := by
  go_enter Tryd.func15, Tryd.ntmps15
  go_wp2_with (first
    | (go_at_call 20; refine (open_any _ a len cap zs h).mono ?_; rintro e w1 ⟨a', len', cap', rfl, hR1, hl1, hg1⟩; have B1 : Below w.heap.size w w1 := (Below.refl _ _).grown hg1 (Nat.le_refl _) (fun _ e => by cases e); clear hg1)
    | (go_at_call 29; refine (text_drawn w1 w.heap.size 2 0 a' len' cap' zs hR1 (by omega) hl1 (by omega) (by omega)).mono ?_; rintro e w2 ⟨s, rfl, hs, hg2⟩))
  go_ret
  exact ⟨s, rfl, hs, B1.grown hg2 (by omega) (fun _ e => by cases e; exact Nat.le_refl _)⟩
set_option maxHeartbeats 1000000 in
theorem chInts_same (A A' : Option Addr) (c c' : Nat) (L : List Int) (w : World) (h1 : RdI w.heap.size w A L) (h2 : RdI w.heap.size w A' L) (hn : L.length ≤ 1048576) :
    Calls Tryd.prog 18 #[.slice A L.length c, .slice A' L.length c'] w fun e w' => e = .returned (.bool true) ∧ Below w.heap.size w w' := by
  have H1 : Hid (RdI w.heap.size w A L) := h1
  have H2 : Hid (RdI w.heap.size w A' L) := h2
  clear h1 h2
  go_enter Tryd.func18, Tryd.ntmps18
  go_wp2
  go_loopw [5] (fun iv wr => ∃ j : Nat, j ≤ L.length ∧ iv = .int .i64 j ∧ Below w.heap.size w wr) (fun i _ => L.length - (intOf i).toNat)
  case atStart => exact ⟨0, Nat.zero_le _, rfl, Below.refl _ _⟩
  case round =>
    obtain ⟨j, hj, rfl, hb⟩ := hrel
    have hsz := hb.size
    by_cases hlt : j < L.length
    · obtain ⟨b, o, rfl, hbl, c1⟩ := (H1.out.below hb (Nat.le_refl _)) j hlt
      obtain ⟨b', o', rfl, hbl', c1'⟩ := (H2.out.below hb (Nat.le_refl _)) j hlt
      generalize (L[j]) = i at *
      go_wp2
      go_quiet (fail)
      go_wp2
      go_roundw
      case rel => exact ⟨j + 1, by omega, by go_num, ⟨hb.os, hb.tape, hb.output, hb.size, hb.block⟩⟩
      case measure => simp [intOf]; omega
    · go_wp2
      go_ret
      exact ⟨rfl, hb⟩
theorem only_leaf (s : ByteArray) (h : kd s = 1) : leafB (byB s) = s := by
  have hb := byB_yes s h
  unfold kd at h
  split at h
  · rename_i h1
    split at h
    · rename_i h2
      rw [hb, ← leafB_yes _ h2, ← list_eq_iff']
      rw [show (ByteArray.mk #[76] ++ restB s).data.toList = 76 :: (restB s).data.toList by simp, rest_dat]
      exact (st_cons s 76 h1).symm
    · cases h
  · split at h
    · split at h <;> cases h
    · cases h
theorem only_sheet (s : ByteArray) (h : kd s = 2) : shB (enL s) = s := by
  have h1 : stB s 83 = true := by
    cases q : stB s 83 with
    | true => rfl
    | false => exact absurd h (kd_ne s (.inl q))
  cases he : sheetI (s.data.toList.drop 1) with
  | none => exact absurd h (kd_ne s (.inr he))
  | some es =>
    have hen : enL s = es.map oeOf := by unfold enL; rw [if_pos h, he]; rfl
    have hm : (enL s).map enO = es := by rw [hen, List.map_map]; conv => rhs; rw [← List.map_id es]
                                         exact List.map_congr_left fun x _ => en_oe x
    obtain ⟨h2, h3⟩ := (sheetI_iff _ _).1 he
    rw [← list_eq_iff']
    unfold shB sheetT
    rw [hm, if_pos h2, h3]
    exact (st_cons s 83 h1).symm
end Go.Proofs.YtdofjajpiackiaaDoor.W
