
/-
  The walks of TreUnder, of the program and of the specification: the files that lie under a path, in new memory. At most 1048576 files, texts of at most 1048576 bytes.
-/
import Derived.Test.YtbceegonaomblaaRowF
import Derived.Test.YtbceegonaomblaaMathNew
import Derived.Test.YtbceegonaomblaaWalkPth3
namespace Go.Proofs.Ytbceegonaomblaa.W
open Go.RowKit Go.Proofs.Ytbceegonaomblaa.M

def undF (L : List TF) (p : ByteArray) : List TF := L.filter fun x => undB p.data.toList x.pa.data.toList
theorem undF_take (L : List TF) (p : ByteArray) (j : Nat) (h : j < L.length) : undF (L.take (j + 1)) p = undF (L.take j) p ++ (if undB p.data.toList (L[j]).pa.data.toList = true then [L[j]] else []) := by
  unfold undF
  rw [List.take_succ_eq_append_getElem h, List.filter_append]
  congr 1
  cases e : undB p.data.toList (L[j]).pa.data.toList <;> simp [e]
theorem undF_len (L : List TF) (p : ByteArray) (j : Nat) : (undF (L.take j) p).length ≤ j := by
  unfold undF
  refine Nat.le_trans (List.length_filter_le _ _) ?_
  simp; omega

set_option maxHeartbeats 1000000 in
theorem treUnder_spec (A : Option Addr) (c : Nat) (L : List TF) (p : ByteArray) (w : World) (hL : RdF w.heap.size w A L) (hn : L.length ≤ 1048576) (hp : p.size ≤ 1048576) (ht : ∀ j (h : j < L.length), (L[j]).pa.size ≤ 1048576) :
    Calls Try.prog 9 #[.slice A L.length c, .string p] w fun e w' => (∃ v, e = .returned v ∧ w'.ownsRow w.heap.size 51 2 v (undF L p).length (cellsF (undF L p))) ∧ Below w.heap.size w w' := by
  have HL : Hid (RdF w.heap.size w A L) := hL
  have HT : Hid (∀ j (h : j < L.length), (L[j]).pa.size ≤ 1048576) := ht
  clear hL ht
  obtain ⟨i0, hi, hz0, hz1, hz2⟩ := info_parts infoF
  go_enter Try.func9, Try.ntmps9
  go_wp2
  go_loopw [5, 6] (fun v iv wr => ∃ (j : Nat) (M : List TF), j ≤ L.length ∧ iv = .int .i64 j ∧ Hid (M = undF (L.take j) p) ∧ M.length ≤ j ∧ wr.ownsRow w.heap.size 51 2 v M.length (cellsF M) ∧ Below w.heap.size w wr) (fun _ i _ => L.length - (intOf i).toNat)
  case atStart => exact ⟨0, [], Nat.zero_le _, rfl, rfl, Nat.le_refl _, World.ownsRow_lit w #[] 0 (Nat.le_refl _) (by unfold maxLen; omega) rfl, (Below.refl _ _).alloc (Nat.le_refl _) _⟩
  case round =>
    obtain ⟨j, M, hj, rfl, HM, hm, hown, hb⟩ := hrel
    have hsz := hb.size
    by_cases hlt : j < L.length
    · obtain ⟨b, o, rfl, hbl, c1, c2⟩ := (HL.out.below hb (Nat.le_refl _)) j hlt
      have est := undF_take L p j hlt
      have hpx := HT.out j hlt
      rw [← HM.out] at est
      obtain ⟨x, hx⟩ : ∃ x, L[j] = x := ⟨_, rfl⟩
      rw [hx] at est c1 c2 hpx
      obtain ⟨q, t⟩ := x
      simp only at est c1 c2 hpx
      cases hu : undB p.data.toList q.data.toList
      · rw [hu, if_neg (by decide), List.append_nil] at est
        have HE : Hid (M = undF (L.take (j + 1)) p) := est.symm
        have HU : Hid (undB p.data.toList q.data.toList = false) := hu
        clear est hu HM hx
        go_wp2_with (go_at_call 28; refine (under_spec p q _ hp hpx).mono ?_; rw [HU.out]; rintro e w1 ⟨rfl, hb1⟩)
        go_roundw
        case rel => exact ⟨j + 1, M, by omega, by go_num, HE, by omega, ownsUnder hown hb1 (Nat.le_refl _), hb.trans (hb1.mono (by omega))⟩
        case measure => simp [intOf]; omega
      · rw [hu, if_pos rfl] at est
        have HE : Hid (M ++ [⟨q, t⟩] = undF (L.take (j + 1)) p) := est.symm
        have HU : Hid (undB p.data.toList q.data.toList = true) := hu
        clear est hu HM hx
        go_wp2_with (first | (go_at_call 28; refine (under_spec p q _ hp hpx).mono ?_; rw [HU.out]; rintro e w1 ⟨rfl, hb1⟩; replace hown := ownsUnder hown hb1 (Nat.le_refl _); have hz1' := hb1.size; replace c1 := (hb1.cell (p := ⟨b, _, none⟩) (by show b < _; omega)).trans c1; replace c2 := (hb1.cell (p := ⟨b, _, none⟩) (by show b < _; omega)).trans c2; replace hb := hb.trans (hb1.mono (by omega)); clear hb1) | (at_builtin; refine wpList_append_own _ rfl _ _ 23 rfl w.heap.size 51 i0 (.agg #[.string ByteArray.empty, .string ByteArray.empty]) 2 32 Try.underlying23 hi hz0 hz1 hz2 rfl (by decide) _ _ _ rfl (hown.alloc _) ⟨w1.heap.size, 0, none⟩ 1 1 [.string q, .string t] rfl rfl (cells_new _ #[.string q, .string t] _) (fun u hu => by simp at hu; rcases hu with rfl | rfl <;> rfl) (by unfold maxLen; omega) (by omega) (by simp; omega) ?_; intro v' w3 hown' hgrow3 hnil3))
        go_roundw
        case rel =>
          refine ⟨j + 1, M ++ [⟨q, t⟩], by omega, by go_num, HE, by simp; omega, ?_, ?_⟩
          · rw [cellsF_snoc, List.length_append]; exact hown'
          · exact growOwn (hb.alloc (by omega) _) (by simp; omega) (hown.alloc _) hgrow3 (Nat.le_refl _)
        case measure => simp [intOf]; omega
    · go_wp2
      go_ret
      obtain rfl : j = L.length := by omega
      have e := HM.out
      rw [List.take_length] at e
      rw [e] at hown
      exact ⟨⟨_, rfl, hown⟩, hb⟩

set_option maxHeartbeats 1000000 in
theorem treUnder_impl (A : Option Addr) (c : Nat) (L : List TF) (p : ByteArray) (w : World) (hL : RdF w.heap.size w A L) (hn : L.length ≤ 1048576) (hp : p.size ≤ 1048576) (ht : ∀ j (h : j < L.length), (L[j]).pa.size ≤ 1048576) :
    Calls Try.prog 6 #[.slice A L.length c, .string p] w fun e w' => (∃ v, e = .returned v ∧ w'.ownsRow w.heap.size 51 2 v (undF L p).length (cellsF (undF L p))) ∧ Below w.heap.size w w' := by
  have HL : Hid (RdF w.heap.size w A L) := hL
  have HT : Hid (∀ j (h : j < L.length), (L[j]).pa.size ≤ 1048576) := ht
  clear hL ht
  obtain ⟨i0, hi, hz0, hz1, hz2⟩ := info_parts infoF
  go_enter Try.func6, Try.ntmps6
  go_wp2
  go_loopw [5, 10] (fun v iv wr => ∃ (j : Nat) (M : List TF), j ≤ L.length ∧ iv = .int .i64 j ∧ Hid (M = undF (L.take j) p) ∧ M.length ≤ j ∧ wr.ownsRow w.heap.size 51 2 v M.length (cellsF M) ∧ Below w.heap.size w wr) (fun _ i _ => L.length - (intOf i).toNat)
  case atStart => exact ⟨0, [], Nat.zero_le _, rfl, rfl, Nat.le_refl _, World.ownsRow_nil _ _ _ _, Below.refl _ _⟩
  case round =>
    obtain ⟨j, M, hj, rfl, HM, hm, hown, hb⟩ := hrel
    have hsz := hb.size
    by_cases hlt : j < L.length
    · obtain ⟨b, o, rfl, hbl, c1, c2⟩ := (HL.out.below hb (Nat.le_refl _)) j hlt
      have est := undF_take L p j hlt
      have hpx := HT.out j hlt
      rw [← HM.out] at est
      obtain ⟨x, hx⟩ : ∃ x, L[j] = x := ⟨_, rfl⟩
      rw [hx] at est c1 c2 hpx
      obtain ⟨q, t⟩ := x
      simp only at est c1 c2 hpx
      cases hu : undB p.data.toList q.data.toList
      · rw [hu, if_neg (by decide), List.append_nil] at est
        have HE : Hid (M = undF (L.take (j + 1)) p) := est.symm
        have HU : Hid (undB p.data.toList q.data.toList = false) := hu
        clear est hu HM hx
        go_wp2_with (go_at_call 25; refine (under_impl p q _ hp hpx).mono ?_; rw [HU.out]; rintro e w1 ⟨rfl, hb1⟩)
        go_roundw
        case rel => exact ⟨j + 1, M, by omega, by go_num, HE, by omega, ownsUnder (hown.alloc _) hb1 (Nat.le_refl _), (hb.alloc (by omega) _).trans (hb1.mono (by simp; omega))⟩
        case measure => simp [intOf]; omega
      · rw [hu, if_pos rfl] at est
        have HE : Hid (M ++ [⟨q, t⟩] = undF (L.take (j + 1)) p) := est.symm
        have HU : Hid (undB p.data.toList q.data.toList = true) := hu
        clear est hu HM hx
        go_wp2_with (first | (go_at_call 25; refine (under_impl p q _ hp hpx).mono ?_; rw [HU.out]; rintro e w1 ⟨rfl, hb1⟩; have d1 : w1.cell? ⟨wr.heap.size, 0, none⟩ = some (.string q) := (hb1.cell (p := ⟨wr.heap.size, _, none⟩) (by simp)).trans (by simp); have d2 : w1.cell? ⟨wr.heap.size, 1, none⟩ = some (.string t) := (hb1.cell (p := ⟨wr.heap.size, _, none⟩) (by simp)).trans (by simp); replace hown := ownsUnder (hown.alloc (.cells #[.string q, .string t] 51)) hb1 (Nat.le_refl _); have hz1' := hb1.size; replace hb := (hb.alloc (by omega) (.cells #[.string q, .string t] 51)).trans (hb1.mono (by simp; omega)); replace hsz := hb.size; clear hb1) | (at_builtin; refine wpList_append_own _ rfl _ _ 23 rfl w.heap.size 51 i0 (.agg #[.string ByteArray.empty, .string ByteArray.empty]) 2 32 Try.underlying23 hi hz0 hz1 hz2 rfl (by decide) _ _ _ rfl (hown.alloc _) ⟨w1.heap.size, 0, none⟩ 1 1 [.string q, .string t] rfl rfl (cells_new _ #[.string q, .string t] _) (fun u hu => by simp at hu; rcases hu with rfl | rfl <;> rfl) (by unfold maxLen; omega) (by omega) (by simp; omega) ?_; intro v' w3 hown' hgrow3 hnil3))
        go_roundw
        case rel =>
          refine ⟨j + 1, M ++ [⟨q, t⟩], by omega, by go_num, HE, by simp; omega, ?_, ?_⟩
          · rw [cellsF_snoc, List.length_append]; exact hown'
          · exact growOwn (hb.alloc (by omega) _) (by simp; omega) (hown.alloc _) hgrow3 (Nat.le_refl _)
        case measure => simp [intOf]; omega
    · go_wp2
      go_ret
      obtain rfl : j = L.length := by omega
      have e := HM.out
      rw [List.take_length] at e
      rw [e] at hown
      exact ⟨⟨_, rfl, hown⟩, hb⟩

theorem treUnder_own {b : Nat} {e : TypeId} (v : Value) (L : List TF) (p : ByteArray) (w : World) (h : w.ownsRow b e 2 v L.length (cellsF L)) (hn : L.length ≤ 1048576) (hp : p.size ≤ 1048576) (ht : ∀ j (h : j < L.length), (L[j]).pa.size ≤ 1048576) :
    Calls Try.prog 6 #[v, .string p] w fun e w' => (∃ v, e = .returned v ∧ w'.ownsRow w.heap.size 51 2 v (undF L p).length (cellsF (undF L p))) ∧ Below w.heap.size w w' := by
  obtain ⟨A, c, rfl, rd⟩ := rdF_of_own h
  exact treUnder_impl A c L p w rd hn hp ht
theorem treUnderS_own {b : Nat} {e : TypeId} (v : Value) (L : List TF) (p : ByteArray) (w : World) (h : w.ownsRow b e 2 v L.length (cellsF L)) (hn : L.length ≤ 1048576) (hp : p.size ≤ 1048576) (ht : ∀ j (h : j < L.length), (L[j]).pa.size ≤ 1048576) :
    Calls Try.prog 9 #[v, .string p] w fun e w' => (∃ v, e = .returned v ∧ w'.ownsRow w.heap.size 51 2 v (undF L p).length (cellsF (undF L p))) ∧ Below w.heap.size w w' := by
  obtain ⟨A, c, rfl, rd⟩ := rdF_of_own h
  exact treUnder_spec A c L p w rd hn hp ht
end Go.Proofs.Ytbceegonaomblaa.W
