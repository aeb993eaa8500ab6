
/-
  TreDiffers of the program. At most 1048576 files in all, paths as long. (Written by gendifi.py.)
-/
import Derived.Test.YtbceegonaomblaaMathTDi
import Derived.Test.YtbceegonaomblaaWalkDifF
import Derived.Test.YtbceegonaomblaaWalkRis
namespace Go.Proofs.Ytbceegonaomblaa.W
open Go.RowKit Go.Proofs.Ytbceegonaomblaa.M Go.MapKept Go.ChangeMaps
set_option linter.unusedVariables false

theorem mapBelow {w w' : World} {b n : Nat} {D : DataW Unit} (h : w.ownsMap Try.prog 9 fileElem b n D) (hb : Below w.heap.size w w') : w'.ownsMap Try.prog 9 fileElem b n D :=
  h.kept (row := none) ⟨hb.os, hb.tape, hb.output, hb.size, fun j hj _ => hb.block j hj⟩ (by simp)
theorem cellsTwo (w : World) (q : ByteArray) (o1 o2 : Obj) : ∀ j u, [Value.string q][j]? = some u → (((w.alloc o1).alloc o2).alloc (.cells #[.string q] 9)).cell? ((⟨w.heap.size + 1 + 1, 0, none⟩ : Addr).add j) = some u := by
  have e : w.heap.size + 1 + 1 = ((w.alloc o1).alloc o2).heap.size := by simp
  rw [e]
  exact cell_one_new _ _ _
theorem str_self (q : ByteArray) : Value.string q = Value.string ⟨q.data.toList.toArray⟩ := by cases q; simp

set_option maxRecDepth 100000 in
set_option maxHeartbeats 4000000 in
theorem treDiffers_impl (A A' : Option Addr) (c c' : Nat) (L K : List TF) (w : World) (hL : RdF w.heap.size w A L) (hK : RdF w.heap.size w A' K) (hn : L.length + K.length ≤ 1048576) (ht : ∀ j (h : j < L.length), (L[j]).pa.size ≤ 1048576) (hk : ∀ j (h : j < K.length), (K[j]).pa.size ≤ 1048576) :
    Calls Try.prog 19 #[.slice A L.length c, .slice A' K.length c'] w fun e w' => (∃ v, e = .returned v ∧ w'.ownsRow w.heap.size 9 1 v (namesB (rawA L K ++ rawB L K)).length (strs (namesB (rawA L K ++ rawB L K)))) ∧ Below w.heap.size w w' := by
  obtain ⟨i0, hi, hz0, hz1, hz2⟩ := info_parts info9
  have law := Maps.string_keyed (P := Try.prog) Try.underlying9
  have HL : Hid (RdF w.heap.size w A L) := hL
  have HK : Hid (RdF w.heap.size w A' K) := hK
  have HT : Hid (∀ j (h : j < L.length), (L[j]).pa.size ≤ 1048576) := ht
  have HU : Hid (∀ j (h : j < K.length), (K[j]).pa.size ≤ 1048576) := hk
  clear hL hK ht hk
  have tk1 : True := trivial
  go_enter Try.func19, Try.ntmps19
  go_wp2_with (first
    | (go_at_call 38; have _t := tk1; refine (firstFiles_any A c L _ HL.out (by omega) HT.out).mono ?_; rintro e w1 ⟨bA, DA, rfl, mA, iA, hbA, hb1⟩; clear _t tk1; have HA : Hid (mapInv DA L) := iA; clear iA; have hz1' := hb1.size)
    | (go_at_call 38; refine (firstFiles_any A' c' K _ ((HK.out.below hb1 (Nat.le_refl _)).mono hz1') (by omega) HU.out).mono ?_; rintro e w2 ⟨bB, DB, rfl, mB, iB, hbB, hb2⟩; have HB : Hid (mapInv DB K) := iB; clear iB; replace mA := mapBelow mA hb2; have HW : Hid (Below w.heap.size w w2) := hb1.trans (hb2.mono hz1'); have hz2' := HW.out.size; clear hb1 hb2 hz1'))
  have HL2 : Hid (RdF w.heap.size w2 A L) := HL.out.below HW.out (Nat.le_refl _)
  have HK2 : Hid (RdF w.heap.size w2 A' K) := HK.out.below HW.out (Nat.le_refl _)
  have lA := mA.lt
  have lB := mB.lt
  have HMA : Hid (w2.ownsMap Try.prog 9 fileElem bA L.length DA) := mA
  have HMB : Hid (w2.ownsMap Try.prog 9 fileElem bB K.length DB) := mB
  clear mA mB HL HK hbA hbB
  go_loopw [7, 22] (fun v iv wr => ∃ (j : Nat) (M : List (List UInt8)), j ≤ L.length ∧ iv = .int .i64 j ∧ Hid (M = rawA (L.take j) K) ∧ M.length ≤ j ∧ wr.ownsRow w2.heap.size 9 1 v M.length (strs M) ∧ Below w2.heap.size w2 wr) (fun _ i _ => L.length - (intOf i).toNat)
  case atStart => exact ⟨0, [], Nat.zero_le _, rfl, rfl, Nat.le_refl _, World.ownsRow_nil _ _ _ _, Below.refl _ _⟩
  case round =>
    obtain ⟨j, M, hj, rfl, HM, hm, hown, hb⟩ := hrel
    have hsz := hb.size
    by_cases hlt : j < L.length
    · obtain ⟨b, o, rfl, hbl, c1, c2⟩ := (HL2.out.below hb hz2') j hlt
      have hpx := HT.out j hlt
      have hst := rawA_step L K j hlt
      have mB := mapBelow HMB.out hb
      obtain ⟨x, hx⟩ : ∃ x, L[j] = x := ⟨_, rfl⟩
      rw [hx] at hst c1 c2 hpx
      obtain ⟨q, t⟩ := x
      simp only at hst c1 c2 hpx
      clear hx
      have hkey : keyOf Try.prog 9 (.string q) = some (.string q.data.toList) := Go.WideMaps.keyOf_string_mk Try.underlying9 (by unfold maxLen; omega)
      have hhas := (HB.out q).1
      cases hf0 : findF K q with
      | none =>
        rw [if_pos (by rw [hf0]; simp)] at hst
        rw [hf0] at hhas
        simp only [Option.isSome_none] at hhas
        have HE : Hid (M ++ [q.data.toList] = rawA (L.take (j + 1)) K) := (show M ++ [q.data.toList] = rawA (L.take (j + 1)) K from by rw [hst, ← HM.out])
        clear hf0 hst HM
        go_wp2_with (first
          | (at_lookup; refine wpList_lookup_own_ok _ rfl _ _ 61 rfl 9 51 law Try.underlying61 fileElem (zeroF _) (.agg [.lit (.string []), .lit (.string [])]) [] (fileElem_mk ByteArray.empty ByteArray.empty) bB K.length DB rfl (mB.alloc _) _ _ rfl hkey ?_; intro v ps hv; obtain ⟨s9, t9, rfl, _⟩ := fileElem_inv hv; rw [hhas])
          | (at_builtin; refine wpList_append_own _ rfl _ _ 27 rfl w2.heap.size 9 i0 (.string ByteArray.empty) 1 16 Try.underlying27 hi hz0 hz1 hz2 rfl (by decide) _ _ _ rfl (((hown.alloc _).alloc _).alloc _) ⟨wr.heap.size + 1 + 1, 0, none⟩ 1 1 [.string q] (by simp [go_sem]) rfl (cellsTwo wr q _ _) (fun u hu => by simp at hu; subst hu; rfl) (by unfold maxLen; omega) (by omega) (by simp; omega) ?_; intro v3 w3 o3 g3 n3))
        have o3' := o3
        rw [str_self q] at o3'
        go_roundw
        case rel => exact ⟨j + 1, M ++ [q.data.toList], by omega, by go_num, HE, by simp; omega, by rw [strs_snoc, List.length_append]; exact o3', (((hb.alloc (by omega) _).alloc (by simp; omega) _).alloc (by simp; omega) _).grown g3 (by simp; omega) (fun k e => (hown.lt k e).1)⟩
        case measure => simp [intOf]; omega
      | some t' =>
        rw [hf0] at hhas
        simp only [Option.isSome_some] at hhas
        have hat := (HB.out q).2 t' hf0 (.agg [.lit (.string []), .lit (.string [])])
        by_cases htt : t' = t
        · rw [if_neg (by rw [hf0, htt]; simp), List.append_nil] at hst
          have e1 : (t'.toList == t.toList) = true := by rw [htt]; simp
          have e2 : (t'.toList != t.toList) = false := by simp only [bne, e1, Bool.not_true]
          have HE : Hid (M = rawA (L.take (j + 1)) K) := (show M = rawA (L.take (j + 1)) K from by rw [hst]; exact HM.out)
          clear hf0 hst HM htt
          go_wp2_with (at_lookup; refine wpList_lookup_own_ok _ rfl _ _ 61 rfl 9 51 law Try.underlying61 fileElem (zeroF _) (.agg [.lit (.string []), .lit (.string [])]) [] (fileElem_mk ByteArray.empty ByteArray.empty) bB K.length DB rfl (mB.alloc _) _ _ rfl hkey ?_; intro v ps hv; rw [hat] at hv; obtain ⟨s9, t9, rfl, ez⟩ := fileElem_inv hv; obtain rfl : t9 = t' := (by injection ez with ez1 _; injection ez1 with ez2; injection ez2 with _ ez3; injection ez3 with ez4 _; injection ez4 with ez5; injection ez5 with ez6; exact (toList_inj (by rw [Lib.toList_data, Lib.toList_data]; exact ez6.symm))); rw [hhas])
          go_roundw
          case rel => exact ⟨j + 1, M, by omega, by go_num, HE, by omega, (hown.alloc _).alloc _, (hb.alloc (by omega) _).alloc (by simp; omega) _⟩
          case measure => simp [intOf]; omega
        · rw [if_pos (by rw [hf0]; simpa using htt)] at hst
          have HE : Hid (M ++ [q.data.toList] = rawA (L.take (j + 1)) K) := (show M ++ [q.data.toList] = rawA (L.take (j + 1)) K from by rw [hst, ← HM.out])
          have e1 := bytes_ne htt
          have e2 : (t'.toList != t.toList) = true := by simp only [bne, e1, Bool.not_false]
          clear hf0 hst HM htt
          go_wp2_with (first
            | (at_lookup; refine wpList_lookup_own_ok _ rfl _ _ 61 rfl 9 51 law Try.underlying61 fileElem (zeroF _) (.agg [.lit (.string []), .lit (.string [])]) [] (fileElem_mk ByteArray.empty ByteArray.empty) bB K.length DB rfl (mB.alloc _) _ _ rfl hkey ?_; intro v ps hv; rw [hat] at hv; obtain ⟨s9, t9, rfl, ez⟩ := fileElem_inv hv; obtain rfl : t9 = t' := (by injection ez with ez1 _; injection ez1 with ez2; injection ez2 with _ ez3; injection ez3 with ez4 _; injection ez4 with ez5; injection ez5 with ez6; exact (toList_inj (by rw [Lib.toList_data, Lib.toList_data]; exact ez6.symm))); rw [hhas])
            | (at_builtin; refine wpList_append_own _ rfl _ _ 27 rfl w2.heap.size 9 i0 (.string ByteArray.empty) 1 16 Try.underlying27 hi hz0 hz1 hz2 rfl (by decide) _ _ _ rfl (((hown.alloc _).alloc _).alloc _) ⟨wr.heap.size + 1 + 1, 0, none⟩ 1 1 [.string q] (by simp [go_sem]) rfl (cellsTwo wr q _ _) (fun u hu => by simp at hu; subst hu; rfl) (by unfold maxLen; omega) (by omega) (by simp; omega) ?_; intro v3 w3 o3 g3 n3))
          have o3' := o3
          rw [str_self q] at o3'
          go_roundw
          case rel => exact ⟨j + 1, M ++ [q.data.toList], by omega, by go_num, HE, by simp; omega, by rw [strs_snoc, List.length_append]; exact o3', (((hb.alloc (by omega) _).alloc (by simp; omega) _).alloc (by simp; omega) _).grown g3 (by simp; omega) (fun k e => (hown.lt k e).1)⟩
          case measure => simp [intOf]; omega
    · obtain rfl : j = L.length := by omega
      have HM1 : Hid (M = rawA L K) := (show M = rawA L K from by have := HM.out; rwa [List.take_length] at this)
      have hlA := rawA_len L K
      clear HM
      go_wp2
      go_loopw [7, 50] (fun v iv wr => ∃ (i : Nat) (N : List (List UInt8)), i ≤ K.length ∧ iv = .int .i64 i ∧ Hid (N = rawA L K ++ rawB L (K.take i)) ∧ N.length ≤ L.length + i ∧ wr.ownsRow w2.heap.size 9 1 v N.length (strs N) ∧ Below w2.heap.size w2 wr) (fun _ i _ => K.length - (intOf i).toNat)
      case atStart => exact ⟨0, M, Nat.zero_le _, rfl, (show M = rawA L K ++ rawB L (K.take 0) from by rw [HM1.out]; simp [rawB]), by omega, hown, hb⟩
      case round =>
        clear hown hb hsz hlt HM1 hm
        obtain ⟨i, N, hi', rfl, HN, hm2, hown, hb⟩ := hrel
        have hsz := hb.size
        by_cases hlt : i < K.length
        · obtain ⟨b, o, rfl, hbl, c1, c2⟩ := (HK2.out.below hb hz2') i hlt
          have hpx := HU.out i hlt
          have hst := rawB_step L K i hlt
          have mA := mapBelow HMA.out hb
          obtain ⟨x, hx⟩ : ∃ x, K[i] = x := ⟨_, rfl⟩
          rw [hx] at hst c1 c2 hpx
          obtain ⟨q, t⟩ := x
          simp only at hst c1 c2 hpx
          clear hx
          have hkey : keyOf Try.prog 9 (.string q) = some (.string q.data.toList) := Go.WideMaps.keyOf_string_mk Try.underlying9 (by unfold maxLen; omega)
          have hhas := (HA.out q).1
          cases hf0 : findF L q with
          | none =>
            rw [if_pos hf0] at hst
            rw [hf0] at hhas
            simp only [Option.isSome_none] at hhas
            have HE : Hid (N ++ [q.data.toList] = rawA L K ++ rawB L (K.take (i + 1))) := (show N ++ [q.data.toList] = rawA L K ++ rawB L (K.take (i + 1)) from by rw [hst, ← List.append_assoc, ← HN.out])
            clear hf0 hst HN
            go_wp2_with (first
              | (at_lookup; refine wpList_lookup_own_ok _ rfl _ _ 61 rfl 9 51 law Try.underlying61 fileElem (zeroF _) (.agg [.lit (.string []), .lit (.string [])]) [] (fileElem_mk ByteArray.empty ByteArray.empty) bA L.length DA rfl (mA.alloc _) _ _ rfl hkey ?_; intro v ps hv; obtain ⟨s9, t9, rfl, _⟩ := fileElem_inv hv; rw [hhas])
              | (at_builtin; refine wpList_append_own _ rfl _ _ 27 rfl w2.heap.size 9 i0 (.string ByteArray.empty) 1 16 Try.underlying27 hi hz0 hz1 hz2 rfl (by decide) _ _ _ rfl (((hown.alloc _).alloc _).alloc _) ⟨wr.heap.size + 1 + 1, 0, none⟩ 1 1 [.string q] (by simp [go_sem]) rfl (cellsTwo wr q _ _) (fun u hu => by simp at hu; subst hu; rfl) (by unfold maxLen; omega) (by omega) (by simp; omega) ?_; intro v3 w3 o3 g3 n3))
            have o3' := o3
            rw [str_self q] at o3'
            go_roundw
            case rel => exact ⟨i + 1, N ++ [q.data.toList], by omega, by go_num, HE, by simp; omega, by rw [strs_snoc, List.length_append]; exact o3', (((hb.alloc (by omega) _).alloc (by simp; omega) _).alloc (by simp; omega) _).grown g3 (by simp; omega) (fun k e => (hown.lt k e).1)⟩
            case measure => simp [intOf]; omega
          | some t' =>
            rw [if_neg (by rw [hf0]; simp), List.append_nil] at hst
            rw [hf0] at hhas
            simp only [Option.isSome_some] at hhas
            have HE : Hid (N = rawA L K ++ rawB L (K.take (i + 1))) := (show N = rawA L K ++ rawB L (K.take (i + 1)) from by rw [hst]; exact HN.out)
            clear hf0 hst HN
            go_wp2_with (at_lookup; refine wpList_lookup_own_ok _ rfl _ _ 61 rfl 9 51 law Try.underlying61 fileElem (zeroF _) (.agg [.lit (.string []), .lit (.string [])]) [] (fileElem_mk ByteArray.empty ByteArray.empty) bA L.length DA rfl (mA.alloc _) _ _ rfl hkey ?_; intro v ps hv; obtain ⟨s9, t9, rfl, _⟩ := fileElem_inv hv; rw [hhas])
            go_roundw
            case rel => exact ⟨i + 1, N, by omega, by go_num, HE, by omega, (hown.alloc _).alloc _, (hb.alloc (by omega) _).alloc (by simp; omega) _⟩
            case measure => simp [intOf]; omega
        · have e := HN.out
          obtain rfl : i = K.length := by omega
          rw [List.take_length] at e
          go_wp2_with (go_at_call 27; refine (rising_own _ N w2.heap.size _ hown (by omega)).mono ?_; rintro e9 w9 ⟨v9, rfl, o9, hb9, _⟩)
          go_ret
          rw [e] at o9
          exact ⟨⟨_, rfl, ownsUpB o9 hz2'⟩, HW.out.trans ((hb.trans hb9).mono hz2')⟩
end Go.Proofs.Ytbceegonaomblaa.W
