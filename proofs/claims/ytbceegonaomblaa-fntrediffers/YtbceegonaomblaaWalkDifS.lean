
/-
  TreDiffers of the specification. At most 1048576 files each. (Written by gendifs.py.)
-/
import Derived.Test.YtbceegonaomblaaWalkTreG
import Derived.Test.YtbceegonaomblaaWalkL4
import Derived.Test.YtbceegonaomblaaMathTNam
import Derived.Test.YtbceegonaomblaaMathExt
namespace Go.Proofs.Ytbceegonaomblaa.W
open Go.RowKit Go.Proofs.Ytbceegonaomblaa.M
set_option linter.unusedVariables false

/-- the paths of the first list at which the other one has other bytes, or no file -/
def rawA (L K : List TF) : List (List UInt8) := (L.filter fun x => decide (findF K x.pa ≠ some x.by_)).map fun x => x.pa.data.toList
/-- the paths of the second list at which the first one has no file -/
def rawB (L K : List TF) : List (List UInt8) := (K.filter fun x => decide (findF L x.pa = none)).map fun x => x.pa.data.toList
theorem rawA_step (L K : List TF) (j : Nat) (h : j < L.length) : rawA (L.take (j + 1)) K = rawA (L.take j) K ++ (if findF K (L[j]).pa ≠ some (L[j]).by_ then [(L[j]).pa.data.toList] else []) := by
  unfold rawA
  rw [List.take_succ_eq_append_getElem h, List.filter_append, List.map_append]
  by_cases hx : findF K (L[j]).pa = some (L[j]).by_ <;> simp [hx]
theorem rawB_step (L K : List TF) (j : Nat) (h : j < K.length) : rawB L (K.take (j + 1)) = rawB L (K.take j) ++ (if findF L (K[j]).pa = none then [(K[j]).pa.data.toList] else []) := by
  unfold rawB
  rw [List.take_succ_eq_append_getElem h, List.filter_append, List.map_append]
  by_cases hx : findF L (K[j]).pa = none <;> simp [hx]
theorem rawA_len (L K : List TF) : (rawA L K).length ≤ L.length := by unfold rawA; rw [List.length_map]; exact List.length_filter_le ..
theorem rawB_len (L K : List TF) : (rawB L K).length ≤ K.length := by unfold rawB; rw [List.length_map]; exact List.length_filter_le ..
theorem l4Find_none (A : Option Addr) (c : Nat) (L : List TF) (p : ByteArray) (w : World) (hL : RdF w.heap.size w A L) (hn : L.length ≤ 1048576) (h : findF L p = none) :
    Calls Try.prog 39 #[.slice A L.length c, .string p] w fun e w' => e = .returned (.int .i64 (-1)) ∧ w = w' := by
  refine (l4Find_any A c L p w hL hn).mono ?_
  rintro e w' ⟨⟨rfl, _⟩ | ⟨j, hj, rfl, hF⟩, rfl⟩
  · exact ⟨rfl, rfl⟩
  · rw [h] at hF; cases hF
theorem l4Find_some (A : Option Addr) (c : Nat) (L : List TF) (p t : ByteArray) (w : World) (hL : RdF w.heap.size w A L) (hn : L.length ≤ 1048576) (h : findF L p = some t) :
    Calls Try.prog 39 #[.slice A L.length c, .string p] w fun e w' => (∃ (k : Nat) (b o : Nat), e = .returned (.int .i64 k) ∧ k < L.length ∧ A = some ⟨b, o, none⟩ ∧ w.cell? ⟨b, o + k * 2 + 1, none⟩ = some (.string t)) ∧ w = w' := by
  refine (l4Find_any A c L p w hL hn).mono ?_
  rintro e w' ⟨⟨rfl, hF⟩ | ⟨j, hj, rfl, hF⟩, rfl⟩
  · rw [h] at hF; cases hF
  · obtain ⟨b, o, e1, _, _, c2⟩ := hL j hj
    rw [h] at hF
    rw [← Option.some.inj hF] at c2
    exact ⟨⟨j, b, o, rfl, hj, e1, c2⟩, rfl⟩

set_option maxRecDepth 100000 in
set_option maxHeartbeats 4000000 in
theorem treDiffers_spec (A A' : Option Addr) (c c' : Nat) (L K : List TF) (w : World) (hL : RdF w.heap.size w A L) (hK : RdF w.heap.size w A' K) (hn : L.length + K.length ≤ 1048576) :
    Calls Try.prog 20 #[.slice A L.length c, .slice A' K.length c'] w fun e w' => (∃ v, e = .returned v ∧ w'.ownsRow w.heap.size 9 1 v (namesB (rawA L K ++ rawB L K)).length (strs (namesB (rawA L K ++ rawB L K)))) ∧ Below w.heap.size w w' := by
  have HL : Hid (RdF w.heap.size w A L) := hL
  have HK : Hid (RdF w.heap.size w A' K) := hK
  clear hL hK
  go_enter Try.func20, Try.ntmps20
  go_wp2
  go_loopw [5, 6] (fun v iv wr => ∃ (j : Nat) (M : List (List UInt8)), j ≤ L.length ∧ iv = .int .i64 j ∧ Hid (M = namesB (rawA (L.take j) K)) ∧ M.length ≤ j ∧ wr.ownsRow w.heap.size 9 1 v M.length (strs M) ∧ Below w.heap.size w wr) (fun _ i _ => L.length - (intOf i).toNat)
  case atStart => exact ⟨0, [], Nat.zero_le _, rfl, rfl, Nat.le_refl _, World.ownsRow_lit w #[] 0 (Nat.le_refl _) (by unfold maxLen; omega) rfl, (Below.refl _ _).alloc (Nat.le_refl _) _⟩
  case round =>
    obtain ⟨j, M, hj, rfl, HM, hm, hown, hb⟩ := hrel
    have hsz := hb.size
    by_cases hlt : j < L.length
    · obtain ⟨b, o, rfl, hbl, c1, c2⟩ := (HL.out.below hb (Nat.le_refl _)) j hlt
      have hst := rawA_step L K j hlt
      have RK : RdF wr.heap.size wr A' K := (HK.out.below hb (Nat.le_refl _)).mono hsz
      obtain ⟨x, hx⟩ : ∃ x, L[j] = x := ⟨_, rfl⟩
      rw [hx] at hst c1 c2
      obtain ⟨q, t⟩ := x
      simp only at hst c1 c2
      clear hx
      have hlen : ∀ N, N = namesB (rawA (L.take (j + 1)) K) → N.length ≤ j + 1 := fun N e => by
        rw [e]
        refine Nat.le_trans (namesB_len _) (Nat.le_trans (rawA_len _ _) ?_)
        rw [List.length_take]; omega
      have HLEN : Hid (∀ N, N = namesB (rawA (L.take (j + 1)) K) → N.length ≤ j + 1) := hlen
      clear hlen
      cases hf0 : findF K q with
      | none =>
        rw [if_pos (by rw [hf0]; simp)] at hst
        have HE : Hid (nameB M q.data.toList = namesB (rawA (L.take (j + 1)) K)) := (show nameB M q.data.toList = namesB (rawA (L.take (j + 1)) K) from by rw [hst, namesB_snoc, ← HM.out])
        have hf := l4Find_none A' c' K q wr RK (by omega) hf0
        clear hf0 hst HM RK
        go_wp2_with (go_at_call 39; refine hf.mono ?_; rintro e w2 ⟨rfl, rfl⟩; clear hf)
        have hne : Nonempty (Ext wr) := ⟨⟨wr, Below.refl _ _⟩⟩
        refine region_ext (by kernel_rfl) (by kernel_rfl) ?_
        repeat (go_big_quiet_step (fail))
        refine wpQuiet_nil ?_
        rintro _ ⟨y, rfl⟩
        have hby := y.below
        replace hown := ownsUnder hown hby (Nat.le_refl _)
        replace hb := hb.trans (hby.mono hsz)
        have c1y := (hby.cell (p := ⟨b, _, none⟩) (by show b < _; omega)).trans c1
        go_wp2_with (go_at_call 29; refine (l4Name_own _ M q.data.toList w.heap.size _ hown hb.size (by omega)).mono ?_; rintro e w3 ⟨v3, rfl, o3, hb3⟩)
        have h9 := HLEN.out _ HE.out
        go_roundw
        case rel => exact ⟨j + 1, _, by omega, by go_num, HE, h9, o3, hb.trans (hb3.mono hb.size)⟩
        case measure => simp [intOf]; omega
      | some t' =>
        have hf := l4Find_some A' c' K q t' wr RK (by omega) hf0
        by_cases htt : t' = t
        · rw [if_neg (by rw [hf0, htt]; simp), List.append_nil] at hst
          have e1 : (t'.toList == t.toList) = true := by rw [htt]; simp
          have e2 : (t'.toList != t.toList) = false := by simp only [bne, e1, Bool.not_true]
          have HE : Hid (M = namesB (rawA (L.take (j + 1)) K)) := (show M = namesB (rawA (L.take (j + 1)) K) from by rw [hst]; exact HM.out)
          clear hf0 hst HM RK htt
          go_wp2_with (go_at_call 39; refine hf.mono ?_; rintro e w2 ⟨⟨k2, b2, o2, rfl, hk2, rfl, ck⟩, rfl⟩; clear hf)
          have hk3 : ((k2 : Int) < 0) = False := by simp
          have hne : Nonempty (Ext wr) := ⟨⟨wr, Below.refl _ _⟩⟩
          have x1 : ∀ y : Ext wr, y.world.cell? ⟨b, o + j * 2 + 1, none⟩ = some (.string t) := fun y => y.cell c2
          have x2 : ∀ y : Ext wr, y.world.cell? ⟨b2, o2 + k2 * 2 + 1, none⟩ = some (.string t') := fun y => y.cell ck
          refine region_ext (by kernel_rfl) (by kernel_rfl) ?_
          repeat (go_big_quiet_step (fail))
          refine wpQuiet_nil ?_
          rintro _ ⟨y, rfl⟩
          have hby := y.below
          go_wp2
          have h9 := HLEN.out _ HE.out
          go_roundw
          case rel => exact ⟨j + 1, M, by omega, by go_num, HE, h9, ownsUnder hown hby (Nat.le_refl _), hb.trans (hby.mono hsz)⟩
          case measure => simp [intOf]; omega
        · rw [if_pos (by rw [hf0]; simpa using htt)] at hst
          have HE : Hid (nameB M q.data.toList = namesB (rawA (L.take (j + 1)) K)) := (show nameB M q.data.toList = namesB (rawA (L.take (j + 1)) K) from by rw [hst, namesB_snoc, ← HM.out])
          have e1 := bytes_ne htt
          have e2 : (t'.toList != t.toList) = true := by simp only [bne, e1, Bool.not_false]
          clear hf0 hst HM RK htt
          go_wp2_with (go_at_call 39; refine hf.mono ?_; rintro e w2 ⟨⟨k2, b2, o2, rfl, hk2, rfl, ck⟩, rfl⟩; clear hf)
          have hk3 : ((k2 : Int) < 0) = False := by simp
          have hne : Nonempty (Ext wr) := ⟨⟨wr, Below.refl _ _⟩⟩
          have x1 : ∀ y : Ext wr, y.world.cell? ⟨b, o + j * 2 + 1, none⟩ = some (.string t) := fun y => y.cell c2
          have x2 : ∀ y : Ext wr, y.world.cell? ⟨b2, o2 + k2 * 2 + 1, none⟩ = some (.string t') := fun y => y.cell ck
          refine region_ext (by kernel_rfl) (by kernel_rfl) ?_
          repeat (go_big_quiet_step (fail))
          refine wpQuiet_nil ?_
          rintro _ ⟨y, rfl⟩
          have hby := y.below
          replace hown := ownsUnder hown hby (Nat.le_refl _)
          replace hb := hb.trans (hby.mono hsz)
          have c1y := (hby.cell (p := ⟨b, _, none⟩) (by show b < _; omega)).trans c1
          go_wp2_with (go_at_call 29; refine (l4Name_own _ M q.data.toList w.heap.size _ hown hb.size (by omega)).mono ?_; rintro e w3 ⟨v3, rfl, o3, hb3⟩)
          have h9 := HLEN.out _ HE.out
          go_roundw
          case rel => exact ⟨j + 1, _, by omega, by go_num, HE, h9, o3, hb.trans (hb3.mono hb.size)⟩
          case measure => simp [intOf]; omega
    · obtain rfl : j = L.length := by omega
      have HM1 : Hid (M = namesB (rawA L K)) := (show M = namesB (rawA L K) from by have := HM.out; rwa [List.take_length] at this)
      clear HM
      go_wp2
      go_loopw [5, 8] (fun v iv wr2 => ∃ (i : Nat) (N : List (List UInt8)), i ≤ K.length ∧ iv = .int .i64 i ∧ Hid (N = namesB (rawA L K ++ rawB L (K.take i))) ∧ N.length ≤ L.length + i ∧ wr2.ownsRow w.heap.size 9 1 v N.length (strs N) ∧ Below w.heap.size w wr2) (fun _ i _ => K.length - (intOf i).toNat)
      case atStart => exact ⟨0, M, Nat.zero_le _, rfl, (show M = namesB (rawA L K ++ rawB L (K.take 0)) from by rw [HM1.out]; simp [rawB]), by omega, hown, hb⟩
      case round =>
        obtain ⟨i, N, hi, rfl, HN, hm2, hown2, hb2⟩ := hrel
        have hsz2 := hb2.size
        by_cases hlt2 : i < K.length
        · obtain ⟨b, o, rfl, hbl, c1, c2⟩ := (HK.out.below hb2 (Nat.le_refl _)) i hlt2
          have hst := rawB_step L K i hlt2
          have RL : RdF wr.heap.size wr A L := (HL.out.below hb2 (Nat.le_refl _)).mono hsz2
          obtain ⟨x, hx⟩ : ∃ x, K[i] = x := ⟨_, rfl⟩
          rw [hx] at hst c1 c2
          obtain ⟨q, t⟩ := x
          simp only at hst c1 c2
          clear hx
          have hlen : ∀ Z, Z = namesB (rawA L K ++ rawB L (K.take (i + 1))) → Z.length ≤ L.length + (i + 1) := fun Z e => by
            rw [e]
            refine Nat.le_trans (namesB_len _) ?_
            rw [List.length_append]
            have h1 := rawA_len L K
            have h2 := rawB_len L (K.take (i + 1))
            rw [List.length_take] at h2
            omega
          have HLEN : Hid (∀ Z, Z = namesB (rawA L K ++ rawB L (K.take (i + 1))) → Z.length ≤ L.length + (i + 1)) := hlen
          clear hlen
          cases hf0 : findF L q with
          | none =>
            rw [if_pos hf0] at hst
            have HE : Hid (nameB N q.data.toList = namesB (rawA L K ++ rawB L (K.take (i + 1)))) := (show nameB N q.data.toList = namesB (rawA L K ++ rawB L (K.take (i + 1))) from by rw [hst, ← List.append_assoc, namesB_snoc, ← HN.out])
            have hf := l4Find_none A c L q wr RL (by omega) hf0
            clear hf0 hst HN RL hown hb hsz hlt HM1
            go_wp2_with (first
              | (go_at_call 39; refine hf.mono ?_; rintro e w2 ⟨rfl, rfl⟩; clear hf)
              | (go_at_call 29; refine (l4Name_own _ N q.data.toList w.heap.size _ hown2 hb2.size (by omega)).mono ?_; rintro e w3 ⟨v3, rfl, o3, hb3⟩))
            have h9 := HLEN.out _ HE.out
            go_roundw
            case rel => exact ⟨i + 1, _, by omega, by go_num, HE, h9, o3, hb2.trans (hb3.mono hb2.size)⟩
            case measure => simp [intOf]; omega
          | some t' =>
            rw [if_neg (by rw [hf0]; simp), List.append_nil] at hst
            have HE : Hid (N = namesB (rawA L K ++ rawB L (K.take (i + 1)))) := (show N = namesB (rawA L K ++ rawB L (K.take (i + 1))) from by rw [hst]; exact HN.out)
            have hf := l4Find_some A c L q t' wr RL (by omega) hf0
            clear hf0 hst HN RL hown hb hsz hlt HM1
            go_wp2_with (go_at_call 39; refine hf.mono ?_; rintro e w2 ⟨⟨k2, b2, o2, rfl, hk2, rfl, ck⟩, rfl⟩; clear hf; have hk3 : ((k2 : Int) < 0) = False := (by simp))
            have h9 := HLEN.out _ HE.out
            go_roundw
            case rel => exact ⟨i + 1, N, by omega, by go_num, HE, h9, hown2, hb2⟩
            case measure => simp [intOf]; omega
        · go_wp2
          go_ret
          obtain rfl : i = K.length := by omega
          have e := HN.out
          rw [List.take_length] at e
          rw [e] at hown2
          exact ⟨⟨_, rfl, hown2⟩, hb2⟩
end Go.Proofs.Ytbceegonaomblaa.W
