/-
  TreDiffers of the specification. At most 1048576 files each. (Written by gendifs.py.)
  What differs between two trees, turned there, makes the one of the other. (For the law on TreDiffers.)
-/
import Derived.Test.YtbceegonaomblaaWalkTreG
import Derived.Test.YtbceegonaomblaaWalkL4
import Derived.Test.YtbceegonaomblaaMathTNam
import Derived.Test.YtbceegonaomblaaMathExt
import Derived.Test.YtbceegonaomblaaMathTTu2
import Derived.Test.YtbceegonaomblaaWalkDrawF
namespace Go.Proofs.Ytbceegonaomblaa.W
open Go.RowKit Go.Proofs.Ytbceegonaomblaa.M
set_option linter.unusedVariables false

/-- the paths of the first list at which the other one has other bytes, or no file -/
def rawA (L K : List TF) : List (List UInt8) := (L.filter fun x => decide (findF K x.pa ≠ some x.by_)).map fun x => x.pa.data.toList
/-- the paths of the second list at which the first one has no file -/
def rawB (L K : List TF) : List (List UInt8) := (K.filter fun x => decide (findF L x.pa = none)).map fun x => x.pa.data.toList
theorem rawA_step (L K : List TF) (j : Nat) (h : j < L.length) : rawA (L.take (j + 1)) K = rawA (L.take j) K ++ (if findF K (L[j]).pa ≠ some (L[j]).by_ then [(L[j]).pa.data.toList] else []) := by
  unfold rawA
  rw [List.take_succ_eq_append_getElem h, List.filter_append, List.map_append]
  by_cases hx : findF K (L[j]).pa = some (L[j]).by_ <;> simp [hx]
theorem rawB_step (L K : List TF) (j : Nat) (h : j < K.length) : rawB L (K.take (j + 1)) = rawB L (K.take j) ++ (if findF L (K[j]).pa = none then [(K[j]).pa.data.toList] else []) := by
  unfold rawB
  rw [List.take_succ_eq_append_getElem h, List.filter_append, List.map_append]
  by_cases hx : findF L (K[j]).pa = none <;> simp [hx]
theorem rawA_len (L K : List TF) : (rawA L K).length ≤ L.length := by unfold rawA; rw [List.length_map]; exact List.length_filter_le ..
theorem rawB_len (L K : List TF) : (rawB L K).length ≤ K.length := by unfold rawB; rw [List.length_map]; exact List.length_filter_le ..
theorem l4Find_none (A : Option Addr) (c : Nat) (L : List TF) (p : ByteArray) (w : World) (hL : RdF w.heap.size w A L) (hn : L.length ≤ 1048576) (h : findF L p = none) :
    Calls Try.prog 39 #[.slice A L.length c, .string p] w fun e w' => e = .returned (.int .i64 (-1)) ∧ w = w' := by
  refine (l4Find_any A c L p w hL hn).mono ?_
  rintro e w' ⟨⟨rfl, _⟩ | ⟨j, hj, rfl, hF⟩, rfl⟩
  · exact ⟨rfl, rfl⟩
  · rw [h] at hF; cases hF
theorem l4Find_some (A : Option Addr) (c : Nat) (L : List TF) (p t : ByteArray) (w : World) (hL : RdF w.heap.size w A L) (hn : L.length ≤ 1048576) (h : findF L p = some t) :
    Calls Try.prog 39 #[.slice A L.length c, .string p] w fun e w' => (∃ (k : Nat) (b o : Nat), e = .returned (.int .i64 k) ∧ k < L.length ∧ A = some ⟨b, o, none⟩ ∧ w.cell? ⟨b, o + k * 2 + 1, none⟩ = some (.string t)) ∧ w = w' := by
  refine (l4Find_any A c L p w hL hn).mono ?_
  rintro e w' ⟨⟨rfl, hF⟩ | ⟨j, hj, rfl, hF⟩, rfl⟩
  · rw [h] at hF; cases hF
  · obtain ⟨b, o, e1, _, _, c2⟩ := hL j hj
    rw [h] at hF
    rw [← Option.some.inj hF] at c2
    exact ⟨⟨j, b, o, rfl, hj, e1, c2⟩, rfl⟩

set_option maxRecDepth 100000 in
set_option maxHeartbeats 4000000 in
theorem treDiffers_spec (A A' : Option Addr) (c c' : Nat) (L K : List TF) (w : World) (hL : RdF w.heap.size w A L) (hK : RdF w.heap.size w A' K) (hn : L.length + K.length ≤ 1048576) :
    Calls Try.prog 20 #[.slice A L.length c, .slice A' K.length c'] w fun e w' => (∃ v, e = .returned v ∧ w'.ownsRow w.heap.size 9 1 v (namesB (rawA L K ++ rawB L K)).length (strs (namesB (rawA L K ++ rawB L K)))) ∧ Below w.heap.size w w' := by
  have HL : Hid (RdF w.heap.size w A L) := hL
  have HK : Hid (RdF w.heap.size w A' K) := hK
  clear hL hK
  go_enter Try.func20, Try.ntmps20
  go_wp2
  go_loopw [5, 6] (fun v iv wr => ∃ (j : Nat) (M : List (List UInt8)), j ≤ L.length ∧ iv = .int .i64 j ∧ Hid (M = namesB (rawA (L.take j) K)) ∧ M.length ≤ j ∧ wr.ownsRow w.heap.size 9 1 v M.length (strs M) ∧ Below w.heap.size w wr) (fun _ i _ => L.length - (intOf i).toNat)
  case atStart => exact ⟨0, [], Nat.zero_le _, rfl, rfl, Nat.le_refl _, World.ownsRow_lit w #[] 0 (Nat.le_refl _) (by unfold maxLen; omega) rfl, (Below.refl _ _).alloc (Nat.le_refl _) _⟩
  case round =>
    obtain ⟨j, M, hj, rfl, HM, hm, hown, hb⟩ := hrel
    have hsz := hb.size
    by_cases hlt : j < L.length
    · obtain ⟨b, o, rfl, hbl, c1, c2⟩ := (HL.out.below hb (Nat.le_refl _)) j hlt
      have hst := rawA_step L K j hlt
      have RK : RdF wr.heap.size wr A' K := (HK.out.below hb (Nat.le_refl _)).mono hsz
      obtain ⟨x, hx⟩ : ∃ x, L[j] = x := ⟨_, rfl⟩
      rw [hx] at hst c1 c2
      obtain ⟨q, t⟩ := x
      simp only at hst c1 c2
      clear hx
      have hlen : ∀ N, N = namesB (rawA (L.take (j + 1)) K) → N.length ≤ j + 1 := fun N e => by
        rw [e]
        refine Nat.le_trans (namesB_len _) (Nat.le_trans (rawA_len _ _) ?_)
        rw [List.length_take]; omega
      have HLEN : Hid (∀ N, N = namesB (rawA (L.take (j + 1)) K) → N.length ≤ j + 1) := hlen
      clear hlen
      cases hf0 : findF K q with
      | none =>
        rw [if_pos (by rw [hf0]; simp)] at hst
        have HE : Hid (nameB M q.data.toList = namesB (rawA (L.take (j + 1)) K)) := (show nameB M q.data.toList = namesB (rawA (L.take (j + 1)) K) from by rw [hst, namesB_snoc, ← HM.out])
        have hf := l4Find_none A' c' K q wr RK (by omega) hf0
        clear hf0 hst HM RK
        go_wp2_with (go_at_call 39; refine hf.mono ?_; rintro e w2 ⟨rfl, rfl⟩; clear hf)
        have hne : Nonempty (Ext wr) := ⟨⟨wr, Below.refl _ _⟩⟩
        refine region_ext (by kernel_rfl) (by kernel_rfl) ?_
        repeat (go_big_quiet_step (fail))
        refine wpQuiet_nil ?_
        rintro _ ⟨y, rfl⟩
        have hby := y.below
        replace hown := ownsUnder hown hby (Nat.le_refl _)
        replace hb := hb.trans (hby.mono hsz)
        have c1y := (hby.cell (p := ⟨b, _, none⟩) (by show b < _; omega)).trans c1
        go_wp2_with (go_at_call 29; refine (l4Name_own _ M q.data.toList w.heap.size _ hown hb.size (by omega)).mono ?_; rintro e w3 ⟨v3, rfl, o3, hb3⟩)
        have h9 := HLEN.out _ HE.out
        go_roundw
        case rel => exact ⟨j + 1, _, by omega, by go_num, HE, h9, o3, hb.trans (hb3.mono hb.size)⟩
        case measure => simp [intOf]; omega
      | some t' =>
        have hf := l4Find_some A' c' K q t' wr RK (by omega) hf0
        by_cases htt : t' = t
        · rw [if_neg (by rw [hf0, htt]; simp), List.append_nil] at hst
          have e1 : (t'.toList == t.toList) = true := by rw [htt]; simp
          have e2 : (t'.toList != t.toList) = false := by simp only [bne, e1, Bool.not_true]
          have HE : Hid (M = namesB (rawA (L.take (j + 1)) K)) := (show M = namesB (rawA (L.take (j + 1)) K) from by rw [hst]; exact HM.out)
          clear hf0 hst HM RK htt
          go_wp2_with (go_at_call 39; refine hf.mono ?_; rintro e w2 ⟨⟨k2, b2, o2, rfl, hk2, rfl, ck⟩, rfl⟩; clear hf)
          have hk3 : ((k2 : Int) < 0) = False := by simp
          have hne : Nonempty (Ext wr) := ⟨⟨wr, Below.refl _ _⟩⟩
          have x1 : ∀ y : Ext wr, y.world.cell? ⟨b, o + j * 2 + 1, none⟩ = some (.string t) := fun y => y.cell c2
          have x2 : ∀ y : Ext wr, y.world.cell? ⟨b2, o2 + k2 * 2 + 1, none⟩ = some (.string t') := fun y => y.cell ck
          refine region_ext (by kernel_rfl) (by kernel_rfl) ?_
          repeat (go_big_quiet_step (fail))
          refine wpQuiet_nil ?_
          rintro _ ⟨y, rfl⟩
          have hby := y.below
          go_wp2
          have h9 := HLEN.out _ HE.out
          go_roundw
          case rel => exact ⟨j + 1, M, by omega, by go_num, HE, h9, ownsUnder hown hby (Nat.le_refl _), hb.trans (hby.mono hsz)⟩
          case measure => simp [intOf]; omega
        · rw [if_pos (by rw [hf0]; simpa using htt)] at hst
          have HE : Hid (nameB M q.data.toList = namesB (rawA (L.take (j + 1)) K)) := (show nameB M q.data.toList = namesB (rawA (L.take (j + 1)) K) from by rw [hst, namesB_snoc, ← HM.out])
          have e1 := bytes_ne htt
          have e2 : (t'.toList != t.toList) = true := by simp only [bne, e1, Bool.not_false]
          clear hf0 hst HM RK htt
          go_wp2_with (go_at_call 39; refine hf.mono ?_; rintro e w2 ⟨⟨k2, b2, o2, rfl, hk2, rfl, ck⟩, rfl⟩; clear hf)
          have hk3 : ((k2 : Int) < 0) = False := by simp
          have hne : Nonempty (Ext wr) := ⟨⟨wr, Below.refl _ _⟩⟩
          have x1 : ∀ y : Ext wr, y.world.cell? ⟨b, o + j * 2 + 1, none⟩ = some (.string t) := fun y => y.cell c2
          have x2 : ∀ y : Ext wr, y.world.cell? ⟨b2, o2 + k2 * 2 + 1, none⟩ = some (.string t') := fun y => y.cell ck
          refine region_ext (by kernel_rfl) (by kernel_rfl) ?_
          repeat (go_big_quiet_step (fail))
          refine wpQuiet_nil ?_
          rintro _ ⟨y, rfl⟩
          have hby := y.below
          replace hown := ownsUnder hown hby (Nat.le_refl _)
          replace hb := hb.trans (hby.mono hsz)
          have c1y := (hby.cell (p := ⟨b, _, none⟩) (by show b < _; omega)).trans c1
          go_wp2_with (go_at_call 29; refine (l4Name_own _ M q.data.toList w.heap.size _ hown hb.size (by omega)).mono ?_; rintro e w3 ⟨v3, rfl, o3, hb3⟩)
          have h9 := HLEN.out _ HE.out
          go_roundw
          case rel => exact ⟨j + 1, _, by omega, by go_num, HE, h9, o3, hb.trans (hb3.mono hb.size)⟩
          case measure => simp [intOf]; omega
    · obtain rfl : j = L.length := by omega
      have HM1 : Hid (M = namesB (rawA L K)) := (show M = namesB (rawA L K) from by have := HM.out; rwa [List.take_length] at this)
      clear HM
      go_wp2
      go_loopw [5, 8] (fun v iv wr2 => ∃ (i : Nat) (N : List (List UInt8)), i ≤ K.length ∧ iv = .int .i64 i ∧ Hid (N = namesB (rawA L K ++ rawB L (K.take i))) ∧ N.length ≤ L.length + i ∧ wr2.ownsRow w.heap.size 9 1 v N.length (strs N) ∧ Below w.heap.size w wr2) (fun _ i _ => K.length - (intOf i).toNat)
      case atStart => exact ⟨0, M, Nat.zero_le _, rfl, (show M = namesB (rawA L K ++ rawB L (K.take 0)) from by rw [HM1.out]; simp [rawB]), by omega, hown, hb⟩
      case round =>
        obtain ⟨i, N, hi, rfl, HN, hm2, hown2, hb2⟩ := hrel
        have hsz2 := hb2.size
        by_cases hlt2 : i < K.length
        · obtain ⟨b, o, rfl, hbl, c1, c2⟩ := (HK.out.below hb2 (Nat.le_refl _)) i hlt2
          have hst := rawB_step L K i hlt2
          have RL : RdF wr.heap.size wr A L := (HL.out.below hb2 (Nat.le_refl _)).mono hsz2
          obtain ⟨x, hx⟩ : ∃ x, K[i] = x := ⟨_, rfl⟩
          rw [hx] at hst c1 c2
          obtain ⟨q, t⟩ := x
          simp only at hst c1 c2
          clear hx
          have hlen : ∀ Z, Z = namesB (rawA L K ++ rawB L (K.take (i + 1))) → Z.length ≤ L.length + (i + 1) := fun Z e => by
            rw [e]
            refine Nat.le_trans (namesB_len _) ?_
            rw [List.length_append]
            have h1 := rawA_len L K
            have h2 := rawB_len L (K.take (i + 1))
            rw [List.length_take] at h2
            omega
          have HLEN : Hid (∀ Z, Z = namesB (rawA L K ++ rawB L (K.take (i + 1))) → Z.length ≤ L.length + (i + 1)) := hlen
          clear hlen
          cases hf0 : findF L q with
          | none =>
            rw [if_pos hf0] at hst
            have HE : Hid (nameB N q.data.toList = namesB (rawA L K ++ rawB L (K.take (i + 1)))) := (show nameB N q.data.toList = namesB (rawA L K ++ rawB L (K.take (i + 1))) from by rw [hst, ← List.append_assoc, namesB_snoc, ← HN.out])
            have hf := l4Find_none A c L q wr RL (by omega) hf0
            clear hf0 hst HN RL hown hb hsz hlt HM1
            go_wp2_with (first
              | (go_at_call 39; refine hf.mono ?_; rintro e w2 ⟨rfl, rfl⟩; clear hf)
              | (go_at_call 29; refine (l4Name_own _ N q.data.toList w.heap.size _ hown2 hb2.size (by omega)).mono ?_; rintro e w3 ⟨v3, rfl, o3, hb3⟩))
            have h9 := HLEN.out _ HE.out
            go_roundw
            case rel => exact ⟨i + 1, _, by omega, by go_num, HE, h9, o3, hb2.trans (hb3.mono hb2.size)⟩
            case measure => simp [intOf]; omega
          | some t' =>
            rw [if_neg (by rw [hf0]; simp), List.append_nil] at hst
            have HE : Hid (N = namesB (rawA L K ++ rawB L (K.take (i + 1)))) := (show N = namesB (rawA L K ++ rawB L (K.take (i + 1))) from by rw [hst]; exact HN.out)
            have hf := l4Find_some A c L q t' wr RL (by omega) hf0
            clear hf0 hst HN RL hown hb hsz hlt HM1
            go_wp2_with (go_at_call 39; refine hf.mono ?_; rintro e w2 ⟨⟨k2, b2, o2, rfl, hk2, rfl, ck⟩, rfl⟩; clear hf; have hk3 : ((k2 : Int) < 0) = False := (by simp))
            have h9 := HLEN.out _ HE.out
            go_roundw
            case rel => exact ⟨i + 1, N, by omega, by go_num, HE, h9, hown2, hb2⟩
            case measure => simp [intOf]; omega
        · go_wp2
          go_ret
          obtain rfl : i = K.length := by omega
          have e := HN.out
          rw [List.take_length] at e
          rw [e] at hown2
          exact ⟨⟨_, rfl, hown2⟩, hb2⟩
end Go.Proofs.Ytbceegonaomblaa.W
namespace Go.Proofs.Ytbceegonaomblaa.M
open Go.RowKit Go.Proofs.Ytbceegonaomblaa.W

def diffD (L K : List TF) : List (List UInt8) := namesB (rawA L K ++ rawB L K)
theorem find_mem (L : List TF) (q t : ByteArray) (h : findF L q = some t) : ∃ x ∈ L, x.pa = q ∧ x.by_ = t := by
  induction L with
  | nil => simp [findF] at h
  | cons y l ih =>
    unfold findF at h
    by_cases e : y.pa = q
    · rw [if_pos e] at h
      exact ⟨y, List.mem_cons_self .., e, Option.some.inj h⟩
    · rw [if_neg e] at h
      obtain ⟨x, hx, h'⟩ := ih h
      exact ⟨x, List.mem_cons_of_mem _ hx, h'⟩
theorem mem_find (L : List TF) (hr : RiseF L) (x : TF) (hx : x ∈ L) : findF L x.pa = some x.by_ := by
  obtain ⟨i, hi, rfl⟩ := List.mem_iff_getElem.1 hx
  exact findF_at L i hi hr
theorem mem_diff (L K : List TF) (hL : RiseF L) (hK : RiseF K) (q : ByteArray) : q.data.toList ∈ diffD L K ↔ findF L q ≠ findF K q := by
  unfold diffD
  rw [mem_namesB, List.mem_append]
  constructor
  · rintro (h | h)
    · unfold rawA at h
      obtain ⟨x, hx, e⟩ := List.mem_map.1 h
      obtain ⟨h1, h2⟩ := List.mem_filter.1 hx
      obtain rfl := pa_eq e
      rw [mem_find L hL x h1]
      exact fun e => (of_decide_eq_true h2) e.symm
    · unfold rawB at h
      obtain ⟨x, hx, e⟩ := List.mem_map.1 h
      obtain ⟨h1, h2⟩ := List.mem_filter.1 hx
      obtain rfl := pa_eq e
      rw [mem_find K hK x h1, of_decide_eq_true h2]
      simp
  · intro h
    cases hf : findF L q with
    | some t =>
      left
      obtain ⟨x, hx, rfl, rfl⟩ := find_mem L q t hf
      rw [hf] at h
      exact List.mem_map.2 ⟨x, List.mem_filter.2 ⟨hx, decide_eq_true fun e => h e.symm⟩, rfl⟩
    | none =>
      right
      cases hk : findF K q with
      | none => rw [hf, hk] at h; exact absurd rfl h
      | some t =>
        obtain ⟨x, hx, rfl, rfl⟩ := find_mem K q t hk
        exact List.mem_map.2 ⟨x, List.mem_filter.2 ⟨hx, decide_eq_true hf⟩, rfl⟩
theorem asB (y : List UInt8) : (ByteArray.mk y.toArray).data.toList = y := by simp
theorem mem_diff' (L K : List TF) (hL : RiseF L) (hK : RiseF K) (y : List UInt8) : y ∈ diffD L K ↔ findF L ⟨y.toArray⟩ ≠ findF K ⟨y.toArray⟩ := by
  have := mem_diff L K hL hK ⟨y.toArray⟩
  rw [asB] at this
  exact this
theorem diff_sym (L K : List TF) (hL : RiseF L) (hK : RiseF K) : diffD K L = diffD L K :=
  rises_uniq _ _ (rises_namesB _) (rises_namesB _) (fun y => by
    show y ∈ diffD K L ↔ y ∈ diffD L K
    rw [mem_diff' K L hK hL, mem_diff' L K hL hK]
    exact ⟨fun h e => h e.symm, fun h e => h e.symm⟩)
theorem diff_self (L : List TF) (hL : RiseF L) : diffD L L = [] := by
  match h : diffD L L with
  | [] => rfl
  | y :: l => exact absurd rfl ((mem_diff' L L hL hL y).1 (by rw [h]; exact List.mem_cons_self ..))
theorem diff_nodup (L K : List TF) : (diffD L K).Nodup := (rises_namesB _).imp (fun h e => by subst e; exact List.lt_irrefl _ h)
theorem diff_len (L K : List TF) : (diffD L K).length ≤ L.length + K.length := by
  unfold diffD
  refine Nat.le_trans (namesB_len _) ?_
  rw [List.length_append]
  have := rawA_len L K
  have := rawB_len L K
  omega

/-- the edit at a path that makes it what the second tree has there -/
def edAt (K : List TF) (y : List UInt8) : TE := ⟨⟨y.toArray⟩, (findF K ⟨y.toArray⟩).getD ByteArray.empty, (findF K ⟨y.toArray⟩).isNone⟩
def goneP (K : List TF) (y : List UInt8) : Bool := (findF K ⟨y.toArray⟩).isNone
def passG (K : List TF) (l : List (List UInt8)) : List TE := (l.filter (goneP K)).map (edAt K)
def passL (K : List TF) (l : List (List UInt8)) : List TE := (l.filter fun y => !goneP K y).map (edAt K)
/-- the edits so far: those that go first, then those that come -/
def stageAt (K : List TF) (D : List (List UInt8)) (ps i : Nat) : List TE := if ps = 0 then passG K (D.take i) else if ps = 1 then passG K D ++ passL K (D.take i) else passG K D ++ passL K D
theorem filt_step (p : List UInt8 → Bool) (D : List (List UInt8)) (i : Nat) (h : i < D.length) : (D.take (i + 1)).filter p = (D.take i).filter p ++ (if p D[i] then [D[i]] else []) := by
  rw [List.take_succ_eq_append_getElem h, List.filter_append]
  cases hg : p D[i] <;> simp [hg]
theorem stage_step (K : List TF) (D : List (List UInt8)) (ps i : Nat) (hp : ps < 2) (h : i < D.length) : stageAt K D ps (i + 1) = stageAt K D ps i ++ (if (!goneP K D[i]) = decide (ps = 1) then [edAt K D[i]] else []) := by
  unfold stageAt passG passL
  have h01 : ps = 0 ∨ ps = 1 := by omega
  rcases h01 with rfl | rfl
  · have e := filt_step (goneP K) D i h
    rw [e]
    cases hg : goneP K D[i] <;> simp
  · have e := filt_step (fun y => !goneP K y) D i h
    rw [e]
    cases hg : goneP K D[i] <;> simp
theorem stage_next (K : List TF) (D : List (List UInt8)) (ps : Nat) (hp : ps < 2) : stageAt K D (ps + 1) 0 = stageAt K D ps D.length := by
  have h01 : ps = 0 ∨ ps = 1 := by omega
  rcases h01 with rfl | rfl
  · simp [stageAt, passL]
  · simp [stageAt]
theorem filt_len {X : Type} (p : X → Bool) (l : List X) : (l.filter p).length + (l.filter fun y => !p y).length = l.length := by
  induction l with
  | nil => rfl
  | cons x l ih => cases h : p x <;> simp [h] <;> omega
theorem stage_len (K : List TF) (D : List (List UInt8)) (ps i : Nat) : (stageAt K D ps i).length ≤ D.length := by
  have h1 := filt_len (goneP K) D
  have h2 : ((D.take i).filter (goneP K)).length ≤ (D.filter (goneP K)).length := ((List.take_sublist i D).filter _).length_le
  have h3 : ((D.take i).filter fun y => !goneP K y).length ≤ (D.filter fun y => !goneP K y).length := ((List.take_sublist i D).filter _).length_le
  unfold stageAt passG passL
  split
  · simp only [List.length_map]; omega
  · split
    · simp only [List.length_append, List.length_map]; omega
    · simp only [List.length_append, List.length_map]; omega
theorem stage_all (K : List TF) (D : List (List UInt8)) : (stageAt K D 2 0).length = D.length := by
  have h1 := filt_len (goneP K) D
  have e : stageAt K D 2 0 = passG K D ++ passL K D := by simp [stageAt]
  rw [e]
  simp only [passG, passL, List.length_append, List.length_map]
  exact h1
theorem stage_mem (K : List TF) (D : List (List UInt8)) (ps i : Nat) (e : TE) (h : e ∈ stageAt K D ps i) : ∃ y ∈ D, e = edAt K y := by
  have key : ∀ (l : List (List UInt8)) (p : List UInt8 → Bool), (∀ y ∈ l, y ∈ D) → e ∈ (l.filter p).map (edAt K) → ∃ y ∈ D, e = edAt K y := fun l p hl he => by
    obtain ⟨y, hy, rfl⟩ := List.mem_map.1 he
    exact ⟨y, hl y (List.mem_filter.1 hy).1, rfl⟩
  have ht : ∀ y ∈ D.take i, y ∈ D := fun y hy => List.mem_of_mem_take hy
  unfold stageAt passG passL at h
  split at h
  · exact key _ _ ht h
  · split at h
    · rcases List.mem_append.1 h with h | h
      · exact key _ _ (fun y hy => hy) h
      · exact key _ _ ht h
    · rcases List.mem_append.1 h with h | h
      · exact key _ _ (fun y hy => hy) h
      · exact key _ _ (fun y hy => hy) h
theorem stage_has (K : List TF) (D : List (List UInt8)) (y : List UInt8) (h : y ∈ D) : edAt K y ∈ stageAt K D 2 0 := by
  have e : stageAt K D 2 0 = passG K D ++ passL K D := by simp [stageAt]
  rw [e, List.mem_append]
  cases hg : goneP K y
  · right; exact List.mem_map.2 ⟨y, List.mem_filter.2 ⟨h, by simp [hg]⟩, rfl⟩
  · left; exact List.mem_map.2 ⟨y, List.mem_filter.2 ⟨h, hg⟩, rfl⟩

/-- edits of other paths, one each, all fit -/
theorem turnAll_some : ∀ (E : List (Bool × ByteArray × ByteArray)) (L : List TF), RiseF L → (E.map fun e => e.2.1).Nodup → (∀ e ∈ E, e.1 = true → findF L e.2.1 ≠ none ∧ e.2.2 = ByteArray.empty) → ∃ M, turnAll L E = some M := by
  intro E
  induction E with
  | nil => intro L _ _ _; exact ⟨L, rfl⟩
  | cons e es ih =>
    intro L hr hn hg
    rw [List.map_cons, List.nodup_cons] at hn
    have h1 : ∃ M, turnF L e.1 e.2.1 e.2.2 = some M := by
      unfold turnF
      cases h : e.1
      · simp only [Bool.false_eq_true, if_false]
        split <;> exact ⟨_, rfl⟩
      · obtain ⟨a, b⟩ := hg e (List.mem_cons_self ..) h
        simp only [if_true]
        rw [if_neg (by rintro (h | h); exact a h; exact h b)]
        exact ⟨_, rfl⟩
    obtain ⟨M, hM⟩ := h1
    obtain ⟨k1, k2⟩ := turnF_ok L M _ _ _ hr hM
    obtain ⟨M2, hM2⟩ := ih M k1 hn.2 (fun e' he' hg' => by
      have h9 := hg e' (List.mem_cons_of_mem _ he') hg'
      have h8 : ¬ e'.2.1 = e.2.1 := fun e9 => hn.1 (List.mem_map.2 ⟨e', he', e9⟩)
      rw [k2, if_neg h8]
      exact h9)
    exact ⟨M2, by unfold turnAll; rw [hM]; exact hM2⟩
theorem lastE_mem : ∀ (E : List (Bool × ByteArray × ByteArray)), (E.map fun e => e.2.1).Nodup → ∀ e ∈ E, lastE E e.2.1 = some (e.1, e.2.2) := by
  intro E
  induction E with
  | nil => intro _ e he; cases he
  | cons x es ih =>
    intro hn e he
    rw [List.map_cons, List.nodup_cons] at hn
    rw [lastE_cons]
    rcases List.mem_cons.1 he with rfl | he
    · have h0 : lastE es e.2.1 = none := (lastE_none _ _).2 fun e' he' e9 => hn.1 (e9 ▸ List.mem_map.2 ⟨e', he', rfl⟩)
      rw [h0]; simp
    · rw [ih hn.2 e he]
theorem stage_nodup (K : List TF) (D : List (List UInt8)) (hD : D.Nodup) : ((edOf (stageAt K D 2 0)).map fun e => e.2.1).Nodup := by
  have e : stageAt K D 2 0 = (D.filter (goneP K) ++ D.filter fun y => !goneP K y).map (edAt K) := by simp [stageAt, passG, passL]
  rw [e]
  unfold edOf
  rw [List.map_map, List.map_map]
  have hp : (D.filter (goneP K) ++ D.filter fun y => !goneP K y).Nodup := by
    refine List.nodup_append.2 ⟨hD.filter _, hD.filter _, fun a ha b hb e9 => ?_⟩
    subst e9
    have h1 := (List.mem_filter.1 ha).2
    have h2 := (List.mem_filter.1 hb).2
    rw [h1] at h2
    simp at h2
  refine (List.pairwise_map.2 (hp.imp (fun h e9 => h ?_)))
  simp only [Function.comp, edAt, ByteArray.mk.injEq] at e9
  exact List.toArray_inj e9
/-- the tree that comes of it -/
theorem turn_diff (L K : List TF) (hL : okT L = true) (hK : okT K = true) (hE : (stageAt K (diffD L K) 2 0).length ≤ 4) : turnT L (stageAt K (diffD L K) 2 0) = some K := by
  have rL := (okT_rise L hL).1
  have rK := (okT_rise K hK).1
  have hn := stage_nodup K _ (diff_nodup L K)
  obtain ⟨M, hM⟩ := turnAll_some (edOf (stageAt K (diffD L K) 2 0)) L rL hn (fun e he hg => by
    obtain ⟨x, hx, rfl⟩ := List.mem_map.1 he
    obtain ⟨y, hy, rfl⟩ := stage_mem _ _ _ _ _ hx
    simp only [edAt] at hg ⊢
    have h1 : findF K ⟨y.toArray⟩ = none := by simpa using hg
    have h2 := (mem_diff' L K rL rK y).1 hy
    rw [h1] at h2 ⊢
    exact ⟨h2, rfl⟩)
  have rM := (turnAll_ok L M _ rL hM).1
  have hf := turnAll_find L M _ rL hM
  have e : M = K := rise_eq M K rM rK (fun q => by
    rw [hf q]
    by_cases hq : q.data.toList ∈ diffD L K
    · have h1 := stage_has K _ _ hq
      have h2 : (edAt K q.data.toList).pa = q := pa_eq (by simp [edAt])
      have h3 := lastE_mem _ hn ((edAt K q.data.toList).gone, (edAt K q.data.toList).pa, (edAt K q.data.toList).by_) (List.mem_map.2 ⟨_, h1, rfl⟩)
      simp only at h3
      rw [h2] at h3
      rw [h3]
      have h4 : ByteArray.mk q.data.toList.toArray = q := h2
      simp only [edAt, h4]
      cases findF K q <;> simp
    · have h0 : lastE (edOf (stageAt K (diffD L K) 2 0)) q = none := (lastE_none _ _).2 fun e he e9 => hq (by
        obtain ⟨x, hx, rfl⟩ := List.mem_map.1 he
        obtain ⟨y, hy, rfl⟩ := stage_mem _ _ _ _ _ hx
        rw [← e9]
        simpa [edAt] using hy)
      rw [h0]
      have h8 : ¬ findF L q ≠ findF K q := fun h => hq ((mem_diff L K rL rK q).2 h)
      exact Classical.not_not.1 h8)
  unfold turnT
  rw [if_pos ⟨hL, hE⟩, hM, e]
  simp [hK]
theorem stage_short (L K : List TF) (ps i : Nat) (sL : shortF L) (sK : shortF K) : short (stageAt K (diffD L K) ps i) := fun e he => by
  obtain ⟨y, hy, rfl⟩ := stage_mem _ _ _ _ _ he
  refine ⟨?_, ?_⟩
  · unfold diffD at hy
    rw [mem_namesB, List.mem_append] at hy
    rcases hy with h | h
    · obtain ⟨x, hx, rfl⟩ := List.mem_map.1 h
      exact (sL x (List.mem_filter.1 hx).1).1
    · obtain ⟨x, hx, rfl⟩ := List.mem_map.1 h
      exact (sK x (List.mem_filter.1 hx).1).1
  · unfold edAt
    cases hf : findF K ⟨y.toArray⟩ with
    | none => simp
    | some t =>
      obtain ⟨x, hx, _, rfl⟩ := find_mem K _ t hf
      exact (sK x hx).2
end Go.Proofs.Ytbceegonaomblaa.M
