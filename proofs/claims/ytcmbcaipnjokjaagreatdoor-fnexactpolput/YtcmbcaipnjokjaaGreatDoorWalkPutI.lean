
/-
  The walks of impl.poolMap.put and of impl.PolPut. Pools of at most 1048576 bytes.
-/
import Derived.Test.YtcmbcaipnjokjaaGreatDoorWalkPutS
import Derived.Test.YtcmbcaipnjokjaaGreatDoorWalkPutQ
namespace Go.Proofs.YtcmbcaipnjokjaaGreatDoor.W
open Go.RowKit Go.Proofs.YtcmbcaipnjokjaaGreatDoor.M Go.Maps Go.MapKept Go.ChangeMaps
set_option linter.unusedVariables false

/-- what put answers, and what the map tells behind it -/
def putF (f : Int → Option ByteArray) (sz : Nat) (n : Int) (s : ByteArray) : Int × Int × (Int → Option ByteArray) := match f n with
  | some t => if t = s then (n, 2, f) else (0, 3, f)
  | none => if 700 ≤ sz then (0, 3, f) else (n, 1, fun q => if q = n then some s else f q)
theorem putPool_ok (L : List PI) (n : Int) (s : ByteArray) (hr : RiseP L) (h7 : L.length ≤ 700) : RiseP (putPool L n s).1 ∧ (∀ q, findP (putPool L n s).1 q = (putF (findP L) L.length n s).2.2 q) ∧ (putPool L n s).2.1 = (putF (findP L) L.length n s).1 ∧ (putPool L n s).2.2 = (putF (findP L) L.length n s).2.1 := by
  unfold putPool putF
  cases hf : findP L n with
  | some t =>
    by_cases ht : t = s
    · simp [ht, hr]
    · simp [ht, hr]
  | none =>
    by_cases h : L.length = 700
    · simp [h, hr]
    · have h2 : ¬ 700 ≤ L.length := by omega
      simp only [h, h2, if_false]
      refine ⟨riseP_ins L ⟨n, s⟩ hr hf, fun q => findP_ins L ⟨n, s⟩ q hf, ?_⟩
      simp
theorem putF_came (f : Int → Option ByteArray) (sz : Nat) (n : Int) (s : ByteArray) : ((putF f sz n s).2.1 == 4) = false := by
  unfold putF
  split
  · split <;> rfl
  · split <;> rfl
theorem itemElem_is {v : Value} {n : Int} {t : ByteArray} {ps : List MemPlace} (h : itemElem v = some (.agg [.lit (.int .i64 n), .lit (.string t.data.toList)], ps)) : v = .agg #[.int .i64 n, .string t] := by
  obtain ⟨m, u, rfl, hz⟩ := itemElem_inv h
  have h9 := congrArg Prod.fst hz
  simp only [DataW.agg.injEq, List.cons.injEq, DataW.lit.injEq, Lit.string.injEq, Lit.int.injEq] at h9
  rw [h9.1.2, paEq h9.2.1]
theorem ownsBel {w w' : World} {k : TypeId} {R : Value → Option (DataW Unit × List MemPlace)} {b n B : Nat} {D : DataW Unit} (h : w.ownsMap Tryz.prog k R b n D) (hb : Below B w w') (hB : w.heap.size ≤ B) : w'.ownsMap Tryz.prog k R b n D := by
  have hlt := h.lt
  obtain ⟨es, clock, h1, h2⟩ := h
  exact ⟨es, clock, (hb.block b (by omega)).trans h1, h2⟩
theorem grBelow {w w' : World} {r : Option Nat} (h : Below w.heap.size w w') : w.grownBy w' r := ⟨h.os, h.tape, h.output, h.size, fun k hk _ => h.block k hk⟩
theorem grTr {w w' w'' : World} {r : Option Nat} (h : w.grownBy w' r) (k : w'.grownBy w'' r) : w.grownBy w'' r :=
  ⟨k.os.trans h.os, k.tape.trans h.tape, k.output.trans h.output, Nat.le_trans h.size k.size, fun i hi hn => (k.block i (Nat.lt_of_lt_of_le hi h.size) hn).trans (h.block i hi hn)⟩

set_option maxHeartbeats 4000000 in
set_option maxRecDepth 100000 in
theorem put_any (b nn : Nat) (D : DataW Unit) (f : Int → Option ByteArray) (s : ByteArray) (w : World) (hg : TypeCell w) (hown : w.ownsMap Tryz.prog 3 itemElem b nn D) (hM : mapP D f) (hnn : nn ≤ 1000) (hs : s.size ≤ 1048576) (hkd : kd s ≠ 0) :
    Calls Tryz.prog 30 #[.map (some b), .string s] w fun e w' => e = .returned (.tuple #[.int .i64 (putF f (Maps.size D) (idOfN s.data.toList) s).1, .int .i64 (putF f (Maps.size D) (idOfN s.data.toList) s).2.1]) ∧ (∃ D' n', n' ≤ nn + 1 ∧ w'.ownsMap Tryz.prog 3 itemElem b n' D' ∧ mapP D' (putF f (Maps.size D) (idOfN s.data.toList) s).2.2) ∧ w.grownBy w' (some b) := by
  obtain ⟨m, hm⟩ : ∃ m, kd s = m := ⟨_, rfl⟩
  have hkdc := kdI s m w hs hm hg
  have hmb : (((m : Nat) : Int) == 0) = false := by simp; omega
  obtain ⟨n, hid⟩ : ∃ n, idOfN s.data.toList = n := ⟨_, rfl⟩
  have hidc := fun W => idI s n W hs hid
  have hbd := idOfN_bd s.data.toList
  rw [hid] at hbd
  rw [hid]
  have law := Maps.int_keyed (P := Tryz.prog) Tryz.underlying3
  have hkey : keyOf Tryz.prog 3 (.int .i64 (n : Int)) = some (.int .i64 (n : Int)) := Maps.keyOf_int_mk Tryz.underlying3 (idWf _ (by omega) (by omega))
  have hhas := (hM (n : Int)).1
  have HMP : Hid (mapP D f) := hM
  have HOWN : Hid (w.ownsMap Tryz.prog 3 itemElem b nn D) := hown
  have hlen := fun (W : World) (hW : Below w.heap.size w W) => (ownsBel HOWN.out hW (Nat.le_refl _)).len Tryz.underlying52 3
  have hbl := hown.lt
  obtain ⟨sz, hsz⟩ : ∃ sz, Maps.size D = sz := ⟨_, rfl⟩
  rw [hsz] at hlen
  rw [hsz]
  clear hown hm hid hbd hM hsz hkd
  cases hf : f (n : Int) with
  | some t =>
    have hat := (HMP.out (n : Int)).2 t hf
    rw [hf] at hhas
    simp only [Option.isSome_some] at hhas
    by_cases ht : t = s
    · have HR : Hid (putF f sz (n : Int) s = ((n : Int), 2, f)) := (show putF f sz (n : Int) s = _ by unfold putF; rw [hf]; simp [ht])
      subst ht
      have hbe : (t.toList == t.toList) = true := by simp
      clear hf hlen
      go_enter Tryz.func30, Tryz.ntmps30
      go_wp2_with (first
        | (go_at_call 45; refine hkdc.mono ?_; rintro e w1 ⟨rfl, hb1⟩; have hs1 := hb1.size; clear hkdc)
        | (go_at_call 46; refine (hidc w1).mono ?_; rintro e w2 ⟨rfl, hb2⟩; have HB2 : Below w.heap.size w w2 := hb1.trans (hb2.mono hs1); have hown2 := ownsBel HOWN.out HB2 (Nat.le_refl _); clear hb1 hb2 hidc)
        | (at_lookup; refine wpList_lookup_own_ok _ rfl _ _ 52 rfl 3 49 law Tryz.underlying52 itemElem (zeroPI _) (.agg [.lit (.int .i64 0), .lit (.string [])]) [] (itemElem_mk 0 ByteArray.empty) b nn D rfl hown2 _ _ rfl hkey ?_; intro v ps hv; rw [hat] at hv; obtain rfl := itemElem_is hv; rw [hhas]))
      go_ret2
      have e9 := HR.out
      rw [e9]
      exact ⟨rfl, ⟨D, nn, by omega, hown2.alloc _, HMP.out⟩, grTr (grBelow HB2) (World.grownBy_alloc _ _ _)⟩
    · have HR : Hid (putF f sz (n : Int) s = (0, 3, f)) := (show putF f sz (n : Int) s = _ by unfold putF; rw [hf]; simp [ht])
      have hbe := bytes_ne ht
      clear hf hlen
      go_enter Tryz.func30, Tryz.ntmps30
      go_wp2_with (first
        | (go_at_call 45; refine hkdc.mono ?_; rintro e w1 ⟨rfl, hb1⟩; have hs1 := hb1.size; clear hkdc)
        | (go_at_call 46; refine (hidc w1).mono ?_; rintro e w2 ⟨rfl, hb2⟩; have HB2 : Below w.heap.size w w2 := hb1.trans (hb2.mono hs1); have hown2 := ownsBel HOWN.out HB2 (Nat.le_refl _); clear hb1 hb2 hidc)
        | (at_lookup; refine wpList_lookup_own_ok _ rfl _ _ 52 rfl 3 49 law Tryz.underlying52 itemElem (zeroPI _) (.agg [.lit (.int .i64 0), .lit (.string [])]) [] (itemElem_mk 0 ByteArray.empty) b nn D rfl hown2 _ _ rfl hkey ?_; intro v ps hv; rw [hat] at hv; obtain rfl := itemElem_is hv; rw [hhas]))
      go_ret2
      have e9 := HR.out
      rw [e9]
      exact ⟨rfl, ⟨D, nn, by omega, hown2.alloc _, HMP.out⟩, grTr (grBelow HB2) (World.grownBy_alloc _ _ _)⟩
  | none =>
    rw [hf] at hhas
    simp only [Option.isSome_none] at hhas
    by_cases h7 : 700 ≤ sz
    · have HR : Hid (putF f sz (n : Int) s = (0, 3, f)) := (show putF f sz (n : Int) s = _ by unfold putF; rw [hf]; simp [h7])
      have h7b : decide ((700 : Int) ≤ (sz : Int)) = true := by simp; omega
      have h7c : (700 : Int) ≤ (sz : Int) := by omega
      clear hf
      go_enter Tryz.func30, Tryz.ntmps30
      go_wp2_with (first
        | (go_at_call 45; refine hkdc.mono ?_; rintro e w1 ⟨rfl, hb1⟩; have hs1 := hb1.size; clear hkdc)
        | (go_at_call 46; refine (hidc w1).mono ?_; rintro e w2 ⟨rfl, hb2⟩; have HB2 : Below w.heap.size w w2 := hb1.trans (hb2.mono hs1); have hown2 := ownsBel HOWN.out HB2 (Nat.le_refl _); clear hb1 hb2 hidc)
        | (at_lookup; refine wpList_lookup_own_ok _ rfl _ _ 52 rfl 3 49 law Tryz.underlying52 itemElem (zeroPI _) (.agg [.lit (.int .i64 0), .lit (.string [])]) [] (itemElem_mk 0 ByteArray.empty) b nn D rfl hown2 _ _ rfl hkey ?_; intro v ps hv; obtain ⟨m9, t9, rfl, _⟩ := itemElem_inv hv; rw [hhas]; have hl9 := hlen (w2.alloc (.cells #[.int .i64 m9, .string t9] 49)) (HB2.alloc HB2.size _)))
      go_ret2
      have e9 := HR.out
      rw [e9]
      exact ⟨rfl, ⟨D, nn, by omega, hown2.alloc _, HMP.out⟩, grTr (grBelow HB2) (World.grownBy_alloc _ _ _)⟩
    · have HR : Hid (putF f sz (n : Int) s = ((n : Int), 1, fun q => if q = (n : Int) then some s else f q)) := (show putF f sz (n : Int) s = _ by unfold putF; rw [hf]; simp [h7])
      have h7c : ¬ (700 : Int) ≤ (sz : Int) := by omega
      clear hf
      go_enter Tryz.func30, Tryz.ntmps30
      go_wp2_with (first
        | (go_at_call 45; refine hkdc.mono ?_; rintro e w1 ⟨rfl, hb1⟩; have hs1 := hb1.size; clear hkdc)
        | (go_at_call 46; refine (hidc w1).mono ?_; rintro e w2 ⟨rfl, hb2⟩; have HB2 : Below w.heap.size w w2 := hb1.trans (hb2.mono hs1); have hown2 := ownsBel HOWN.out HB2 (Nat.le_refl _); clear hb1 hb2 hidc)
        | (at_lookup; refine wpList_lookup_own_ok _ rfl _ _ 52 rfl 3 49 law Tryz.underlying52 itemElem (zeroPI _) (.agg [.lit (.int .i64 0), .lit (.string [])]) [] (itemElem_mk 0 ByteArray.empty) b nn D rfl hown2 _ _ rfl hkey ?_; intro v ps hv; obtain ⟨m9, t9, rfl, _⟩ := itemElem_inv hv; rw [hhas]; have hl9 := hlen (w2.alloc (.cells #[.int .i64 m9, .string t9] 49)) (HB2.alloc HB2.size _))
        | (at_mapUpdate; refine wpList_mapUpdate_own _ rfl _ _ _ 52 rfl 3 49 law Tryz.underlying52 itemElem b nn D rfl (hown2.alloc _) (by unfold maxLen; omega) _ _ _ rfl rfl hkey _ [] (itemElem_mk (n : Int) s) ?_; intro w3 o3 g3))
      go_ret2
      have e9 := HR.out
      rw [e9]
      exact ⟨rfl, ⟨_, nn + 1, Nat.le_refl _, o3, mapP_put (law.key hkey) hown2.isMap HMP.out⟩, grTr (grTr (grBelow HB2) (World.grownBy_alloc _ _ _)) g3⟩

set_option maxHeartbeats 1000000 in
set_option maxRecDepth 100000 in
theorem put_none (b : Nat) (s : ByteArray) (w : World) (hg : TypeCell w) (hs : s.size ≤ 1048576) (hkd : kd s = 0) :
    Calls Tryz.prog 30 #[.map (some b), .string s] w fun e w' => e = .returned (.tuple #[.int .i64 0, .int .i64 4]) ∧ Below w.heap.size w w' := by
  have hkdc := kdI s 0 w hs hkd hg
  clear hkd
  go_enter Tryz.func30, Tryz.ntmps30
  go_wp2_with (go_at_call 45; refine hkdc.mono ?_; rintro e w1 ⟨rfl, hb1⟩; clear hkdc)
  go_ret2
  exact ⟨rfl, hb1⟩

set_option maxHeartbeats 4000000 in
set_option maxRecDepth 100000 in
theorem polPut_impl (A : Option Addr) (c : Nat) (L : List PI) (s : ByteArray) (w : World) (hg : TypeCell w) (hL : RdP w.heap.size w A L) (hn : L.length ≤ 1048576) (ht : ∀ j (h : j < L.length), (L[j]).tx.size ≤ 1048576) (hs : s.size ≤ 1048576) :
    Calls Tryz.prog 9 #[.slice A L.length c, .string s] w fun e w' => PutEnd w w' (putR L s) e := by
  have hgl := hg.lt
  by_cases hk : okP L = true
  case neg =>
    have HD : Hid (putR L s = ([], 0, 4)) := (show putR L s = _ by unfold putR; rw [if_neg (fun h => hk h.1)])
    have hp := poolOf_no A c L w hg hL hn ht (by simpa using hk)
    clear hk hL ht
    go_enter Tryz.func9, Tryz.ntmps9
    go_wp2_with (go_at_call 29; refine hp.mono ?_; rintro e w1 ⟨rfl, hb1⟩; clear hp)
    go_ret3
    have e9 := HD.out
    unfold PutEnd
    rw [e9]
    exact ⟨⟨_, rfl, World.ownsRow_nil _ _ _ _⟩, hb1⟩
  case pos =>
    obtain ⟨hr, h7, _⟩ := okP_rise L hk
    have hp := poolOf_yes A c L w hg hL hn ht hk
    by_cases hkd : kd s = 0
    · have HD : Hid (putR L s = ([], 0, 4)) := (show putR L s = _ by unfold putR; rw [if_neg (fun h => h.2 hkd)])
      have HG : Hid (TypeCell w) := hg
      have HK : Hid (kd s = 0) := hkd
      clear hk hL ht hkd hr hg
      go_enter Tryz.func9, Tryz.ntmps9
      go_wp2_with (first
        | (go_at_call 29; refine hp.mono ?_; rintro e w1 ⟨b, D, rfl, hown, hM, hsz, hbw, hb1⟩; clear hp hM hsz hown)
        | (go_at_call 30; refine (put_none b s w1 (HG.out.below hb1 hgl) hs HK.out).mono ?_; rintro e w2 ⟨rfl, hb2⟩))
      go_ret3
      have e9 := HD.out
      unfold PutEnd
      rw [e9]
      exact ⟨⟨_, rfl, World.ownsRow_nil _ _ _ _⟩, hb1.trans (hb2.mono hb1.size)⟩
    · have HD : Hid (putR L s = putPool L (idOfN s.data.toList) s) := (show putR L s = _ by unfold putR; rw [if_pos ⟨hk, hkd⟩])
      obtain ⟨h1, h2, h3, h4⟩ := putPool_ok L (idOfN s.data.toList) s hr h7
      have HP : Hid (RiseP (putPool L (idOfN s.data.toList) s).1 ∧ (∀ q, findP (putPool L (idOfN s.data.toList) s).1 q = (putF (findP L) L.length (idOfN s.data.toList) s).2.2 q)) := ⟨h1, h2⟩
      have HE : Hid ((putPool L (idOfN s.data.toList) s).2.1 = (putF (findP L) L.length (idOfN s.data.toList) s).1 ∧ (putPool L (idOfN s.data.toList) s).2.2 = (putF (findP L) L.length (idOfN s.data.toList) s).2.1) := ⟨h3, h4⟩
      have hcm := putF_came (findP L) L.length (idOfN s.data.toList) s
      have HG : Hid (TypeCell w) := hg
      have HK : Hid (kd s ≠ 0) := hkd
      obtain ⟨r1, e1⟩ : ∃ r1, (putF (findP L) L.length (idOfN s.data.toList) s).1 = r1 := ⟨_, rfl⟩
      obtain ⟨r2, e2⟩ : ∃ r2, (putF (findP L) L.length (idOfN s.data.toList) s).2.1 = r2 := ⟨_, rfl⟩
      rw [e2] at hcm
      have HR : Hid ((putF (findP L) L.length (idOfN s.data.toList) s).1 = r1 ∧ (putF (findP L) L.length (idOfN s.data.toList) s).2.1 = r2) := ⟨e1, e2⟩
      clear hk hL ht hkd hr hg h1 h2 h3 h4 e1 e2
      go_enter Tryz.func9, Tryz.ntmps9
      go_wp2_with (first
        | (go_at_call 29; refine hp.mono ?_; rintro e w1 ⟨b, D, rfl, hown, hM, hsz, hbw, hb1⟩; have hs1 := hb1.size; have HM : Hid (mapP D (findP L) ∧ Maps.size D = L.length) := ⟨hM, hsz⟩; have HO : Hid (w1.ownsMap Tryz.prog 3 itemElem b L.length D) := hown; clear hp hM hsz hown)
        | (go_at_call 30; refine (put_any b L.length D (findP L) s w1 (HG.out.below hb1 hgl) HO.out HM.out.1 (by omega) hs HK.out).mono ?_; rw [HM.out.2, HR.out.1, HR.out.2]; rintro e w2 ⟨rfl, ⟨D', n', hn', hown', hM'⟩, hgr⟩; have hs2 := hgr.size; have HB2 : Below w.heap.size w w2 := hb1.grown hgr hs1 (fun k e => by cases e; exact hbw); have HO2 : Hid (w2.ownsMap Tryz.prog 3 itemElem b n' D') := hown'; have HM2 : Hid (mapP D' (putF (findP L) L.length (idOfN s.data.toList) s).2.2) := hM'; clear hown' hM' hgr)
        | (go_at_call 31; refine (items_any b n' D' _ w2 HO2.out HM2.out (by omega)).mono ?_; rintro e w3 ⟨v3, xs, rfl, hrx, hfx, hox, hb3⟩))
      go_ret3
      have e9 := HD.out
      obtain rfl : xs = (putPool L (idOfN s.data.toList) s).1 := riseP_eq xs _ hrx HP.out.1 (fun q => (hfx q).trans (HP.out.2 q).symm)
      unfold PutEnd
      rw [e9, HE.out.1, HE.out.2, HR.out.1, HR.out.2]
      exact ⟨⟨_, rfl, ownsUpP hox HB2.size⟩, HB2.trans (hb3.mono HB2.size)⟩
end Go.Proofs.YtcmbcaipnjokjaaGreatDoor.W
