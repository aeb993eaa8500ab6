/-
  The program's poolMap.reach: the part of a pool to which ids lead, as a map. Pools of at most 700 items.
  Draws of pools once more, with what their ids are: l20Pool, l20AnyPool; DrawPolReach. At most 701 items, texts of at most 1000 bytes, five numbers.
  A pool's map told in the order of its ids, for loop bodies that write one row of numbers; poolMap.ids: the ids that a map has, rising, in new memory. Maps of at most 1048576 entries.
-/
import Derived.Test.YthfffpdkmoclbaaGreatDoorMg38
import Derived.Test.YthfffpdkmoclbaaGreatDoorMg40
import Derived.Test.YthfffpdkmoclbaaGreatDoorMg37
import Derived.Test.YthfffpdkmoclbaaGreatDoorMg20
import Derived.Test.YthfffpdkmoclbaaGreatDoorMg33
import Derived.Deep.LoopGhost
import Derived.Lib.SliceRun
import Derived.Test.YthfffpdkmoclbaaGreatDoorMg34
namespace Go.Proofs.YthfffpdkmoclbaaGreatDoor.W
open Go.RowKit Go.Proofs.YthfffpdkmoclbaaGreatDoor.M Go.MapKept Go.ChangeMaps
set_option linter.unusedVariables false

def inI (n : Int) : Prop := -9223372036854775808 ≤ n ∧ n ≤ 9223372036854775807
theorem wfI (n : Int) (h : inI n) : (Lit.int .i64 n).wf = true := by
  obtain ⟨h2, h3⟩ := h
  have e : IntKind.i64.min = -9223372036854775808 := rfl
  have e2 : IntKind.i64.max = 9223372036854775807 := rfl
  simp only [Lit.wf, decide_eq_true_eq, Bool.and_eq_true]
  simp
  omega
theorem kids_in (t : ByteArray) : ∀ n ∈ kidsN t, inI n := by
  intro n hn
  unfold kidsN idsO at hn
  obtain ⟨e, he, rfl⟩ := List.mem_map.1 hn
  by_cases hk : kd t = 2
  · have h := okL_parts _ (enL_ok t hk)
    have h2 := h.2.1
    rw [List.all_eq_true] at h2
    have := okE_parts _ (h2 (enO e) (List.mem_map.2 ⟨e, he, rfl⟩))
    have h3 : (enO e).id = e.id := rfl
    rw [h3] at this
    exact ⟨by omega, by omega⟩
  · unfold enL at he
    rw [if_neg hk] at he
    cases he
theorem run_makeMap0 (w : World) : (Instr.makeMap 75 none).run Tryz.prog w = .ok (.map (some w.heap.size)) (w.alloc (.map #[] 0)) := by
  simp [Instr.makeMap, Result.andThen, newObj, go_sem]
  rfl
theorem queAt' {B : Nat} {w : World} {v : Value} {T : List Int} (h : Que B w v T) : ∀ k, v.ownBlock = some k → B ≤ k := fun k e => by
  obtain ⟨g, off, cap, cur, rfl, q1, _⟩ := h
  have e2 : g = k := by simpa [Value.ownBlock] using e
  omega
/-- a queue, or no slice at all -/
def QueN (B : Nat) (w : World) (v : Value) (T : List Int) : Prop := Que B w v T ∨ (T = [] ∧ ∃ c, v = .slice none 0 c)
theorem ownsGr {w w' : World} {P : Program} {k : TypeId} {R : Value → Option (DataW Unit × List MemPlace)} {b n : Nat} {D : DataW Unit} {r : Option Nat} (h : w.ownsMap P k R b n D) (hg : w.grownBy w' r) (hr : r ≠ some b) : w'.ownsMap P k R b n D := by
  have hl := h.lt
  obtain ⟨es, clock, hb, Ft, hs, hD⟩ := h
  exact ⟨es, clock, (hg.block b hl (fun e => hr e.symm)).trans hb, Ft, hs, hD⟩
theorem queMap {w : World} {P : Program} {k : TypeId} {R : Value → Option (DataW Unit × List MemPlace)} {b n B : Nat} {D : DataW Unit} {v : Value} {T : List Int} (h : w.ownsMap P k R b n D) (q : Que B w v T) : v.ownBlock ≠ some b := by
  obtain ⟨es, clock, hb, _⟩ := h
  obtain ⟨g, off, cap, cur, rfl, q1, q2, q3, _⟩ := q
  intro e
  have e2 : g = b := by simpa [Value.ownBlock] using e
  subst e2
  rw [hb] at q3
  cases q3
set_option maxHeartbeats 1000000 in
set_option maxRecDepth 100000 in
theorem clone_any (A2 : Option Addr) (c2 : Nat) (ids : List Int) (w : World) (hI : RdI w.heap.size w A2 ids) (hids : ids.length ≤ 1000000) :
    Calls Tryz.prog 90 #[.slice A2 ids.length c2] w fun e w' => (∃ v, e = .returned v ∧ QueN w.heap.size w' v ids) ∧ Below w.heap.size w w' := by
  obtain ⟨i0, hi, hz0, hz1, hz2⟩ := info_parts infoI
  have keq := fun (w : World) (a : Option Addr) (n c : Nat) => Lib.run_eql_slice_nil (P := Tryz.prog) w 41 3 a n c 0 0 Tryz.underlying41
  cases A2 with
  | none =>
    obtain rfl : ids = [] := by
      cases ids with
      | nil => rfl
      | cons x l => obtain ⟨b, o, e, _⟩ := hI 0 (by simp); cases e
    go_enter Tryz.func90, Tryz.ntmps90
    go_wp2
    go_ret
    exact ⟨⟨_, rfl, .inr ⟨rfl, _, rfl⟩⟩, Below.refl _ _⟩
  | some a =>
    have o1 : (w.alloc (.cells #[] 3)).ownsRow w.heap.size 3 1 (.slice (some ⟨w.heap.size, 0, none⟩) ([] : List Int).length 0) ([] : List Int).length (cellsI []) := by
      have := World.ownsRow_lit (base := w.heap.size) (e := 3) (size := 1) w #[] 0 (Nat.le_refl _) (by unfold maxLen; omega) rfl
      simpa [cellsI] using this
    have B2 : Below w.heap.size w (w.alloc (.cells #[] 3)) := (Below.refl _ _).alloc (Nat.le_refl _) _
    have z2 := B2.size
    have q2 := Que.of_own o1
    have I2 := (hI.below B2 (Nat.le_refl _)).mono z2
    have l2 : ([] : List Int).length + ids.length ≤ 1000000 := by simpa using hids
    go_enter Tryz.func90, Tryz.ntmps90
    go_wp2_with (at_builtin; refine wpList_append_que _ rfl _ _ 41 rfl w.heap.size i0 Tryz.underlying41 hi hz0 hz1 hz2 _ _ rfl q2 (some a) c2 ids rfl I2 l2 z2 ?_; intro v3 w3 q3 g3 d3; have B3 := B2.grown g3 z2 (queAt' q2); rw [List.nil_append] at q3)
    go_ret
    exact ⟨⟨_, rfl, .inl q3⟩, B3⟩
set_option maxHeartbeats 8000000 in
set_option maxRecDepth 100000 in
theorem reach_any (b nn : Nat) (D : DataW Unit) (L : List PI) (A2 : Option Addr) (c2 : Nat) (ids : List Int) (w : World) (hg : TypeCell w) (hown : w.ownsMap Tryz.prog 3 itemElem b nn D) (hM : mapP D (findP L)) (hI : RdI w.heap.size w A2 ids) (hids : ids.length ≤ 700) (hin : ∀ n ∈ ids, inI n) (h7 : L.length ≤ 700) (ht : ∀ n t, findP L n = some t → t.size ≤ 1048576) :
    Calls Tryz.prog 61 #[.map (some b), .slice A2 ids.length c2] w fun e w' => (∃ b2 n2 D2 O al, e = .returned (.tuple #[.map (some b2), .bool al]) ∧ n2 ≤ 1000 ∧ w'.ownsMap Tryz.prog 3 itemElem b2 n2 D2 ∧ mapP D2 (fun q => if q ∈ O then findP L q else none) ∧ Looks L ids O [] al ∧ O.Nodup) ∧ Below w.heap.size w w' := by
  have HOWN : Hid (w.ownsMap Tryz.prog 3 itemElem b nn D) := hown
  have HM : Hid (mapP D (findP L)) := hM
  have HI : Hid (RdI w.heap.size w A2 ids) := hI
  have HIN : Hid (∀ n ∈ ids, inI n) := hin
  have HT : Hid (∀ n t, findP L n = some t → t.size ≤ 1048576) := ht
  have HG : Hid (TypeCell w) := hg
  have hgl := hg.lt
  have law := Maps.int_keyed (P := Tryz.prog) Tryz.underlying3
  have hmm := run_makeMap0
  clear hown hM hI hin ht hg
  obtain ⟨i0, hi, hz0, hz1, hz2⟩ := info_parts infoI
  have B1 : Below w.heap.size w (w.alloc (.map #[] 0)) := (Below.refl _ _).alloc (Nat.le_refl _) _
  have z1 := B1.size
  have m1 : (w.alloc (.map #[] 0)).ownsMap Tryz.prog 3 itemElem w.heap.size 0 (.map []) := World.ownsMap_made w Tryz.prog 3 itemElem
  go_enter Tryz.func61, Tryz.ntmps61
  go_wp2_with (go_at_call 90; refine (clone_any A2 c2 ids _ ((HI.out.below B1 (Nat.le_refl _)).mono z1) (by omega)).mono ?_; rintro e w2 ⟨⟨v2, rfl, q2⟩, hb2⟩; have m2 := ownsBel m1 hb2 (Nat.le_refl _); have B2 := B1.trans (hb2.mono z1); have z2 := B2.size; clear m1 hb2)
  have z2' : w.heap.size < w2.heap.size := m2.lt
  go_loopg [7, 8] (L.length * 61 + 700) (fun k av tv wr => ∃ (O T : List Int) (al : Bool) (D2 : DataW Unit), av = .bool al ∧ Hid (O.Nodup) ∧ Hid (Looks L ids O T al) ∧ Hid (∀ n ∈ T, inI n) ∧ QueN (w.heap.size + 1) wr tv T ∧ wr.ownsMap Tryz.prog 3 itemElem w.heap.size O.length D2 ∧ Hid (mapP D2 (fun q => if q ∈ O then findP L q else none)) ∧ (L.length - O.length) * 61 + T.length ≤ k ∧ O.length ≤ L.length ∧ T.length ≤ 700 + 60 * O.length ∧ Below w.heap.size w wr)
  case atStart => exact ⟨[], ids, true, .map [], rfl, List.Pairwise.nil, Looks.start L ids, HIN, by simpa using q2, m2, (show mapP (.map []) _ from fun p => ⟨rfl, fun t ht => by simp at ht⟩), by simp; omega, by simp, by simp; omega, B2⟩
  case round =>
    obtain ⟨O, T, al, D2, rfl, HD, HK, HTI, que, map2, HM2, hk, hO, hT, hb⟩ := hrel
    have hsz := hb.size
    clear q2 m2 B2
    have hTc : T = [] ∨ ∃ T' x, T = T' ++ [x] := by
      rcases List.eq_nil_or_concat T with h | ⟨a, b, h⟩
      · exact .inl h
      · exact .inr ⟨a, b, by rw [h, List.concat_eq_append]⟩
    rcases hTc with rfl | ⟨T', x, rfl⟩
    · obtain ⟨A9, c9, rfl⟩ : ∃ A9 c9, u8 = .slice A9 0 c9 := by
        rcases que with ⟨g, off, cap, cur, e9, _⟩ | ⟨_, c, e9⟩
        · exact ⟨_, _, e9⟩
        · exact ⟨_, _, e9⟩
      go_wp2
      go_ret2
      exact ⟨⟨w.heap.size, O.length, D2, O, al, rfl, by omega, map2, HM2.out, HK.out, HD.out⟩, hb⟩
    · have que' : Que (w.heap.size + 1) wr u8 (T' ++ [x]) := by
        rcases que with h | ⟨h, _⟩
        · exact h
        · simp at h
      obtain ⟨g, off, cap, rfl, hc2, hg1, hg2, hcell, q4⟩ := que'.back
      have hTl : (T' ++ [x]).length = T'.length + 1 := by simp
      rw [hTl] at hk hT
      have HX : Hid (∀ m, m ∈ T' ++ [x] ↔ m = x ∨ m ∈ T') := (show ∀ m, _ from fun m => by rw [List.mem_append, List.mem_singleton]; exact or_comm)
      have HTI' : Hid (∀ n ∈ T', inI n) := (show ∀ n, _ → _ from fun n hn => HTI.out n ((HX.out n).2 (.inr hn)))
      have hkey : keyOf Tryz.prog 3 (.int .i64 x) = some (.int .i64 x) := Maps.keyOf_int_mk Tryz.underlying3 (wfI x (HTI.out x ((HX.out x).2 (.inl rfl))))
      have h2 : Maps.has D2 (.int .i64 x) = (if x ∈ O then findP L x else none).isSome := (HM2.out x).1
      have h1 := (HM.out x).1
      clear que que' hTl HTI
      by_cases hxO : x ∈ O
      · have hfx := (HK.out.there x hxO).2
        rw [if_pos hxO, hfx] at h2
        clear h1
        go_wp2_with (at_lookup; refine wpList_lookup_own_ok _ rfl _ _ 75 rfl 3 35 law Tryz.underlying75 itemElem (zeroPI _) (.agg [.lit (.int .i64 0), .lit (.string [])]) [] (itemElem_mk 0 ByteArray.empty) w.heap.size O.length D2 rfl map2 _ _ rfl hkey ?_; intro v ps hv; obtain ⟨m9, t9, rfl, _⟩ := itemElem_inv hv; rw [h2])
        go_roundg ((L.length - O.length) * 61 + T'.length)
        case rel => exact ⟨O, T', al, D2, rfl, HD, HK.out.seen HX.out hxO, HTI', .inl (q4.below ((Below.refl _ _).alloc (Nat.le_refl _) _)), map2.alloc _, HM2, Nat.le_refl _, hO, by omega, hb.alloc hsz _⟩
        case measure => omega
      · rw [if_neg hxO] at h2
        simp only [Option.isSome_none] at h2
        cases hf : findP L x with
        | none =>
          rw [hf] at h1
          simp only [Option.isSome_none] at h1
          have HF : Hid (findP L x = none) := hf
          clear hf
          go_wp2_with (first
            | (at_lookup; refine wpList_lookup_own_ok _ rfl _ _ 75 rfl 3 35 law Tryz.underlying75 itemElem (zeroPI _) (.agg [.lit (.int .i64 0), .lit (.string [])]) [] (itemElem_mk 0 ByteArray.empty) w.heap.size O.length D2 rfl map2 _ _ rfl hkey ?_; intro v ps hv; obtain ⟨m9, t9, rfl, _⟩ := itemElem_inv hv; rw [h2]; have map3 := map2.alloc (.cells #[.int .i64 m9, .string t9] 35); have hb3 := hb.alloc hsz (.cells #[.int .i64 m9, .string t9] 35); have que3 := q4.below ((Below.refl _ _).alloc (Nat.le_refl _) (.cells #[.int .i64 m9, .string t9] 35)); clear map2)
            | (at_lookup; refine wpList_lookup_own_ok _ rfl _ _ 75 rfl 3 35 law Tryz.underlying75 itemElem (zeroPI _) (.agg [.lit (.int .i64 0), .lit (.string [])]) [] (itemElem_mk 0 ByteArray.empty) b nn D rfl (ownsBel HOWN.out hb3 (Nat.le_refl _)) _ _ rfl hkey ?_; intro v ps hv; obtain ⟨m8, t8, rfl, _⟩ := itemElem_inv hv; rw [h1]))
          go_roundg ((L.length - O.length) * 61 + T'.length)
          case rel => exact ⟨O, T', false, D2, rfl, HD, HK.out.lack HX.out HF.out, HTI', .inl (que3.below ((Below.refl _ _).alloc (Nat.le_refl _) _)), map3.alloc _, HM2, Nat.le_refl _, hO, by omega, hb3.alloc hb3.size _⟩
          case measure => omega
        | some t =>
          have hat := (HM.out x).2 t hf
          rw [hf] at h1
          simp only [Option.isSome_some] at h1
          have hts := HT.out x t hf
          have HD3 : Hid ((x :: O).Nodup) := (show List.Nodup _ from List.nodup_cons.2 ⟨hxO, HD.out⟩)
          have HLE : (x :: O).length ≤ L.length := found_le L _ HD3.out (fun n hn => by
            rcases List.mem_cons.1 hn with rfl | hn
            · rw [hf]; rfl
            · exact (HK.out.there n hn).2)
          have hUl := kidsN_len t
          have HUI : Hid (∀ n ∈ kidsN t, inI n) := kids_in t
          have HKs : Hid (Looks L ids (x :: O) (T' ++ kidsN t) al) := (show Looks _ _ _ _ _ from HK.out.find HX.out hf (fun m => List.mem_cons) (fun m => List.mem_append))
          have HMP : Hid (mapP (D2.put (.int .i64 x) (.agg [.lit (.int .i64 x), .lit (.string t.data.toList)])) (fun q => if q ∈ x :: O then findP L q else none)) := (show mapP _ _ from by
            have e : (fun q => if q ∈ x :: O then findP L q else none) = fun q => if q = x then some t else if q ∈ O then findP L q else none := by
              funext q
              by_cases hq : q = x
              · subst hq; simp [hf]
              · simp [hq]
            rw [e]
            exact mapP_put (law.key hkey) map2.isMap HM2.out)
          obtain ⟨U, hU⟩ : ∃ U, kidsN t = U := ⟨_, rfl⟩
          have HU : Hid (∀ W, TypeCell W → Calls Tryz.prog 30 #[.string t] W fun e w' => (∃ v, e = .returned v ∧ w'.ownsRow W.heap.size 3 1 v U.length (cellsI U)) ∧ Below W.heap.size W w') := (show ∀ W, _ → Calls _ _ _ _ _ from fun W hW => hU ▸ kids_impl t W hts hW)
          rw [hU] at hUl HUI HKs
          clear hf hU HK HM2
          have hl3 : O.length ≤ maxLen := by unfold maxLen; omega
          go_wp2_with (first
            | (at_lookup; refine wpList_lookup_own_ok _ rfl _ _ 75 rfl 3 35 law Tryz.underlying75 itemElem (zeroPI _) (.agg [.lit (.int .i64 0), .lit (.string [])]) [] (itemElem_mk 0 ByteArray.empty) w.heap.size O.length D2 rfl map2 _ _ rfl hkey ?_; intro v ps hv; obtain ⟨m9, t9, rfl, _⟩ := itemElem_inv hv; rw [h2]; have map3 := map2.alloc (.cells #[.int .i64 m9, .string t9] 35); have hb3 := hb.alloc hsz (.cells #[.int .i64 m9, .string t9] 35); have que3 := q4.below ((Below.refl _ _).alloc (Nat.le_refl _) (.cells #[.int .i64 m9, .string t9] 35)); clear map2)
            | (at_lookup; refine wpList_lookup_own_ok _ rfl _ _ 75 rfl 3 35 law Tryz.underlying75 itemElem (zeroPI _) (.agg [.lit (.int .i64 0), .lit (.string [])]) [] (itemElem_mk 0 ByteArray.empty) b nn D rfl (ownsBel HOWN.out hb3 (Nat.le_refl _)) _ _ rfl hkey ?_; intro v ps hv; rw [hat] at hv; obtain rfl := itemElem_is hv; rw [h1]; have map4 := map3.alloc (.cells #[.int .i64 x, .string t] 35); have hb4 := hb3.alloc hb3.size (.cells #[.int .i64 x, .string t] 35); have que4 := que3.below ((Below.refl _ _).alloc (Nat.le_refl _) (.cells #[.int .i64 x, .string t] 35)); have c4 := boxCell (wr.alloc (.cells #[.int .i64 m9, .string t9] 35)) #[.int .i64 x, .string t] 35 1 (.string t) rfl; rw [World.size_alloc] at c4)
            | (at_mapUpdate; refine wpList_mapUpdate_own _ rfl _ _ _ 75 rfl 3 35 law Tryz.underlying75 itemElem w.heap.size O.length D2 rfl map4 (by unfold maxLen; omega) _ _ _ rfl rfl hkey _ [] (itemElem_mk x t) ?_; intro w5 map5 g5; have que5 := que4.kept g5 (.inr (queMap map4 que4)); have hb5 := hb4.grown g5 hb4.size (fun k e => by cases e; exact Nat.le_refl _); have z5 := hb5.size; have c5 := cellKept g5 c4 (by simp) (fun e => by have := Option.some.inj e; omega))
            | (go_at_call 30; refine (HU.out w5 (HG.out.below hb5 hgl)).mono ?_; rintro e w6 ⟨⟨v6, rfl, o6⟩, hb6⟩; have z6 := hb6.size; obtain ⟨A6, c6, rfl, rd6⟩ := rdI_of_own o6; have que6 := que5.below hb6; have map6 := ownsBel map5 hb6 (Nat.le_refl _); have hb56 := hb5.trans (hb6.mono z5); have z6' := hb56.size; have z6'' : w.heap.size + 1 ≤ w6.heap.size := map6.lt)
            | (at_builtin; refine wpList_append_que _ rfl _ _ 41 rfl (w.heap.size + 1) i0 Tryz.underlying41 hi hz0 hz1 hz2 _ _ rfl que6 A6 c6 U rfl rd6 (by first | omega | (simp; omega)) z6'' ?_; intro v7 w7 que7 g7 d7; have map7 := ownsGr map6 g7 (queMap map6 que6); have hb7 := hb56.grown g7 z6' (fun k e => Nat.le_of_succ_le (queAt' que6 k e))))
          go_roundg ((L.length - (x :: O).length) * 61 + (T' ++ U).length)
          case rel => exact ⟨x :: O, T' ++ U, al, _, rfl, HD3, HKs, (show ∀ n ∈ T' ++ U, inI n from fun n hn => by
            rcases List.mem_append.1 hn with hn | hn
            · exact HTI'.out n hn
            · exact HUI.out n hn), .inl que7, map7, HMP, Nat.le_refl _, HLE, by simp; omega, hb7⟩
          case measure => simp at HLE ⊢; omega
end Go.Proofs.YthfffpdkmoclbaaGreatDoor.W
namespace Go.Proofs.YthfffpdkmoclbaaGreatDoor.W
open Go.RowKit Go.Proofs.YthfffpdkmoclbaaGreatDoor.M
set_option linter.unusedVariables false

theorem texI_in (L : List TF) : inI (texI L : Int) := by
  unfold texI
  split
  · have := idOfN_bd (sheetOf (layD 3 L).2).data.toList
    unfold layI inI
    omega
  · exact ⟨by decide, by decide⟩
theorem inI_snoc {R : List Int} {n : Int} (h : ∀ r ∈ R, inI r) (hn : inI n) : ∀ r ∈ R ++ [n], inI r := fun r hr => by
  rcases List.mem_append.1 hr with hr | hr
  · exact h r hr
  · obtain rfl := List.mem_singleton.1 hr
    exact hn
theorem smP_in {L : List PI} (h : smP L) : ∀ x ∈ L, inI x.id := fun x hx => by
  have := h x hx
  exact ⟨by omega, by omega⟩
theorem inI_set {L : List PI} (h : ∀ x ∈ L, inI x.id) (k : Nat) (x : PI) (hx : inI x.id) : ∀ y ∈ L.set k x, inI y.id := fun y hy => by
  rcases List.mem_or_eq_of_mem_set hy with hy | rfl
  · exact h y hy
  · exact hx
/-- what the draw of a pool leaves -/
def DrewP2 (m k : Nat) (w : World) (rb p : Nat) (a : Option Addr) (len cap : Nat) (zs : Nat → Int) (e : Ending) (w' : World) : Prop :=
  (∃ (v u : Value) (L : List PI) (R : List Int), e = .returned (.tuple #[v, u]) ∧ L.length ≤ m ∧ smP L ∧ R.length ≤ 3 ∧ (∀ r ∈ R, inI r) ∧ w'.ownsRow w.heap.size 35 2 v L.length (cellsP L) ∧ w'.ownsRow w.heap.size 3 1 u R.length (cellsI R)) ∧ w.grownBy w' (some rb) ∧ ∃ p', p' ≤ p + k ∧ Rd w' rb p' a len cap zs
set_option maxHeartbeats 8000000 in
set_option maxRecDepth 100000 in
theorem pool2_any (w : World) (rb p : Nat) (a : Option Addr) (len cap : Nat) (zs : Nat → Int) (h : Rd w rb p a len cap zs) (hp : p ≤ 400) (hlt : rb < w.heap.size) :
    Calls Tryz.prog 78 #[.pointer (some ⟨rb, 0, none⟩)] w (DrewP2 700 1200 w rb p a len cap zs) := by
  obtain ⟨i0, hi, hz0, hz1, hz2⟩ := info_parts infoI
  have O0 : ((w.alloc (.cells #[] 35)).alloc (.cells #[] 3)).ownsRow w.heap.size 35 2 (.slice (some ⟨w.heap.size, 0, none⟩) 0 0) 0 [] := (World.ownsRow_lit w #[] 0 (Nat.le_refl _) (by unfold maxLen; omega) rfl).alloc _
  have U0 : ((w.alloc (.cells #[] 35)).alloc (.cells #[] 3)).ownsRow w.heap.size 3 1 (.slice (some ⟨w.heap.size + 1, 0, none⟩) 0 0) 0 [] := by
    have := World.ownsRow_lit (base := w.heap.size) (e := 3) (size := 1) (w.alloc (.cells #[] 35)) #[] 0 (by simp) (by unfold maxLen; omega) rfl
    simpa using this
  go_enter Tryz.func78, Tryz.ntmps78
  go_wp2_with (go_at_call 49; refine (pick_any _ rb p a len cap 4 zs ((h.alloc hlt _).alloc (by simp; omega) _) (by omega) (by omega) (by omega)).mono ?_; rintro e w1 ⟨n, hn, rfl, R1, g1⟩; have z1 := g1.size; simp at z1; have O1 := O0.kept g1 (.inr (by simp [Value.ownBlock]; omega)); have U1 := U0.kept g1 (.inr (by simp [Value.ownBlock]; omega)); have G1 : w.grownBy w1 (some rb) := gtrans (gtrans (galloc _ _) (galloc _ _)) g1; clear O0 U0 g1 h)
  go_loopw [4, 5, 6] (fun v u kv wr => ∃ (m p' : Nat) (L : List PI) (R : List Int), m ≤ 3 ∧ kv = .int .i64 m ∧ p' + 25 * m ≤ p + 76 ∧ L.length ≤ 700 ∧ R.length + m ≤ 3 ∧ Hid (smP L) ∧ Hid (∀ r ∈ R, inI r) ∧ Rd wr rb p' a len cap zs ∧ wr.ownsRow w.heap.size 35 2 v L.length (cellsP L) ∧ wr.ownsRow w.heap.size 3 1 u R.length (cellsI R) ∧ w.grownBy wr (some rb)) (fun _ _ k _ => (RowKit.intOf k).toNat)
  case atStart => exact ⟨n, p + 1, [], [], by omega, rfl, by omega, by simp, by simp; omega, smP_nil, (fun r hr => by cases hr), R1, O1, U1, G1⟩
  case round =>
    obtain ⟨m, p', L, R, hm, rfl, hp', hL, hR, HS, HRI, RR, O, U, G⟩ := hrel
    have hz := G.size
    clear O1 U1 R1 G1
    by_cases hm0 : 0 < m
    · go_wp2_with (first
        | (go_at_call 95; refine (filesD_any _ rb p' a len cap zs RR (by omega) (by omega)).mono ?_; rintro e w2 ⟨⟨vf, F, rfl, hF, hSF, OF⟩, g2, p2, hp2, R2⟩; have z2 := g2.size; have O2 := O.kept g2 (ownNot O hlt); have U2 := U.kept g2 (ownNot U hlt); have G2 := gtrans G g2; obtain ⟨AF, cF, rfl, FF⟩ := rdF_of_own OF; have HT : Hid (∀ t ∈ texT F, t.size ≤ 1000) := texT_short F hSF; have HF : Hid (shortF F) := hSF; clear O U G g2 RR OF hSF)
        | (go_at_call 33; refine (treLay_spec AF cF F _ FF (by omega) (smallOf HF.out)).mono ?_; rintro e w3 ⟨⟨vt, rfl, ot⟩, hb⟩; have z3 := hb.size; obtain ⟨T, hT⟩ : ∃ T, texT F = T := ⟨_, rfl⟩; have hidb := texI_in F; obtain ⟨id, hid⟩ : ∃ id, texI F = id := ⟨_, rfl⟩; rw [hid] at hidb; have HIDB : Hid (inI (id : Int)) := hidb; clear hidb; have hTn := texT_len F; rw [hT] at ot HT hTn; rw [hid]; rw [← sL_len T] at ot hTn; obtain ⟨AT, cT, rfl, TT⟩ := rdT_of_own ot; have R3 := rdBelF R2 hb (by omega); have O3 := ownsUnder O2 hb (Nat.le_refl _); have U3 := ownsUnder U2 hb (Nat.le_refl _); have G3 : w.grownBy w3 (some rb) := gtrans G2 (gBelow hb); clear hT hid ot FF HF O2 U2 R2 G2 hb))
      go_loopw [4, 9] (fun v' iv wr => ∃ (j : Nat) (L' : List PI), j ≤ (sL T).length ∧ iv = .int .i64 j ∧ L'.length ≤ 700 ∧ Hid (smP L') ∧ Rd wr rb p2 a len cap zs ∧ wr.ownsRow w.heap.size 35 2 v' L'.length (cellsP L') ∧ wr.ownsRow w.heap.size 3 1 u5 R.length (cellsI R) ∧ RdT wr.heap.size wr AT (sL T) ∧ w.grownBy wr (some rb)) (fun _ i _ => (sL T).length - (RowKit.intOf i).toNat)
      case atStart => exact ⟨0, L, by omega, rfl, hL, HS, R3, O3, U3, TT, G3⟩
      case round =>
        obtain ⟨j, L', hj, rfl, hL', HS', RQ, OQ, UQ, TQ, GQ⟩ := hrel
        have hzq := GQ.size
        clear O3 U3 R3 G3 TT
        by_cases hjl : j < (sL T).length
        · obtain ⟨b, rfl, hbl, c1⟩ := TQ j hjl
          have hts := txtSize T HT.out j hjl
          obtain ⟨s, hs⟩ : ∃ s, ByteArray.mk ((sL T)[j]).toArray = s := ⟨_, rfl⟩
          rw [hs] at c1 hts
          clear hs
          go_wp2_with (go_at_call 11; refine (polPut_spec _ L' s _ OQ (by omega) (shSizes HS'.out.sh) (by omega)).mono ?_; rintro e w4 ⟨⟨vx, rfl, ox⟩, hb⟩; have z4 := hb.size; have HSX := smP_put L' s HS'.out hts; have hXl := putR_len L' s hL'; obtain ⟨⟨X, n, c⟩, hX⟩ : ∃ X, putR L' s = X := ⟨_, rfl⟩; rw [hX] at ox HSX hXl; rw [hX]; have HX : Hid (smP X) := HSX; have R4 := rdBelF RQ hb (by omega); have O4 := ownsUnder OQ hb (Nat.le_refl _); have U4 := ownsUnder UQ hb (Nat.le_refl _); have T4 := TQ.up hb; have G4 : w.grownBy w4 (some rb) := gtrans GQ (gBelow hb); have X4 := ownsUpF ox (show w.heap.size ≤ wr.heap.size by omega); clear hX HSX ox OQ UQ TQ GQ RQ hb; rcases (show c = 1 ∨ (c == 1) = false by rcases Classical.em (c = 1) with h9 | h9; exact .inl h9; exact .inr (by simpa using h9)) with rfl | hcb)
          · go_roundw
            case rel => exact ⟨j + 1, X, by omega, by go_num, hXl, HX, R4, X4, U4, T4, G4⟩
            case measure => simp [RowKit.intOf]; omega
          · go_roundw
            case rel => exact ⟨j + 1, L', by omega, by go_num, hL', HS', R4, O4, U4, T4, G4⟩
            case measure => simp [RowKit.intOf]; omega
        · have X1 := UQ.alloc (.cells #[.int .i64 (id : Int)] 3)
          have X2 := cells_new wr #[.int .i64 (id : Int)] 3
          have X3 : w.heap.size ≤ (wr.alloc (.cells #[.int .i64 (id : Int)] 3)).heap.size := by simp; omega
          have X4 := OQ.alloc (.cells #[.int .i64 (id : Int)] 3)
          have X5 := rowsApart2 X4 X1 (by decide)
          have X6 := gtrans GQ (galloc wr (.cells #[.int .i64 (id : Int)] 3))
          have X7 := RQ.alloc (by omega) (.cells #[.int .i64 (id : Int)] 3)
          have X8 : rb < (wr.alloc (.cells #[.int .i64 (id : Int)] 3)).heap.size := by simp; omega
          go_wp2_with (at_builtin; refine wpList_append_own _ rfl _ _ 41 rfl w.heap.size 3 i0 (.int .i64 0) 1 8 Tryz.underlying41 hi hz0 hz1 hz2 rfl (by decide) _ _ _ rfl X1 ⟨wr.heap.size, 0, none⟩ 1 1 [.int .i64 id] rfl rfl X2 (fun u hu => by simp at hu; subst hu; rfl) (by unfold maxLen; omega) (by omega) X3 ?_; intro v5 w5 U5 g5 _; have O5 := X4.kept g5 X5; have G5 := grOwn X6 X1 (Nat.le_refl _) g5; have R5 := rdOwn X7 X1 hlt X8 g5)
          go_roundw
          case rel => exact ⟨m - 1, p2, L', R ++ [(id : Int)], by omega, by go_num, by omega, hL', by simp; omega, HS', inI_snoc HRI.out HIDB.out, R5, O5, by rw [List.length_append, show cellsI (R ++ [(id : Int)]) = cellsI R ++ [.int .i64 id] by simp [cellsI]]; exact U5, G5⟩
          case measure => simp [RowKit.intOf]; omega
    · obtain rfl : m = 0 := by omega
      go_wp2_with (go_at_call 49; refine (pick_any _ rb p' a len cap 3 zs RR (by omega) (by omega) (by omega)).mono ?_; rintro e w2 ⟨n2, hn2, rfl, R2, g2⟩; have z2 := g2.size; have O2 := O.kept g2 (ownNot O hlt); have U2 := U.kept g2 (ownNot U hlt); have G2 := gtrans G g2; clear O U G g2 RR)
      go_loopw [4, 13] (fun v' kv wr => ∃ (m p3 : Nat) (L' : List PI), m ≤ 2 ∧ kv = .int .i64 m ∧ p3 + 500 * m ≤ p' + 1001 ∧ L'.length ≤ 700 ∧ Hid (smP L') ∧ Rd wr rb p3 a len cap zs ∧ wr.ownsRow w.heap.size 35 2 v' L'.length (cellsP L') ∧ wr.ownsRow w.heap.size 3 1 u5 R.length (cellsI R) ∧ w.grownBy wr (some rb)) (fun _ k _ => (RowKit.intOf k).toNat)
      case atStart => exact ⟨n2, p' + 1, L, by omega, rfl, by omega, hL, HS, R2, O2, U2, G2⟩
      case round =>
        obtain ⟨m, p3, L', hm, rfl, hp3, hL', HS', RQ, OQ, UQ, GQ⟩ := hrel
        have hzq := GQ.size
        clear O2 U2 R2 G2
        by_cases hm1 : 0 < m
        · go_wp2_with (first
            | (go_at_call 50; refine (text_on _ rb 99 p3 a len cap zs RQ (by omega) (by omega) (by omega) (by omega)).mono ?_; rintro e w3 ⟨s, p4, rfl, hs, hp4, R3, g3⟩; have z3 := g3.size; have O3 := OQ.kept g3 (ownNot OQ hlt); have U3 := UQ.kept g3 (ownNot UQ hlt); have G3 := gtrans GQ g3; clear OQ UQ GQ g3 RQ)
            | (go_at_call 11; refine (polPut_spec _ L' s _ O3 (by omega) (shSizes HS'.out.sh) (by omega)).mono ?_; rintro e w4 ⟨⟨vx, rfl, ox⟩, hb⟩; have z4 := hb.size; have HSX := smP_put L' s HS'.out (by omega); have hXl := putR_len L' s hL'; obtain ⟨⟨X, n, c⟩, hX⟩ : ∃ X, putR L' s = X := ⟨_, rfl⟩; rw [hX] at ox HSX hXl; rw [hX]; have HX : Hid (smP X) := HSX; have R4 := rdBelF R3 hb (by omega); have O4 := ownsUnder O3 hb (Nat.le_refl _); have U4 := ownsUnder U3 hb (Nat.le_refl _); have G4 : w.grownBy w4 (some rb) := gtrans G3 (gBelow hb); have X4 := ownsUpF ox (show w.heap.size ≤ w3.heap.size by omega); clear hX HSX ox O3 U3 G3 R3 hb; rcases (show c = 1 ∨ (c == 1) = false by rcases Classical.em (c = 1) with h9 | h9; exact .inl h9; exact .inr (by simpa using h9)) with rfl | hcb))
          · go_roundw
            case rel => exact ⟨m - 1, p4, X, by omega, by go_num, by omega, hXl, HX, R4, X4, U4, G4⟩
            case measure => simp [RowKit.intOf]; omega
          · go_roundw
            case rel => exact ⟨m - 1, p4, L', by omega, by go_num, by omega, hL', HS', R4, O4, U4, G4⟩
            case measure => simp [RowKit.intOf]; omega
        · go_wp2
          go_ret2
          exact ⟨⟨_, _, L', R, rfl, hL', HS'.out, by omega, HRI.out, OQ, UQ⟩, GQ, p3, by omega, RQ⟩
/-- what the draw of a pool that may be bent leaves -/
def DrewQ2 (k : Nat) (w : World) (rb p : Nat) (a : Option Addr) (len cap : Nat) (zs : Nat → Int) (e : Ending) (w' : World) : Prop :=
  (∃ (v u : Value) (L : List PI) (R : List Int), e = .returned (.tuple #[v, u]) ∧ L.length ≤ 701 ∧ shP L ∧ R.length ≤ 3 ∧ (∀ x ∈ L, inI x.id) ∧ (∀ r ∈ R, inI r) ∧ w'.ownsRow w.heap.size 35 2 v L.length (cellsP L) ∧ w'.ownsRow w.heap.size 3 1 u R.length (cellsI R)) ∧ w.grownBy w' (some rb) ∧ ∃ p', p' ≤ p + k ∧ Rd w' rb p' a len cap zs
set_option maxHeartbeats 8000000 in
set_option maxRecDepth 100000 in
theorem anyPool2_any (w : World) (rb p n : Nat) (a : Option Addr) (len cap : Nat) (zs : Nat → Int) (h : Rd w rb p a len cap zs) (hp : p ≤ 400) (hlt : rb < w.heap.size) (hn : 1 ≤ n) (hn2 : n ≤ 1000) :
    Calls Tryz.prog 48 #[.pointer (some ⟨rb, 0, none⟩), .int .i64 n] w (DrewQ2 1800 w rb p a len cap zs) := by
  obtain ⟨i0, hi, hz0, hz1, hz2⟩ := info_parts infoP
  have t1 : True := trivial
  go_enter Tryz.func48, Tryz.ntmps48
  go_wp2_with (first
    | (go_at_call 78; refine (pool2_any _ rb p a len cap zs h hp hlt).mono ?_; rintro e w1 ⟨⟨v, u, L, R, rfl, hL, hS, hR, hRI, O1, U1⟩, G1, p1, hp1, R1⟩; have z1 := G1.size; have HS : Hid (smP L) := hS; have HRI : Hid (∀ r ∈ R, inI r) := hRI; clear hS hRI; rcases rowSplit O1 with ⟨hb0, h0, A, cv, rfl⟩ | ⟨hb0, h0, g, cv, rfl, hg⟩)
    | (go_at_call 49; have _t := t1; refine (pick_any _ rb p1 a len cap n zs R1 (by omega) (by omega) (by omega)).mono ?_; rintro e w2 ⟨k0, hk0, rfl, R2, g2⟩; have z2 := g2.size; have O2 := O1.kept g2 (ownNot O1 hlt); have U2 := U1.kept g2 (ownNot U1 hlt); have G2 := gtrans G1 g2; clear O1 U1 R1 G1 g2 _t t1; rcases Nat.eq_zero_or_pos k0 with rfl | hk1)
    | (go_at_call 49; refine (pick_any _ rb (p1 + 1) a len cap L.length zs R2 (by omega) (by omega) (by omega)).mono ?_; rintro e w3 ⟨k, hk, rfl, R3, g3⟩; have z3 := g3.size; have O3 := O2.kept g3 (ownNot O2 hlt); have U3 := U2.kept g3 (ownNot U2 hlt); have G3 := gtrans G2 g3; clear O2 U2 R2 G2 g3)
    | (go_at_call 49; refine (pick_any _ rb (p1 + 1 + 1) a len cap 4 zs R3 (by omega) (by omega) (by omega)).mono ?_; rintro e w4 ⟨c, hc, rfl, R4, g4⟩; have z4 := g4.size; have O4 := O3.kept g4 (ownNot O3 hlt); have U4 := U3.kept g4 (ownNot U3 hlt); have G4 := gtrans G3 g4; clear O3 U3 R3 G3 g4; obtain ⟨⟨i, t⟩, hx⟩ : ∃ x, L[k] = x := ⟨_, rfl⟩; have HX : Hid (L[k] = ⟨i, t⟩) := hx; have hxs := HS.out _ (List.getElem_mem hk); rw [hx] at hxs; have d1 := (O4.cellAt (k * 2) (by omega)).trans (cellsP_get L k hk).1; have d2 := (O4.cellAt (k * 2 + 1) (by omega)).trans (cellsP_get L k hk).2; rw [hx] at d1 d2; clear hx; have hf0 := O4.frozenAt (k * 2); have HO4 : Hid (w4.ownsRow w.heap.size 35 2 (.slice (some ⟨g, 0, none⟩) L.length cv) L.length (cellsP L)) := O4; clear O4; rcases (show c = 0 ∨ c = 1 ∨ c = 2 ∨ c = 3 by omega) with rfl | rfl | rfl | rfl)
    | (go_at_call 50; refine (text_on _ rb 2 (p1 + 1 + 1 + 1) a len cap zs R4 (by omega) (by omega) (by omega) (by omega)).mono ?_; rintro e w5 ⟨s, p5, rfl, hs, hp5, R5, g5⟩; have z5 := g5.size; have O5 := HO4.out.kept g5 (ownNot HO4.out hlt); have U5 := U4.kept g5 (ownNot U4 hlt); have G5 := gtrans G4 g5; have hf5 := O5.frozenAt (k * 2 + 1); obtain ⟨u5, hu5⟩ := ownsCell O5 (k * 2 + 1) (by omega); have HO5 : Hid (w5.ownsRow w.heap.size 35 2 (.slice (some ⟨g, 0, none⟩) L.length cv) L.length (cellsP L)) := O5; clear O5 R4 G4 g5)
    | (at_builtin; refine wpList_append_own _ rfl _ _ 23 rfl w.heap.size 35 i0 (.agg #[.int .i64 0, .string ByteArray.empty]) 2 24 Tryz.underlying23 hi hz0 hz1 hz2 rfl (by decide) _ _ _ rfl (HO4.out.alloc _) ⟨w4.heap.size, 0, none⟩ 1 1 [.int .i64 i, .string t] rfl rfl (cells_new w4 #[.int .i64 i, .string t] 35) (by simp [Value.oneCell']) (by unfold maxLen; omega) (by omega) (by simp; omega) ?_; intro v6 w6 O6 g6 _; have X1 := HO4.out.alloc (.cells #[.int .i64 i, .string t] 35); have X4 := U4.alloc (.cells #[.int .i64 i, .string t] 35); have U6 := X4.kept g6 (rowsApart2 X4 X1 (by decide)); have G6 := grOwn (gtrans G4 (galloc w4 (.cells #[.int .i64 i, .string t] 35))) X1 (Nat.le_refl _) g6; have R6 := rdOwn (R4.alloc (by omega) _) X1 hlt (by simp; omega) g6)
    | (go_at_call 21; refine (polOutS_own _ L i w4 HO4.out (by omega)).mono ?_; rintro e w7 ⟨⟨v7, rfl, o7⟩, hb7⟩; have z7 := hb7.size; have R7 := rdBelF R4 hb7 (by omega); have U7 := ownsUnder U4 hb7 (Nat.le_refl _); have G7 := gtrans G4 (gBelow (r := some rb) hb7)))
  · obtain rfl := List.eq_nil_of_length_eq_zero h0
    go_ret2
    exact ⟨⟨_, _, [], R, rfl, by simp, HS.out.sh, hR, smP_in HS.out, HRI.out, O1, U1⟩, G1, p1, by omega, R1⟩
  · go_ret2
    have O5 := (HO4.out.stored (k * 2) (.int .i64 (i + 1))).1
    rw [cellsP_set0 L k hk] at O5
    exact ⟨⟨_, _, L.set k ⟨i + 1, (L[k]).tx⟩, R, rfl, by simp; omega, shP_set HS.out.sh _ _ (HS.out _ (List.getElem_mem hk)).1, hR, inI_set (smP_in HS.out) k _ (show inI (i + 1) from ⟨by have := hxs.2.1; omega, by have := hxs.2.2; omega⟩), HRI.out, by rw [List.length_set]; exact O5, U4.kept (grSet w4 g _ _) (rowsApart U4 HO4.out (by decide))⟩, grOwn G4 HO4.out (Nat.le_refl _) (grSet w4 g _ _), p1 + 1 + 1 + 1, by omega, rdOwn R4 HO4.out hlt (by omega) (grSet w4 g _ _)⟩
  · go_ret2
    have O6 := (HO5.out.stored (k * 2 + 1) (.string s)).1
    rw [cellsP_set1 L k hk] at O6
    exact ⟨⟨_, _, L.set k ⟨(L[k]).id, s⟩, R, rfl, by simp; omega, shP_set HS.out.sh _ _ (show s.size ≤ 1000 by omega), hR, inI_set (smP_in HS.out) k _ (show inI (L[k]).id from smP_in HS.out _ (List.getElem_mem hk)), HRI.out, by rw [List.length_set]; exact O6, U5.kept (grSet w5 g _ _) (rowsApart U5 HO5.out (by decide))⟩, grOwn G5 HO5.out (Nat.le_refl _) (grSet w5 g _ _), p5, by omega, rdOwn R5 HO5.out hlt (by omega) (grSet w5 g _ _)⟩
  · go_ret2
    exact ⟨⟨_, _, L ++ [⟨i, t⟩], R, rfl, by simp; omega, shP_snoc HS.out.sh _ hxs.1, hR, (fun y hy => by
      rcases List.mem_append.1 hy with hy | hy
      · exact smP_in HS.out y hy
      · obtain rfl := List.mem_singleton.1 hy
        exact ⟨by have := hxs.2.1; show _ ≤ i; omega, by have := hxs.2.2; show i ≤ _; omega⟩), HRI.out, by rw [cellsP_snoc, List.length_append]; exact O6, U6⟩, G6, p1 + 1 + 1 + 1, by omega, R6⟩
  · go_ret2
    exact ⟨⟨_, _, outP L i, R, rfl, Nat.le_trans (outP_le L i) (by omega), shP_out HS.out.sh i, hR, (fun y hy => smP_in HS.out y (List.mem_filter.1 hy).1), HRI.out, ownsUpF o7 (by omega), U7⟩, G7, p1 + 1 + 1 + 1, by omega, R7⟩
  · go_ret2
    exact ⟨⟨_, _, L, R, rfl, by omega, HS.out.sh, hR, smP_in HS.out, HRI.out, O2, U2⟩, G2, p1 + 1, by omega, R2⟩
set_option maxHeartbeats 1000000 in
theorem id_on (w : World) (rb p : Nat) (a : Option Addr) (len cap : Nat) (zs : Nat → Int) (h : Rd w rb p a len cap zs) (hp : p ≤ 900000) (hlt : rb < w.heap.size) :
    Calls Tryz.prog 60 #[.pointer (some ⟨rb, 0, none⟩)] w fun e w' => ∃ (n : Int) (p' : Nat), e = .returned (.int .i64 n) ∧ -1 ≤ n ∧ n ≤ 5000000000 ∧ p' ≤ p + 3 ∧ Rd w' rb p' a len cap zs ∧ w.grownBy w' (some rb) := by
  go_enter Tryz.func60, Tryz.ntmps60
  go_wp2_with (first
    | (go_at_call 49; refine (pick_any _ rb p a len cap 256 zs h (by omega) (by omega) (by omega)).mono ?_; rintro e w1 ⟨v0, hv0, rfl, hR1, hg1⟩; clear h; have hl1 : rb < w1.heap.size := Nat.lt_of_lt_of_le hlt hg1.size)
    | (go_at_call 49; refine (pick_any _ rb _ a len cap 256 zs hR1 (by omega) (by omega) (by omega)).mono ?_; rintro e w2 ⟨v1, hv1, rfl, hR2, hg2⟩; clear hR1; have hl2 : rb < w2.heap.size := Nat.lt_of_lt_of_le hl1 hg2.size)
    | (go_at_call 49; refine (pick_any _ rb _ a len cap 7 zs (hR2.alloc hl2 _) (by omega) (by omega) (by omega)).mono ?_; rintro e w3 ⟨v, hv, rfl, hR3, hg3⟩; clear hR2; obtain ⟨n, hcell, hn1, hn2⟩ := litInts7 _ hg3 hl2 v hv (by omega) (by omega)))
  go_ret
  exact ⟨n, p + 1 + 1 + 1, rfl, hn1, hn2, by omega, hR3, gtrans (gtrans (gtrans hg1 hg2) (galloc _ _)) hg3⟩

set_option maxHeartbeats 8000000 in
set_option maxRecDepth 100000 in
theorem drawPolReach_any (w : World) (a : Option Addr) (len cap : Nat) (zs : Nat → Int) (h : Src w a len cap zs) :
    Calls Tryz.prog 27 #[.slice a len cap] w fun e w' => (∃ (v u : Value) (L : List PI) (R : List Int), e = .returned (.tuple #[v, u]) ∧ L.length ≤ 701 ∧ shP L ∧ R.length ≤ 5 ∧ (∀ r ∈ R, inI r) ∧ w'.ownsRow w.heap.size 35 2 v L.length (cellsP L) ∧ w'.ownsRow w.heap.size 3 1 u R.length (cellsI R)) ∧ Below w.heap.size w w' := by
  obtain ⟨i0, hi, hz0, hz1, hz2⟩ := info_parts infoI
  have ta : True := trivial
  have tc : True := trivial
  go_enter Tryz.func27, Tryz.ntmps27
  go_wp2_with (first
    | (go_at_call 47; refine (open_any _ a len cap zs h).mono ?_; rintro e w1 ⟨a', len', cap', rfl, hR1, hl1, hg1⟩)
    | (go_at_call 48; refine (anyPool2_any w1 w.heap.size 0 5 a' len' cap' zs hR1 (by omega) hl1 (by omega) (by omega)).mono ?_; rintro e w2 ⟨⟨v, u, L, R, rfl, hL, hS, hR, hLI, hRI, O2, U2⟩, G2, p2, hp2, R2⟩; have z2 := G2.size; have HS : Hid (shP L) := hS; have HLI : Hid (∀ x ∈ L, inI x.id) := hLI; have HRI : Hid (∀ r ∈ R, inI r) := hRI; clear hS hLI hRI; rcases rowSplit O2 with ⟨hb0, h0, A, cv, rfl⟩ | ⟨hb0, h0, g, cv, rfl, hg⟩)
    | (go_at_call 49; have _t := ta; refine (pick_any _ w.heap.size p2 a' len' cap' 4 zs R2 (by omega) (by omega) (by omega)).mono ?_; rintro e w3 ⟨k0, hk0, rfl, R3, g3⟩; have z3 := g3.size; have O3 := O2.kept g3 (ownNot O2 (by omega)); have U3 := U2.kept g3 (ownNot U2 (by omega)); have G3 := gtrans G2 g3; clear O2 U2 R2 G2 g3 _t ta; obtain rfl | hk1 : k0 = 0 ∨ (k0 : Int) ≠ 0 := by omega))
  · obtain rfl := List.eq_nil_of_length_eq_zero h0
    go_wp2_with (first
      | (go_at_call 60; refine (id_on w3 w.heap.size (p2 + 1) a' len' cap' zs R3 (by omega) (by omega)).mono ?_; rintro e w4 ⟨id, p4, rfl, hid1, hid2, hp4, R4, g4⟩; have z4 := g4.size; have O4 := O3.kept g4 (ownNot O3 (by omega)); have U4 := U3.kept g4 (ownNot U3 (by omega)); have G4 := gtrans G3 g4; have HIDI : Hid (inI id) := (show inI id from ⟨by omega, by omega⟩); clear O3 U3 R3 G3 g4)
      | (at_builtin; have X1 := U4.alloc (.cells #[.int .i64 id] 3); have X2 := cells_new w4 #[.int .i64 id] 3; have X3 : w1.heap.size ≤ (w4.alloc (.cells #[.int .i64 id] 3)).heap.size := (by simp; omega); have X4 := O4.alloc (.cells #[.int .i64 id] 3); have X5 := rowsApart2 X4 X1 (by decide); have X6 := gtrans G4 (galloc w4 (.cells #[.int .i64 id] 3)); have X7 := R4.alloc (by omega) (.cells #[.int .i64 id] 3); have X8 : w.heap.size < (w4.alloc (.cells #[.int .i64 id] 3)).heap.size := (by simp; omega); have X9 : w.heap.size < w1.heap.size := hl1; refine wpList_append_own _ rfl _ _ 41 rfl w1.heap.size 3 i0 (.int .i64 0) 1 8 Tryz.underlying41 hi hz0 hz1 hz2 rfl (by decide) _ _ _ rfl X1 ⟨w4.heap.size, 0, none⟩ 1 1 [.int .i64 id] rfl rfl X2 (fun u hu => by simp at hu; subst hu; rfl) (by unfold maxLen; omega) (by omega) X3 ?_; intro v5 w5 U5 g5 _; have O5 := X4.kept g5 X5; have G5 := grOwn X6 X1 (Nat.le_refl _) g5; have R5 := rdOwn X7 X1 X9 X8 g5; have z5 := G5.size; clear X1 X2 X3 X4 X5 X6 X7 X8 X9))
    go_ret2
    exact ⟨⟨_, _, [], R ++ [id], rfl, hL, HS.out, by simp; omega, inI_snoc HRI.out HIDI.out, ownsUpF O5 (by omega), by rw [show cellsI (R ++ [id]) = cellsI (R) ++ [.int .i64 id] by simp [cellsI], List.length_append]; exact ownsUpF U5 (by omega)⟩, belowBy hg1 G5⟩
  · obtain rfl := List.eq_nil_of_length_eq_zero h0
    go_wp2
    go_ret2
    exact ⟨⟨_, _, [], R, rfl, hL, HS.out, by omega, HRI.out, ownsUpF O3 (by omega), ownsUpF U3 (by omega)⟩, belowBy hg1 G3⟩
  · go_wp2_with (first
      | (go_at_call 60; refine (id_on w3 w.heap.size (p2 + 1) a' len' cap' zs R3 (by omega) (by omega)).mono ?_; rintro e w4 ⟨id, p4, rfl, hid1, hid2, hp4, R4, g4⟩; have z4 := g4.size; have O4 := O3.kept g4 (ownNot O3 (by omega)); have U4 := U3.kept g4 (ownNot U3 (by omega)); have G4 := gtrans G3 g4; have HIDI : Hid (inI id) := (show inI id from ⟨by omega, by omega⟩); clear O3 U3 R3 G3 g4)
      | (at_builtin; have X1 := U4.alloc (.cells #[.int .i64 id] 3); have X2 := cells_new w4 #[.int .i64 id] 3; have X3 : w1.heap.size ≤ (w4.alloc (.cells #[.int .i64 id] 3)).heap.size := (by simp; omega); have X4 := O4.alloc (.cells #[.int .i64 id] 3); have X5 := rowsApart2 X4 X1 (by decide); have X6 := gtrans G4 (galloc w4 (.cells #[.int .i64 id] 3)); have X7 := R4.alloc (by omega) (.cells #[.int .i64 id] 3); have X8 : w.heap.size < (w4.alloc (.cells #[.int .i64 id] 3)).heap.size := (by simp; omega); have X9 : w.heap.size < w1.heap.size := hl1; refine wpList_append_own _ rfl _ _ 41 rfl w1.heap.size 3 i0 (.int .i64 0) 1 8 Tryz.underlying41 hi hz0 hz1 hz2 rfl (by decide) _ _ _ rfl X1 ⟨w4.heap.size, 0, none⟩ 1 1 [.int .i64 id] rfl rfl X2 (fun u hu => by simp at hu; subst hu; rfl) (by unfold maxLen; omega) (by omega) X3 ?_; intro v5 w5 U5 g5 _; have O5 := X4.kept g5 X5; have G5 := grOwn X6 X1 (Nat.le_refl _) g5; have R5 := rdOwn X7 X1 X9 X8 g5; have z5 := G5.size; clear X1 X2 X3 X4 X5 X6 X7 X8 X9)
      | (go_at_call 49; have _t := tc; refine (pick_any _ w.heap.size (p4) a' len' cap' 2 zs R5 (by omega) (by omega) (by omega)).mono ?_; rintro e w6 ⟨k6, hk6, rfl, R6, g6⟩; have z6 := g6.size; have O6 := O5.kept g6 (ownNot O5 (by omega)); have U6 := U5.kept g6 (ownNot U5 (by omega)); have G6 := gtrans G5 g6; clear g6 _t tc; obtain rfl | hk7 : k6 = 0 ∨ (k6 : Int) ≠ 0 := by omega)
      | (go_at_call 49; refine (pick_any _ w.heap.size (p4 + 1) a' len' cap' L.length zs R6 (by omega) (by omega) (by omega)).mono ?_; rintro e w7 ⟨k7, hk7, rfl, R7, g7⟩; have z7 := g7.size; have O7 := O6.kept g7 (ownNot O6 (by omega)); have U7 := U6.kept g7 (ownNot U6 (by omega)); have G7 := gtrans G6 g7; obtain ⟨⟨i, t⟩, hx⟩ : ∃ x, L[k7] = x := ⟨_, rfl⟩; have hxi := HLI.out _ (List.getElem_mem hk7); have d1 := (O7.cellAt (k7 * 2) (by omega)).trans (cellsP_get L k7 hk7).1; rw [hx] at d1 hxi; have HXI : Hid (inI i) := hxi; clear hx hxi g7)
      | (at_builtin; have X1 := U7.alloc (.cells #[.int .i64 i] 3); have X2 := cells_new w7 #[.int .i64 i] 3; have X3 : w1.heap.size ≤ (w7.alloc (.cells #[.int .i64 i] 3)).heap.size := (by simp; omega); have X4 := O7.alloc (.cells #[.int .i64 i] 3); have X5 := rowsApart2 X4 X1 (by decide); have X6 := gtrans G7 (galloc w7 (.cells #[.int .i64 i] 3)); have X7 := R7.alloc (by omega) (.cells #[.int .i64 i] 3); have X8 : w.heap.size < (w7.alloc (.cells #[.int .i64 i] 3)).heap.size := (by simp; omega); have X9 : w.heap.size < w1.heap.size := hl1; refine wpList_append_own _ rfl _ _ 41 rfl w1.heap.size 3 i0 (.int .i64 0) 1 8 Tryz.underlying41 hi hz0 hz1 hz2 rfl (by decide) _ _ _ rfl X1 ⟨w7.heap.size, 0, none⟩ 1 1 [.int .i64 i] rfl rfl X2 (fun u hu => by simp at hu; subst hu; rfl) (by unfold maxLen; omega) (by omega) X3 ?_; intro v8 w8 U8 g8 _; have O8 := X4.kept g8 X5; have G8 := grOwn X6 X1 (Nat.le_refl _) g8; have R8 := rdOwn X7 X1 X9 X8 g8; have z8 := G8.size; clear X1 X2 X3 X4 X5 X6 X7 X8 X9))
    · go_ret2
      exact ⟨⟨_, _, L, R ++ [id] ++ [i], rfl, hL, HS.out, by simp; omega, inI_snoc (inI_snoc HRI.out HIDI.out) HXI.out, ownsUpF O8 (by omega), by rw [show cellsI (R ++ [id] ++ [i]) = cellsI R ++ [.int .i64 id] ++ [.int .i64 i] by simp [cellsI], List.length_append, List.length_append]; exact ownsUpF U8 (by omega)⟩, belowBy hg1 G8⟩
    · go_ret2
      exact ⟨⟨_, _, L, R ++ [id], rfl, hL, HS.out, by simp; omega, inI_snoc HRI.out HIDI.out, ownsUpF O6 (by omega), by rw [show cellsI (R ++ [id]) = cellsI (R) ++ [.int .i64 id] by simp [cellsI], List.length_append]; exact ownsUpF U6 (by omega)⟩, belowBy hg1 G6⟩
  · go_wp2_with (first
      | (go_at_call 49; have _t := tc; refine (pick_any _ w.heap.size (p2 + 1) a' len' cap' 2 zs R3 (by omega) (by omega) (by omega)).mono ?_; rintro e w6 ⟨k6, hk6, rfl, R6, g6⟩; have z6 := g6.size; have O6 := O3.kept g6 (ownNot O3 (by omega)); have U6 := U3.kept g6 (ownNot U3 (by omega)); have G6 := gtrans G3 g6; clear g6 _t tc; obtain rfl | hk7 : k6 = 0 ∨ (k6 : Int) ≠ 0 := by omega)
      | (go_at_call 49; refine (pick_any _ w.heap.size (p2 + 1 + 1) a' len' cap' L.length zs R6 (by omega) (by omega) (by omega)).mono ?_; rintro e w7 ⟨k7, hk7, rfl, R7, g7⟩; have z7 := g7.size; have O7 := O6.kept g7 (ownNot O6 (by omega)); have U7 := U6.kept g7 (ownNot U6 (by omega)); have G7 := gtrans G6 g7; obtain ⟨⟨i, t⟩, hx⟩ : ∃ x, L[k7] = x := ⟨_, rfl⟩; have hxi := HLI.out _ (List.getElem_mem hk7); have d1 := (O7.cellAt (k7 * 2) (by omega)).trans (cellsP_get L k7 hk7).1; rw [hx] at d1 hxi; have HXI : Hid (inI i) := hxi; clear hx hxi g7)
      | (at_builtin; have X1 := U7.alloc (.cells #[.int .i64 i] 3); have X2 := cells_new w7 #[.int .i64 i] 3; have X3 : w1.heap.size ≤ (w7.alloc (.cells #[.int .i64 i] 3)).heap.size := (by simp; omega); have X4 := O7.alloc (.cells #[.int .i64 i] 3); have X5 := rowsApart2 X4 X1 (by decide); have X6 := gtrans G7 (galloc w7 (.cells #[.int .i64 i] 3)); have X7 := R7.alloc (by omega) (.cells #[.int .i64 i] 3); have X8 : w.heap.size < (w7.alloc (.cells #[.int .i64 i] 3)).heap.size := (by simp; omega); have X9 : w.heap.size < w1.heap.size := hl1; refine wpList_append_own _ rfl _ _ 41 rfl w1.heap.size 3 i0 (.int .i64 0) 1 8 Tryz.underlying41 hi hz0 hz1 hz2 rfl (by decide) _ _ _ rfl X1 ⟨w7.heap.size, 0, none⟩ 1 1 [.int .i64 i] rfl rfl X2 (fun u hu => by simp at hu; subst hu; rfl) (by unfold maxLen; omega) (by omega) X3 ?_; intro v8 w8 U8 g8 _; have O8 := X4.kept g8 X5; have G8 := grOwn X6 X1 (Nat.le_refl _) g8; have R8 := rdOwn X7 X1 X9 X8 g8; have z8 := G8.size; clear X1 X2 X3 X4 X5 X6 X7 X8 X9))
    · go_ret2
      exact ⟨⟨_, _, L, R ++ [i], rfl, hL, HS.out, by simp; omega, inI_snoc HRI.out HXI.out, ownsUpF O8 (by omega), by rw [show cellsI (R ++ [i]) = cellsI (R) ++ [.int .i64 i] by simp [cellsI], List.length_append]; exact ownsUpF U8 (by omega)⟩, belowBy hg1 G8⟩
    · go_ret2
      exact ⟨⟨_, _, L, R, rfl, hL, HS.out, by omega, HRI.out, ownsUpF O6 (by omega), ownsUpF U6 (by omega)⟩, belowBy hg1 G6⟩
end Go.Proofs.YthfffpdkmoclbaaGreatDoor.W
namespace Go.Proofs.YthfffpdkmoclbaaGreatDoor.W
open Go.RowKit Go.Shelf Go.Proofs.YthfffpdkmoclbaaGreatDoor.M Go.Maps Go.Sort Go.MapKept Go.ChangeMaps
attribute [local go_sem] Oper.semAt_some
set_option linter.unusedVariables false

/-- what a loop body must leave as it is: maps, and all rows but two -/
def keptI : Obj → Bool
  | .cells _ _ _ => true
  | o => o.isWalk
structure KpI (g1 g2 : Nat) (W W' : World) : Prop where
  size : W.heap.size ≤ W'.heap.size
  same : ∀ (k : Nat) (o : Obj), W.heap[k]? = some o → keptI o = true → k ≠ g1 → k ≠ g2 → W'.heap[k]? = some o
theorem kpI_t {g1 g2 : Nat} {A B C : World} (h : KpI g1 g2 A B) (k : KpI g1 g2 B C) : KpI g1 g2 A C := ⟨Nat.le_trans h.size k.size, fun i o hi ho h1 h2 => k.same i o (h.same i o hi ho h1 h2) ho h1 h2⟩
theorem kpI_b (g1 g2 : Nat) (W : World) (l : Nat) (o o' : Obj) (hl : W.heap[l]? = some o) (h1 : o.isCells = false) (h2 : o.isWalk = false) : KpI g1 g2 W (W.putObj l o') := by
  refine ⟨by simp [World.putObj], fun k o2 hk ho _ _ => ?_⟩
  by_cases hkl : k = l
  · subst hkl
    obtain rfl : o2 = o := by rw [hk] at hl; exact Option.some.inj hl
    cases o2 <;> simp_all [keptI, Obj.isCells, Obj.isWalk]
  · exact (World.putObj_heap_other (by omega)).trans hk
theorem KpI.map {g1 g2 : Nat} {W W' : World} (h : KpI g1 g2 W W') {P : Program} {k : TypeId} {R : Value → Option (DataW Unit × List MemPlace)} {b n : Nat} {D : DataW Unit} (ho : W.ownsMap P k R b n D) (hb1 : b ≠ g1 ∧ b ≠ g2) : W'.ownsMap P k R b n D := by
  obtain ⟨es, clock, hb, Ft, hs, hD⟩ := ho
  exact ⟨es, clock, h.same b _ hb rfl hb1.1 hb1.2, Ft, hs, hD⟩
theorem KpI.row {g1 g2 : Nat} {W W' : World} (h : KpI g1 g2 W W') {base n : Nat} {v : Value} {xs : List Value} (ho : W.ownsRow base 3 1 v n xs) (hb : g1 < base ∧ g2 < base) : W'.ownsRow base 3 1 v n xs := by
  refine ⟨ho.1, ?_⟩
  rcases ho.2 with h1 | ⟨g, cap, cur, h1, h2, h3, h4⟩
  · exact .inl h1
  · exact .inr ⟨g, cap, cur, h1, h2, h.same g _ h3 (by simp [keptI]) (by omega) (by omega), h4⟩
theorem kpI_appended {W w3 : World} {g B : Nat} {v' : Value} {tmp : Obj} (hgrow : (W.alloc tmp).grownBy w3 (some g)) : KpI g B W (w3.setCell ⟨B, 0, none⟩ v') := by
  refine ⟨?_, fun k o hk _ h1 h2 => ?_⟩
  · have := hgrow.size; simp at this; simp [World.setCell]; omega
  have hlt : k < W.heap.size := (Array.getElem?_eq_some_iff.1 hk).1
  exact (Below.heap_setCell _ _ _ k (fun e => h2 e)).trans ((hgrow.block k (by simp; omega) (fun e => h1 (Option.some.inj e))).trans ((Below.heap_alloc _ _ _ hlt).trans hk))
theorem KpI.refl (g1 g2 : Nat) (W : World) : KpI g1 g2 W W := ⟨Nat.le_refl _, fun _ _ h _ _ _ => h⟩

set_option maxHeartbeats 2000000 in
set_option maxRecDepth 100000 in
theorem order_stopsI (g1 g2 B b nn : Nat) (D : DataW Unit) (f : Int → Option ByteArray) (w : World) (hB : B < w.heap.size) (hc : w.heap[B]? = some (.cells #[.map (some b)] 74 (0, 0))) (hown : w.ownsMap Tryz.prog 3 itemElem b nn D) (hf : mapP D f) (hn : nn ≤ 1048576) (hg : g1 < w.heap.size ∧ g2 < w.heap.size) (hb1 : b ≠ g1 ∧ b ≠ g2) (hB1 : B ≠ g1 ∧ B ≠ g2) :
    SeqStopsK Fence.wide 6 Tryz.prog 113 #[.pointer (some ⟨B, 0, none⟩)] encsF (KpI g1 g2) (fun xs => RiseP xs ∧ (∀ q, findP xs q = f q)) (fun _ => True) (Maps.size D) w := fun l J Jx W hW hJ hJx hY h0 => by
  have hcW : W.heap[B]? = some (.cells #[.map (some b)] 74 (0, 0)) := (hW.block B hB).trans hc
  have hownW : W.ownsMap Tryz.prog 3 itemElem b nn D := by
    have hbl := hown.lt
    obtain ⟨es, clock, hb, Ft, hs, hD⟩ := hown
    exact ⟨es, clock, (hW.block b hbl).trans hb, Ft, hs, hD⟩
  have law := Maps.int_keyed (P := Tryz.prog) Tryz.underlying3
  obtain ⟨hnd, hmem⟩ := keys_iff hownW law Tryz.underlying3
  have hsize := hownW.size_le
  have hm0 : Maps.size D ≤ maxLen := by unfold maxLen; omega
  have hcell : W.cell? ⟨B, 0, none⟩ = some (.map (some b)) := by simp [World.cell?, hcW]
  have cK := keysCall (some b) W
  have cS := sortedCall b nn D W hownW hm0 (by omega)
  have h1 : 1 ≤ 6 := by omega
  have hfK : Fence.wide.fn 115 := trivial
  have hfS : Fence.wide.fn 114 := trivial
  have HOW : Hid (W.ownsMap Tryz.prog 3 itemElem b nn D) := hownW
  have HCW : Hid (W.heap[B]? = some (.cells #[.map (some b)] 74 (0, 0))) := hcW
  refine callsIn_of_wp Tryz.func113 rfl trivial ?_ rfl
  simp only [Tryz.ntmps113, List.size_toArray, List.length_cons, List.length_nil, Nat.reduceAdd, Nat.reduceSub, Array.replicate_succ, Array.replicate_zero, List.push_toArray, List.append_toArray, List.nil_append, List.cons_append]
  gi_wp2_with (first
    | (gi_at_call 115; refine cK.mono ?_; rintro e w' ⟨rfl, rfl⟩; clear cK)
    | (gi_at_call 114; refine cS.mono ?_; rintro e w2 ⟨v, ss, rfl, hS, hrow, hnil, hb⟩; obtain ⟨A, cA, rfl, hA⟩ := row_form hrow; have HS : Hid (ss.Perm (intKeys D)) := hS; have HROW : Hid (w2.ownsRow (W.alloc (.cells #[.map (some b)] 74)).heap.size 3 1 (.slice A ss.length cA) ss.length ((ss.mergeSort (fun x y => decide (x ≤ y))).map encZ)) := hrow; have HBL : Hid (Below W.heap.size W w2) := (show Below W.heap.size W w2 from ((Below.refl _ _).alloc (Nat.le_refl _) _).trans (hb.mono (by simp))); clear cS hA hb hrow hS hnil))
  obtain ⟨ks, hks⟩ : ∃ ks, ks = ss.mergeSort fun x y => decide (x ≤ y) := ⟨_, rfl⟩
  obtain ⟨hrise, hfind, hsome, hlen⟩ := itemsOf_ok hnd hmem hf HS.out hks
  have hls : ss.length = ks.length := by rw [hks, List.length_mergeSort]
  have HKS : Hid (w2.ownsRow (W.alloc (.cells #[.map (some b)] 74)).heap.size 3 1 (.slice A ss.length cA) ss.length (ks.map encZ)) := (show World.ownsRow _ _ _ _ _ _ _ from by rw [hks]; exact HROW.out)
  have hkn : ks.length ≤ Maps.size D := by
    have : (intKeys D).length = Maps.size D := by
      obtain ⟨es, hD, _⟩ := hownW.entries law
      rw [hD]; show (es.map _).length = _; rw [List.length_map, Maps.size_eq]
    omega
  have hJ2 : J [] w2 := hJ [] W w2 none h0 ⟨HBL.out.os, HBL.out.tape, HBL.out.output, HBL.out.size, fun k hk _ => HBL.out.block k hk⟩ (fun r e => by cases e)
  have HM2 : Hid (w2.ownsMap Tryz.prog 3 itemElem b nn D) := (show World.ownsMap _ _ _ _ _ _ _ from by
    obtain ⟨es, clock, hb, Ft, hs, hD⟩ := HOW.out
    exact ⟨es, clock, (HBL.out.block b HOW.out.lt).trans hb, Ft, hs, hD⟩)
  have HC2 : Hid (w2.heap[B]? = some (.cells #[.map (some b)] 74 (0, 0))) := (HBL.out.block B (by have := hW.size; omega)).trans HCW.out
  have hkl : ∀ k ∈ ks, (Lit.int .i64 k).wf = true := fun k hk => by
    have h9 : k ∈ ss := by rw [hks] at hk; exact (List.mergeSort_perm _ _).mem_iff.1 hk
    exact intKeys_wf HOW.out Tryz.underlying3 k (HS.out.mem_iff.1 h9)
  rw [hls] at HKS ⊢
  have hk64 : ks.length ≤ 1048576 := by omega
  have HKN : Hid (ks.length ≤ Maps.size D) := hkn
  have HGB : Hid (g1 < (W.alloc (.cells #[.map (some b)] 74)).heap.size ∧ g2 < (W.alloc (.cells #[.map (some b)] 74)).heap.size) := (show _ ∧ _ from by have := hW.size; simp; omega)
  clear hks HROW HS hls hcell hownW hcW h0 hlen hm0 hnd hmem hkn
  gi_wp2
  gi_loopw [9] (fun iv wr => ∃ j : Nat, j ≤ ks.length ∧ iv = .int .i64 j ∧ J ((itemsOf f ks).take j) wr ∧ KpI g1 g2 w2 wr) (fun i _ => ks.length - (RowKit.intOf i).toNat)
  case atStart => exact ⟨0, Nat.zero_le _, rfl, hJ2, KpI.refl g1 g2 _⟩
  case round =>
    obtain ⟨j, hj, rfl, hJr, hkp⟩ := hrel
    by_cases hlt : j < ks.length
    · have hrowr := hkp.row HKS.out HGB.out
      obtain ⟨A', c', e', hA⟩ := row_form hrowr
      cases e'
      obtain ⟨g, rfl, hgl, hgc⟩ := hA j (by simpa using hlt)
      have hownr := hkp.map HM2.out hb1
      have hBr : wr.cell? ⟨B, 0, none⟩ = some (.map (some b)) := by
        have := hkp.same B _ HC2.out (by simp [keptI]) hB1.1 hB1.2
        simp [World.cell?, this]
      have hin : ks[j] ∈ ks := List.getElem_mem hlt
      have hso := hsome _ hin
      have hkeyl := hkl _ hin
      have HTK : Hid ((itemsOf f ks).take (j + 1) = (itemsOf f ks).take j ++ [⟨ks[j], (f ks[j]).getD ByteArray.empty⟩]) := (show _ = _ by rw [List.take_succ_eq_append_getElem (by simpa [itemsOf] using hlt)]; simp [itemsOf])
      simp only [List.getElem_map, encZ] at hgc
      obtain ⟨k, hk⟩ : ∃ k, ks[j] = k := ⟨_, rfl⟩
      rw [hk] at hgc hso hkeyl HTK
      obtain ⟨t, ht⟩ := Option.isSome_iff_exists.1 hso
      rw [ht] at HTK
      have hat := (hf k).2 t ht
      have hkey : keyOf Tryz.prog 3 (.int .i64 k) = some (.int .i64 k) := Maps.keyOf_int_mk Tryz.underlying3 hkeyl
      obtain ⟨v9, ps9, hrun, hv9⟩ := hownr.lookup law Tryz.underlying74 (zeroPI wr) (zd := .agg [.lit (.int .i64 0), .lit (.string [])]) (itemElem_mk 0 ByteArray.empty) hkey
      obtain ⟨s9, t9, rfl, hz9⟩ := itemElem_inv hv9
      rw [hat] at hz9
      have e1 : s9 = k := by
        have h9 := congrArg Prod.fst hz9
        simp only [DataW.agg.injEq, List.cons.injEq, DataW.lit.injEq, Lit.string.injEq, Lit.int.injEq] at h9
        exact h9.1.2.symm
      have e2 : t9 = t := by
        have h9 := congrArg Prod.fst hz9
        simp only [DataW.agg.injEq, List.cons.injEq, DataW.lit.injEq, Lit.string.injEq, Lit.int.injEq] at h9
        exact (paEq h9.2.1).symm
      subst e1; subst e2
      have hlenp : ((itemsOf f ks).take j).length < Maps.size D := by have := HKN.out; simp [itemsOf]; omega
      obtain ⟨fn, tmps, assign, body, hy, hR⟩ := hY _ ⟨s9, t9⟩ wr hJr hlenp
      dsimp only [encsF] at hy
      clear hv9 hat hz9 hso hin hA hkey hlenp hgl ht
      gi_wp2
      refine hR.mono ?_
      rintro e W3 (⟨rfl, hJ3, hk3⟩ | ⟨rfl, hJx3⟩)
      · gi_wp2
        go_roundw
        case rel => exact ⟨j + 1, by omega, by go_num, by rw [HTK.out]; exact hJ3, kpI_t hkp hk3⟩
        case measure => simp [RowKit.intOf]; omega
      · gi_wp2
        refine bodyPost_ret (results_none rfl _ _ _) rfl ?_
        exact ⟨⟨_, rfl⟩, .inr ⟨_, trivial, hJx3⟩⟩
    · gi_wp2
      go_end0
      obtain rfl : j = ks.length := by omega
      have e9 : (itemsOf f ks).take ks.length = itemsOf f ks := List.take_of_length_le (by simp [itemsOf])
      rw [e9] at hJr
      exact ⟨⟨_, rfl⟩, .inl ⟨itemsOf f ks, ⟨hrise, hfind⟩, hJr⟩⟩

set_option maxHeartbeats 2000000 in
set_option maxRecDepth 100000 in
theorem ids_any (b nn : Nat) (D : DataW Unit) (f : Int → Option ByteArray) (w : World) (hown : w.ownsMap Tryz.prog 3 itemElem b nn D) (hf : mapP D f) (hn : nn ≤ 1048576) :
    Calls Tryz.prog 62 #[.map (some b)] w fun e W' => ∃ v xs, e = .returned v ∧ RiseP xs ∧ (∀ q, findP xs q = f q) ∧ W'.ownsRow w.heap.size 3 1 v (idsP xs).length (cellsI (idsP xs)) ∧ Below w.heap.size w W' := by
  obtain ⟨i0, hi, hz0, hz1, hz2⟩ := info_parts infoI
  have hsz := hown.size_le
  have hrun := hown.len Tryz.underlying75 3
  have hbl := hown.lt
  refine (callsIn_wide (n := 7)).1 ?_
  refine callsIn_of_wp_marks Tryz.func62 rfl trivial ?_ rfl
  simp only [Tryz.ntmps62, List.size_toArray, List.length_cons, List.length_nil, Nat.reduceAdd, Nat.reduceSub, Array.replicate_succ, Array.replicate_zero, List.push_toArray, List.append_toArray, List.nil_append, List.cons_append]
  gi_wp2_with (first
    | (gi_at_make; refine wpListIn_make_own _ rfl _ _ 41 rfl w.heap.size 3 i0 (.int .i64 0) 1 Tryz.underlying41 hi hz0 hz1 .i64 .i64 _ (Maps.size D) rfl rfl rfl (by rw [hz2]; omega) (by unfold maxLen; omega) (Nat.le_refl _) ?_; intro w1 hown1 hgrow1)
    | (gi_at_call 84; refine (callsIn_wide.2 (inOrder_any b _)).mono ?_; rintro e w' ⟨rfl, rfl⟩)
    | (refine ⟨trivial, ?_⟩; gi_at_call 84; refine (callsIn_wide.2 (inOrder_any b _)).mono ?_; rintro e w' ⟨rfl, rfl⟩))
  have hs1 := hgrow1.size
  have bO := Boxed.new w1 41 (.slice (some ⟨w.heap.size, 0, none⟩) 0 (Maps.size D))
  have HB0 : Below w.heap.size w ((w1.alloc (.cells #[.slice (some ⟨w.heap.size, 0, none⟩) 0 (Maps.size D)] 41)).alloc (.cells #[.map (some b)] 74)) := (((Below.refl _ w).grown hgrow1 (Nat.le_refl _) (fun k e => by cases e)).alloc hs1 _).alloc (by simp; omega) _
  have bO2 := bO.alloc (.cells #[.map (some b)] 74)
  have hrow0 := (hown1.alloc (.cells #[.slice (some ⟨w.heap.size, 0, none⟩) 0 (Maps.size D)] 41)).alloc (.cells #[.map (some b)] 74)
  have hc0 : ((w1.alloc (.cells #[.slice (some ⟨w.heap.size, 0, none⟩) 0 (Maps.size D)] 41)).alloc (.cells #[.map (some b)] 74)).heap[w1.heap.size + 1]? = some (.cells #[.map (some b)] 74 (0, 0)) := by
    have := World.alloc_heap_new (w1.alloc (.cells #[.slice (some ⟨w.heap.size, 0, none⟩) 0 (Maps.size D)] 41)) (.cells #[.map (some b)] 74)
    rwa [World.size_alloc] at this
  have hown0 : ((w1.alloc (.cells #[.slice (some ⟨w.heap.size, 0, none⟩) 0 (Maps.size D)] 41)).alloc (.cells #[.map (some b)] 74)).ownsMap Tryz.prog 3 itemElem b nn D := by
    obtain ⟨es, clock, hb, Ft, hs, hD⟩ := hown
    exact ⟨es, clock, (HB0.block b hbl).trans hb, Ft, hs, hD⟩
  have hsz0 : ((w1.alloc (.cells #[.slice (some ⟨w.heap.size, 0, none⟩) 0 (Maps.size D)] 41)).alloc (.cells #[.map (some b)] 74)).heap.size = w1.heap.size + 2 := by simp
  obtain ⟨W0, hW0⟩ : ∃ W0, W0 = (w1.alloc (.cells #[.slice (some ⟨w.heap.size, 0, none⟩) 0 (Maps.size D)] 41)).alloc (.cells #[.map (some b)] 74) := ⟨_, rfl⟩
  rw [← hW0] at HB0 bO2 hrow0 hc0 hown0 hsz0 ⊢
  clear hW0
  refine wpIn_rangeFunc_ownH (α := PI) (encs := encsF) (Kp := KpI w.heap.size w1.heap.size) rfl (by omega) (gf := 113) (lb := #[.pointer (some ⟨w1.heap.size + 1, 0, none⟩)]) rfl trivial (enters_of Tryz.func113 (by kernel_rfl) rfl)
    (order_stopsI w.heap.size w1.heap.size (w1.heap.size + 1) b nn D f W0 (by omega) hc0 hown0 hf hn (by omega) (by omega) (by omega)) kpI_t (fun W l o o' _ h1 h2 h3 => kpI_b _ _ W l o o' h1 h2 h3) (Below.refl _ _) (fun _ => rfl)
    (fun pre W => (∃ v, Boxed W w1.heap.size 41 v ∧ W.ownsRow w.heap.size 3 1 v pre.length (cellsI (idsP pre)) ∧ v = .slice (some ⟨w.heap.size, 0, none⟩) pre.length (Maps.size D)) ∧ Below w.heap.size w W)
    (fun _ _ _ => False)
    (OwnFrom.and (Own.from (holdsRow_own w.heap.size w1.heap.size 41 3 1 (fun pre : List PI => pre.length) (fun pre => cellsI (idsP pre)) (fun pre v => v = .slice (some ⟨w.heap.size, 0, none⟩) pre.length (Maps.size D))) _) (ownFrom_below (Nat.le_refl _) (by omega)))
    (fun _ _ _ _ _ hs _ _ => hs)
    ⟨⟨_, bO2, hrow0, rfl⟩, HB0⟩
    (fun x a' W => a' = { tmps := #[.map (some b), undef, .slice none 0 0, .pointer (some ⟨w1.heap.size, 0, none⟩), .int .i64 x.id, .map (some b), .int .i64 (Maps.size D), .slice (some ⟨w.heap.size, 0, none⟩) 0 (Maps.size D), .map (some b), .func (.func 113) #[] #[.pointer (some ⟨w1.heap.size + 1, 0, none⟩)], .int .i64 x.id, .agg #[.int .i64 x.id, .string x.tx], undef, undef, undef, undef, undef], defers := [] })
    (fun x a' _ X Y row hs hg hrw => hs) ?assign ?body ?done ?stop
  case assign =>
    rintro l pre x W K ⟨⟨v, hv, hrow, hG⟩, hB⟩ hK
    dsimp only [encsF]
    gi_wp2
    exact hK _ _ ((KeepsOthers.refl _).from _) (KpI.refl _ _ _) ⟨⟨v, hv, hrow, hG⟩, hB⟩ rfl
  case body =>
    rintro l pre x a' W hl ⟨r, hr⟩ ⟨⟨v, hv, hrow, hG⟩, hB⟩ rfl hlt
    subst hG
    have hc := hv.cell
    gi_wp2_with (gi_at_builtin; refine wpListIn_append_fits _ rfl _ _ 41 rfl w.heap.size 3 i0 1 Tryz.underlying41 hi hz1 w.heap.size pre.length (Maps.size D) (cellsI (idsP pre)) rfl (hrow.alloc _) ⟨W.heap.size, 0, none⟩ 1 1 [.int .i64 x.id] rfl rfl (cells_new W #[.int .i64 x.id] 3) (by simp [Value.oneCell']) (by omega) ?_; intro w3 hown' hgrow; obtain ⟨hv1, hv2, hr2, hk2, hb2⟩ := hv.appended (by decide) hrow hB.size hs1 hown' hgrow; have hkp := kpI_appended (B := w1.heap.size) (v' := .slice (some ⟨w.heap.size, 0, none⟩) (pre.length + 1) (Maps.size D)) hgrow; have hc1 := hv1.cell; have hf1 := hv1.frozen)
    exact ⟨hk2.from _, hkp, ⟨_, hv2, by rw [show cellsI (idsP (pre ++ [x])) = cellsI (idsP pre) ++ [.int .i64 x.id] by simp [cellsI, idsP], List.length_append]; exact hr2, by rw [List.length_append]; rfl⟩, hB.trans hb2⟩
  case done =>
    rintro D' ys W hD hS ⟨⟨v, hv, hrow, hG⟩, hB⟩ hK
    have hil : (idsP ys).length = ys.length := by simp [idsP]
    have hc := hv.cell
    gi_wp2
    refine ⟨by simp, .inl ⟨_, _, rfl, run_takeDeferred hK, ?_⟩⟩
    subst hG
    exact ⟨_, results_tmp rfl _ _ _, _, ys, rfl, hS.1, hS.2, by rw [hil]; exact ownsRow_putObj hrow _ hK rfl, hB.trans (belowK_b (w := w) (Nat.le_refl _) W D' _ _ (by omega) hK rfl rfl)⟩
  case stop =>
    rintro D' c pre W _ _ h _
    exact h.elim
theorem mem_idsP (xs : List PI) (n : Int) : n ∈ idsP xs ↔ (findP xs n).isSome = true := by
  induction xs with
  | nil => simp [idsP, findP]
  | cons x l ih =>
    have e : idsP (x :: l) = x.id :: idsP l := rfl
    rw [e, List.mem_cons, ih]
    show _ ↔ (if x.id = n then some x.tx else findP l n).isSome = true
    by_cases h : x.id = n
    · simp [h]
    · rw [if_neg h]
      constructor
      · rintro (h' | h')
        · exact absurd h'.symm h
        · exact h'
      · exact .inr
theorem riseI_idsP (xs : List PI) (h : RiseP xs) : RiseI (idsP xs) := by
  unfold RiseI idsP
  rw [List.pairwise_map]
  exact h
set_option maxHeartbeats 4000000 in
set_option maxRecDepth 100000 in
theorem polReach_impl (A : Option Addr) (c : Nat) (L : List PI) (A2 : Option Addr) (c2 : Nat) (ids : List Int) (w : World) (hg : TypeCell w) (hL : RdP w.heap.size w A L) (hI : RdI w.heap.size w A2 ids) (hn : L.length ≤ 1048576) (hi : ids.length ≤ 1048576) (ht : ∀ j (h : j < L.length), (L[j]).tx.size ≤ 1048576) (hin : ∀ n ∈ ids, inI n) :
    Calls Tryz.prog 28 #[.slice A L.length c, .slice A2 ids.length c2] w fun e w' => (∃ v N al, e = .returned (.tuple #[v, .bool al]) ∧ ReachIs L ids N al ∧ w'.ownsRow w.heap.size 3 1 v N.length (cellsI N)) ∧ Below w.heap.size w w' := by
  have hgl := hg.lt
  have HG : Hid (TypeCell w) := hg
  have HI : Hid (RdI w.heap.size w A2 ids) := hI
  have HIN : Hid (∀ n ∈ ids, inI n) := hin
  cases hk : okP L
  · have hp := poolOf_no A c L w hg hL hn ht hk
    have HK : Hid (okP L = false) := hk
    clear hL hI ht hk hg hin
    go_enter Tryz.func28, Tryz.ntmps28
    go_wp2_with (go_at_call 51; refine hp.mono ?_; rintro e w1 ⟨rfl, hb1⟩; clear hp)
    go_ret2
    exact ⟨⟨_, [], false, rfl, .inr ⟨.inl HK.out, rfl, rfl⟩, World.ownsRow_nil _ _ _ _⟩, hb1⟩
  · have hp := poolOf_yes A c L w hg hL hn ht hk
    have HK : Hid (okP L = true) := hk
    have h7L := ((okP_iff L).1 hk).1
    have HT : Hid (∀ n t, findP L n = some t → t.size ≤ 1048576) := (show ∀ n t, _ → _ from fun n t hf => by
      have hm := findP_in L n t hf
      obtain ⟨j, hj, e⟩ := List.getElem_of_mem hm
      have := ht j hj
      rw [e] at this; exact this)
    clear hL hI ht hk hg hin
    by_cases h7 : 700 < ids.length
    · have h7' : (700 : Int) < ((ids.length : Nat) : Int) := by omega
      go_enter Tryz.func28, Tryz.ntmps28
      go_wp2_with (go_at_call 51; refine hp.mono ?_; rintro e w1 ⟨b, D, rfl, hown, hM, hsz, hbw, hb1⟩; clear hp hM hsz hown)
      go_ret2
      exact ⟨⟨_, [], false, rfl, .inr ⟨.inr h7, rfl, rfl⟩, World.ownsRow_nil _ _ _ _⟩, hb1⟩
    · have h7' : ¬ (700 : Int) < ((ids.length : Nat) : Int) := by omega
      go_enter Tryz.func28, Tryz.ntmps28
      go_wp2_with (first
        | (go_at_call 51; refine hp.mono ?_; rintro e w1 ⟨b, D, rfl, hown, hM, hsz, hbw, hb1⟩; have hs1 := hb1.size; have HM : Hid (mapP D (findP L)) := hM; have HO : Hid (w1.ownsMap Tryz.prog 3 itemElem b L.length D) := hown; clear hp hM hsz hown)
        | (go_at_call 61; refine (reach_any b L.length D L A2 c2 ids w1 (HG.out.below hb1 hgl) HO.out HM.out (HI.out.up hb1) (by omega) HIN.out h7L HT.out).mono ?_; rintro e w2 ⟨⟨b2, n2, D2, O, al, rfl, hn2, hown2, hM2, hlk, hnd⟩, hb2⟩; have hs2 := hb2.size; have HM2 : Hid (mapP D2 (fun q => if q ∈ O then findP L q else none)) := hM2; have HO2 : Hid (w2.ownsMap Tryz.prog 3 itemElem b2 n2 D2) := hown2; have HLK : Hid (Looks L ids O [] al) := hlk; clear hM2 hown2 hlk hnd)
        | (go_at_call 62; refine (ids_any b2 n2 D2 _ w2 HO2.out HM2.out (by omega)).mono ?_; rintro e w3 ⟨v3, xs, rfl, hrx, hfx, hox, hb3⟩; have HX : Hid (RiseP xs ∧ ∀ q, findP xs q = if q ∈ O then findP L q else none) := ⟨hrx, hfx⟩; clear hrx hfx))
      go_ret2
      have hN : IsLed L ids (idsP xs) al := HLK.out.ends (idsP xs) (riseI_idsP xs HX.out.1) (fun n => by
        rw [mem_idsP, HX.out.2]
        constructor
        · intro h
          by_cases hO : n ∈ O
          · exact hO
          · rw [if_neg hO] at h; cases h
        · intro hO
          rw [if_pos hO]
          exact (HLK.out.there n hO).2)
      have hb12 := hb1.trans (hb2.mono hs1)
      exact ⟨⟨_, idsP xs, al, rfl, .inl ⟨HK.out, by omega, hN⟩, ownsUpP hox hb12.size⟩, hb12.trans (hb3.mono hb12.size)⟩
end Go.Proofs.YthfffpdkmoclbaaGreatDoor.W
