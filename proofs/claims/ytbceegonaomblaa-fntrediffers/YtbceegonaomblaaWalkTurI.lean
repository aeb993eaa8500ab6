
/-
  The walks of impl.editing (a map of two ways to edit) and of impl.TreTurn. Files and edits that a call has made, of at most 1048576 bytes.
-/
import Derived.Test.YtbceegonaomblaaWalkTurQ
import Derived.Test.YtbceegonaomblaaWalkTurV
import Derived.Test.YtbceegonaomblaaWalkTreP
namespace Go.Proofs.Ytbceegonaomblaa.W
open Go.RowKit Go.Proofs.Ytbceegonaomblaa.M Go.Maps Go.MapKept Go.ChangeMaps
set_option linter.unusedVariables false

/-- how a plain function reads as a map's element -/
def funElem (v : Value) : Option (DataW Unit × List MemPlace) := match v with
  | .func (.func n) ⟨[]⟩ ⟨[]⟩ => some (.lit (.int .i64 n), [])
  | .nilFunc => some (.lit (.bool false), [])
  | _ => none
theorem funElem_inv {v : Value} {n : Nat} {ps : List MemPlace} (h : funElem v = some (.lit (.int .i64 n), ps)) : v = .func (.func n) #[] #[] := by
  unfold funElem at h
  split at h
  · have := congrArg Prod.fst (Option.some.inj h)
    simp only [DataW.lit.injEq, Lit.int.injEq, true_and] at this
    obtain rfl := Int.ofNat.inj this
    rfl
  · have := congrArg Prod.fst (Option.some.inj h)
    simp at this
  · cases h
theorem wpList_insert_own {H : Type} {P : Program} (w : World) {ops : Array Oper} {rest : List Oper} {o : Oper} {a : Act} {Q : Exit → Act → World → Prop}
    (hg : o.guard = none) (m x v : Operand) (t : TypeId) (hop : o.op = Op.insert t m x v)
    (k e : TypeId) (K : Keyed P k) (ht : P.underlying t = some (.map k e)) (R : Value → Option (DataW H × List MemPlace)) (b n : Nat) (D : DataW H)
    (hm : a.eval m = .map (some b)) (hown : w.ownsMap P k R b n D) (hn : n < maxLen) (key val : Value) (kl : Lit) (hx : a.eval x = key) (hv : a.eval v = val) (hkey : keyOf P k key = some kl)
    (d : DataW H) (ps : List MemPlace) (hval : R val = some (d, ps))
    (hK : ∀ w', w'.ownsMap P k R b (n + 1) (D.put kl d) → w.grownBy w' (some b) → wpList P ops Q rest (a.put o.dst undef) w') :
    wpList P ops Q (o :: rest) a w := by
  refine wpList_plain hg fun K' hK' => ?_
  obtain ⟨w', hrun, r1, r2⟩ := hown.update K ht hn hkey hval
  unfold Oper.wp
  simp [execOp, hop, hm, hx, hv, hrun, Result.andThen]
  exact hK' _ _ (hK w' r1 r2)
theorem run_makeMapW (w : World) : (Instr.makeMap 65 none).run Try.prog w = .ok (.map (some w.heap.size)) (w.alloc (.map #[] 0)) := by
  have hu : Try.prog.underlying 65 = some (.map 4 67) := Try.underlying65
  simp [Instr.makeMap, Result.andThen, newObj, go_sem]
  try rfl
/-- what the map of ways holds -/
def waysD (D : DataW Unit) : Prop := ∀ z, D.atKey (.bool true) z = .lit (.int .i64 (57 : Nat)) ∧ D.atKey (.bool false) z = .lit (.int .i64 (58 : Nat))
set_option maxHeartbeats 1000000 in
set_option maxRecDepth 100000 in
theorem editing_any (w : World) :
    Calls Try.prog 40 #[] w fun e w' => e = .returned (.map (some w.heap.size)) ∧ (∃ D, w'.ownsMap Try.prog 4 funElem w.heap.size 2 D ∧ waysD D) ∧ Below w.heap.size w w' := by
  have law := Maps.bool_keyed (P := Try.prog) Try.underlying4
  have hk1 : keyOf Try.prog 4 (.bool true) = some (.bool true) := Maps.keyOf_bool_mk Try.underlying4 true
  have hk2 : keyOf Try.prog 4 (.bool false) = some (.bool false) := Maps.keyOf_bool_mk Try.underlying4 false
  have hmm := fun w => run_makeMapW w
  have hown := World.ownsMap_made w Try.prog 4 funElem
  go_enter Try.func40, Try.ntmps40
  go_wp2_with (first
    | (refine wpList_insert_own _ rfl _ _ _ 65 rfl 4 67 law Try.underlying65 funElem w.heap.size 0 (.map []) rfl hown (by unfold maxLen; omega) (.bool true) (.func (.func 57) #[] #[]) (.bool true) rfl rfl hk1 _ [] rfl ?_; intro w1 o1 g1)
    | (refine wpList_insert_own _ rfl _ _ _ 65 rfl 4 67 law Try.underlying65 funElem w.heap.size 1 _ rfl o1 (by unfold maxLen; omega) (.bool false) (.func (.func 58) #[] #[]) (.bool false) rfl rfl hk2 _ [] rfl ?_; intro w2 o2 g2))
  go_ret
  have hm0 : Maps.IsMap (.map [] : DataW Unit) := hown.isMap
  have hm1 := o1.isMap
  refine ⟨rfl, ⟨_, o2, fun z => ⟨?_, ?_⟩⟩, (((Below.refl _ _).alloc (Nat.le_refl _) _).grown g1 (by simp) (fun k e => by cases e; exact Nat.le_refl _)).grown g2 (by have := g1.size; simp at this; omega) (fun k e => by cases e; exact Nat.le_refl _)⟩
  · rw [Maps.atKey_put_other (by simp)]
    exact Maps.atKey_put_same hm0 (law.key hk1) _ z
  · exact Maps.atKey_put_same hm1 (law.key hk2) _ z

theorem wayKept {w w' : World} {k : TypeId} {R : Value → Option (DataW Unit × List MemPlace)} {b c n : Nat} {D : DataW Unit} (h : w.ownsMap Try.prog k R c n D) (hg : w.grownBy w' (some b)) (hne : b < c) : w'.ownsMap Try.prog k R c n D := by
  have hlt := h.lt
  obtain ⟨es, clock, h1, h2⟩ := h
  exact ⟨es, clock, (hg.block c hlt (fun e => by cases e; omega)).trans h1, h2⟩
theorem turn_true (K : List TF) (p b : ByteArray) : ((findF K p).isSome && b.toList.isEmpty) = (turnF K true p b).isSome := by
  have hb : b.toList.isEmpty = decide (b = ByteArray.empty) := by
    rw [Lib.toList_data]
    by_cases h : b = ByteArray.empty
    · subst h; rfl
    · cases h9 : b.data.toList with
      | nil => exact absurd (pa_eq (by rw [h9]; rfl)) h
      | cons => simp [h]
  unfold turnF
  rw [if_pos rfl, hb]
  cases hf : findF K p with
  | none => simp
  | some t => by_cases h : b = ByteArray.empty <;> simp [h]
theorem turn_false (K : List TF) (p b : ByteArray) : (turnF K false p b).isSome = true := by
  unfold turnF
  rw [if_neg (by decide)]
  split <;> rfl

set_option maxHeartbeats 4000000 in
set_option maxRecDepth 100000 in
theorem treTurn_impl {b0 : Nat} {e0 : TypeId} (v : Value) (L : List TF) (A : Option Addr) (cE : Nat) (E : List TE) (w : World) (h : w.ownsRow b0 e0 2 v L.length (cellsF L)) (hE : RdE w.heap.size w A E) (hn : L.length ≤ 1048576) (hnE : E.length ≤ 1048576)
    (ht : ∀ j (h : j < L.length), (L[j]).pa.size ≤ 1048576 ∧ (L[j]).by_.size ≤ 1048576) (htE : ∀ j (h : j < E.length), (E[j]).pa.size ≤ 1048576 ∧ (E[j]).by_.size ≤ 1048576) :
    Calls Try.prog 21 #[v, .slice A E.length cE] w fun e w' => ∃ v', e = .returned (.tuple #[v', .bool (turnT L E).isSome]) ∧ w'.ownsRow w.heap.size 51 2 v' (turnL L E).length (cellsF (turnL L E)) ∧ Below w.heap.size w w' := by
  obtain ⟨A1, c1, rfl, hR⟩ := rdF_of_own h
  have HE : Hid (RdE w.heap.size w A E) := hE
  have HRL : Hid (RdF w.heap.size w A1 L) := hR
  have HT : Hid (∀ j (h : j < L.length), (L[j]).pa.size ≤ 1048576 ∧ (L[j]).by_.size ≤ 1048576) := ht
  have HTE : Hid (∀ j (h : j < E.length), (E[j]).pa.size ≤ 1048576 ∧ (E[j]).by_.size ≤ 1048576) := htE
  have hok := treOk_impl A1 c1 L w hR hn ht
  clear h hE hR ht htE
  by_cases hk : okT L = true
  case neg =>
    have HD : Hid (turnT L E = none) := (show turnT L E = none by unfold turnT; rw [if_neg (fun h => hk h.1)])
    have hk' : okT L = false := by simpa using hk
    rw [hk'] at hok
    clear hk hk'
    go_enter Try.func21, Try.ntmps21
    go_wp2_with (go_at_call 14; refine hok.mono ?_; rintro e w1 ⟨rfl, hb1⟩; clear hok)
    go_ret2
    refine ⟨_, by rw [HD.out]; rfl, ?_, hb1⟩
    unfold turnL; rw [HD.out]
    exact World.ownsRow_nil _ _ _ _
  case pos =>
    rw [hk] at hok
    by_cases hE4 : E.length ≤ 4
    case neg =>
      have HD : Hid (turnT L E = none) := (show turnT L E = none by unfold turnT; rw [if_neg (fun h => hE4 h.2)])
      have hE5 : (4 : Int) < (E.length : Int) := by omega
      clear hk hE4
      go_enter Try.func21, Try.ntmps21
      go_wp2_with (go_at_call 14; refine hok.mono ?_; rintro e w1 ⟨rfl, hb1⟩; clear hok)
      go_ret2
      refine ⟨_, by rw [HD.out]; rfl, ?_, hb1⟩
      unfold turnL; rw [HD.out]
      exact World.ownsRow_nil _ _ _ _
    case pos =>
      obtain ⟨hr, h60⟩ := okT_rise L hk
      have HR : Hid (RiseF L) := hr
      have HD : Hid (turnT L E = (turnAll L (edOf E)).bind fun K => if okT K = true then some K else none) := (show turnT L E = _ by unfold turnT; rw [if_pos ⟨hk, hE4⟩])
      have hE5 : ¬ (4 : Int) < (E.length : Int) := by omega
      have law := Maps.bool_keyed (P := Try.prog) Try.underlying4
      have hkb : ∀ g : Bool, keyOf Try.prog 4 (.bool g) = some (.bool g) := fun g => Maps.keyOf_bool_mk Try.underlying4 g
      have hzf : ∀ W : World, (zeroValue 67).run Try.prog W = .ok .nilFunc W := fun W => by kernel_rfl
      clear hr hk
      go_enter Try.func21, Try.ntmps21
      go_wp2_with (first
        | (go_at_call 14; refine hok.mono ?_; rintro e w1 ⟨rfl, hb1⟩; clear hok; have hs1 := hb1.size; have HB1 : Hid (Below w.heap.size w w1) := hb1; clear hb1)
        | (go_at_call 38; refine (firstFiles_any A1 c1 L w1 (HRL.out.up HB1.out) hn (fun j hj => (HT.out j hj).1)).mono ?_; rintro e w2 ⟨b, D0, rfl, own0, hinv, hbw, hb2⟩; have hs2 := hb2.size; have HB2 : Hid (Below w.heap.size w w2) := HB1.out.trans (hb2.mono hs1); have hblt := own0.lt; have OWN0 : Hid (w2.ownsMap Try.prog 9 fileElem b L.length D0) := own0; have HMF : Hid (mapF D0 (findF L)) := mapF_of hinv; clear hb2 own0 hinv)
        | (go_at_call 40; refine (editing_any w2).mono ?_; rintro e w3 ⟨rfl, ⟨DW, ownw, hways⟩, hb3⟩; have hs3 := hb3.size; have OWNW : Hid (w3.ownsMap Try.prog 4 funElem w2.heap.size 2 DW) := ownw; have HW : Hid (waysD DW) := hways; have HB3 : Hid (Below w.heap.size w w3) := HB2.out.trans (hb3.mono (by omega)); have OWN3 : Hid (w3.ownsMap Try.prog 9 fileElem b L.length D0) := (show World.ownsMap _ _ _ _ _ _ _ from by obtain ⟨es, clock, h1, h2⟩ := OWN0.out; exact ⟨es, clock, (hb3.block b hblt).trans h1, h2⟩); clear hb3 ownw hways))
      go_loopw [24] (fun iv wr => ∃ (i n : Nat) (D : DataW Unit) (f : ByteArray → Option ByteArray) (K : List TF), i ≤ E.length ∧ iv = .int .i64 i ∧ n ≤ L.length + i ∧ wr.ownsMap Try.prog 9 fileElem b n D ∧ Hid (mapF D f ∧ turnAll L (edOf (E.take i)) = some K ∧ RiseF K ∧ ∀ q, findF K q = f q) ∧ wr.ownsMap Try.prog 4 funElem w2.heap.size 2 DW ∧ Below w.heap.size w wr) (fun i _ => E.length - (RowKit.intOf i).toNat)
      case atStart => exact ⟨0, L.length, D0, findF L, L, Nat.zero_le _, rfl, Nat.le_refl _, OWN3.out, (show mapF D0 (findF L) ∧ turnAll L (edOf (E.take 0)) = some L ∧ RiseF L ∧ ∀ q, findF L q = findF L q from ⟨HMF.out, rfl, HR.out, fun _ => rfl⟩), OWNW.out, HB3.out⟩
      case round =>
        obtain ⟨i, n, D, f, K, hi, rfl, hnn, hown, HK, hw, hb⟩ := hrel
        have hsz := hb.size
        by_cases hlt : i < E.length
        · obtain ⟨bE, oE, rfl, hbl, d1, d2, d3⟩ := (HE.out.below hb (Nat.le_refl _)) i hlt
          have hsn : edOf (E.take (i + 1)) = edOf (E.take i) ++ [((E[i]).gone, (E[i]).pa, (E[i]).by_)] := by unfold edOf; rw [List.take_succ_eq_append_getElem hlt, List.map_append]; rfl
          have hse : ∃ R, edOf E = edOf (E.take (i + 1)) ++ R := ⟨edOf (E.drop (i + 1)), by unfold edOf; rw [← List.map_append, List.take_append_drop]⟩
          have hpz := (HTE.out i hlt).1
          obtain ⟨x, hx⟩ : ∃ x, E[i] = x := ⟨_, rfl⟩
          rw [hx] at d1 d2 d3 hsn hpz
          clear hx
          have hall : turnAll L (edOf (E.take (i + 1))) = turnF K x.gone x.pa x.by_ := by rw [hsn, turnAll_snoc, HK.out.2.1]; rfl
          have hfail : turnF K x.gone x.pa x.by_ = none → turnT L E = none := fun hf => by
            rw [hf] at hall
            obtain ⟨R, hR⟩ := hse
            rw [HD.out, hR, turnAll_none L _ R hall]; rfl
          have hgoes : ∀ M, turnF K x.gone x.pa x.by_ = some M → turnAll L (edOf (E.take (i + 1))) = some M ∧ RiseF M ∧ ∀ q, findF M q = if q = x.pa then (if x.gone then none else some x.by_) else f q := fun M hM => by
            obtain ⟨h1, h2⟩ := turnF_ok K M _ _ _ HK.out.2.2.1 hM
            refine ⟨hall.trans hM, h1, fun q => ?_⟩
            rw [h2 q, HK.out.2.2.2 q]
          have hfp : findF K x.pa = f x.pa := HK.out.2.2.2 x.pa
          have HMD : Hid (mapF D f) := HK.out.1
          have hbb : w.heap.size ≤ b := by omega
          clear hsn hse hall
          obtain ⟨p, t, gone⟩ := x
          simp only at d1 d2 d3 hpz hfail hgoes hfp
          cases gone with
          | true =>
            have hownA := hown.alloc (.cells #[.string p, .string t, .bool true] 43)
            have hwaysA := hw.alloc (.cells #[.string p, .string t, .bool true] 43)
            obtain ⟨v9, ps9, hrun, hv9⟩ := hwaysA.lookup law Try.underlying65 (hzf _) (zd := .lit (.bool false)) (zp := []) rfl (hkb true)
            rw [(HW.out _).1] at hv9
            obtain rfl := funElem_inv hv9
            have hbA := hownA.lt
            clear hv9
            have hres := turn_true K p t
            rw [hfp] at hres
            cases hf : turnF K true p t with
            | none =>
              have HN : Hid (turnT L E = none) := hfail hf
              rw [hf] at hres
              have hres' : ((f p).isSome && t.toList.isEmpty) = false := hres
              have hcall := takeOut_any b n D f p t true (wr.alloc (.cells #[.string p, .string t, .bool true] 43)) hownA hpz HMD.out hbA
              rw [hres'] at hcall
              clear hres hres' hf hfail hgoes hfp
              go_wp2_with (go_at_call 57; refine hcall.mono ?_; rintro e w4 ⟨rfl, _, hg⟩; clear hcall)
              go_ret2
              refine ⟨_, by rw [HN.out]; rfl, ?_, (hb.alloc hsz _).grown hg (by simp; omega) (fun k e => by cases e; exact hbb)⟩
              unfold turnL; rw [HN.out]
              exact World.ownsRow_nil _ _ _ _
            | some M =>
              have HG : Hid (turnAll L (edOf (E.take (i + 1))) = some M ∧ RiseF M ∧ ∀ q, findF M q = if q = p then none else f q) := (show _ ∧ _ from by simpa using hgoes M hf)
              rw [hf] at hres
              have hres' : ((f p).isSome && t.toList.isEmpty) = true := hres
              have hcall := takeOut_any b n D f p t true (wr.alloc (.cells #[.string p, .string t, .bool true] 43)) hownA hpz HMD.out hbA
              rw [hres'] at hcall
              clear hres hres' hf hfail hgoes hfp
              go_wp2_with (go_at_call 57; refine hcall.mono ?_; rintro e w4 ⟨rfl, ⟨D', o', hM'⟩, hg⟩; clear hcall)
              go_roundw
              case rel => exact ⟨i + 1, n, D', _, M, by omega, by go_num, by omega, o', (show mapF D' _ ∧ _ from ⟨hM', HG.out⟩), wayKept hwaysA hg (by omega), (hb.alloc hsz _).grown hg (by simp; omega) (fun k e => by cases e; exact hbb)⟩
              case measure => simp [RowKit.intOf]; omega
          | false =>
            have hownA := hown.alloc (.cells #[.string p, .string t, .bool false] 43)
            have hwaysA := hw.alloc (.cells #[.string p, .string t, .bool false] 43)
            obtain ⟨v9, ps9, hrun, hv9⟩ := hwaysA.lookup law Try.underlying65 (hzf _) (zd := .lit (.bool false)) (zp := []) rfl (hkb false)
            rw [(HW.out _).2] at hv9
            obtain rfl := funElem_inv hv9
            have hbA := hownA.lt
            clear hv9
            cases hf : turnF K false p t with
            | none => have := turn_false K p t; rw [hf] at this; cases this
            | some M =>
              have HG : Hid (turnAll L (edOf (E.take (i + 1))) = some M ∧ RiseF M ∧ ∀ q, findF M q = if q = p then some t else f q) := (show _ ∧ _ from by simpa using hgoes M hf)
              have hcall := layDown_any b n D f p t false (wr.alloc (.cells #[.string p, .string t, .bool false] 43)) hownA (by omega) hpz HMD.out hbA
              clear hf hfail hgoes hfp
              go_wp2_with (go_at_call 58; refine hcall.mono ?_; rintro e w4 ⟨rfl, ⟨D', o', hM'⟩, hg⟩; clear hcall)
              go_roundw
              case rel => exact ⟨i + 1, n + 1, D', _, M, by omega, by go_num, by omega, o', (show mapF D' _ ∧ _ from ⟨hM', HG.out⟩), wayKept hwaysA hg (by omega), (hb.alloc hsz _).grown hg (by simp; omega) (fun k e => by cases e; exact hbb)⟩
              case measure => simp [RowKit.intOf]; omega
        · obtain rfl : i = E.length := by omega
          have hall := HK.out.2.1
          rw [List.take_length] at hall
          have hmem := (turnAll_ok L K _ HR.out hall).2
          have hel : (edOf E).length = E.length := by unfold edOf; simp
          have htK : ∀ j (h : j < K.length), (K[j]).pa.size ≤ 1048576 ∧ (K[j]).by_.size ≤ 1048576 := by
            intro j hj
            rcases hmem.2 _ (List.getElem_mem hj) with hx | ⟨e, he, hx⟩
            · obtain ⟨q, hq, e⟩ := List.getElem_of_mem hx
              rw [← e]; exact HT.out q hq
            · unfold edOf at he
              obtain ⟨y, hy, rfl⟩ := List.mem_map.1 he
              obtain ⟨q, hq, e⟩ := List.getElem_of_mem hy
              rw [hx, ← e]; exact HTE.out q hq
          have HTK : Hid (∀ j (h : j < K.length), (K[j]).pa.size ≤ 1048576 ∧ (K[j]).by_.size ≤ 1048576) := htK
          have hKl : K.length ≤ 1000 := by have := hmem.1; omega
          have HDK : Hid (turnT L E = if okT K = true then some K else none) := (show turnT L E = _ by rw [HD.out, hall]; rfl)
          have hfiles := files_any b n D f wr hown HK.out.1 (by omega)
          clear hmem htK hall hown hw hel
          cases hkK : okT K with
          | false =>
            have HN : Hid (turnT L E = none) := (show turnT L E = none by rw [HDK.out, hkK]; rfl)
            have HOK : Hid (okT K = false) := hkK
            clear hkK
            go_wp2_with (first
              | (go_at_call 41; refine hfiles.mono ?_; rintro e w5 ⟨v5, xs, rfl, hrise, hfind, o5, hb5⟩; obtain rfl : xs = K := rise_eq xs K hrise HK.out.2.2.1 (fun q => (hfind q).trans (HK.out.2.2.2 q).symm); obtain ⟨A5, c5, rfl, hR5⟩ := rdF_of_own o5; have hok5 := treOk_impl A5 c5 xs w5 hR5 (by omega) HTK.out; rw [HOK.out] at hok5; have HB5 : Hid (Below w.heap.size w w5) := hb.trans (hb5.mono hsz); clear hfiles hrise hfind o5 hR5 hb5)
              | (go_at_call 14; refine hok5.mono ?_; rintro e w6 ⟨rfl, hb6⟩; clear hok5))
            go_ret2
            refine ⟨_, by rw [HN.out]; rfl, ?_, HB5.out.trans (hb6.mono HB5.out.size)⟩
            unfold turnL; rw [HN.out]
            exact World.ownsRow_nil _ _ _ _
          | true =>
            have HN : Hid (turnT L E = some K) := (show turnT L E = some K by rw [HDK.out, hkK]; rfl)
            have HOK : Hid (okT K = true) := hkK
            clear hkK
            go_wp2_with (first
              | (go_at_call 41; refine hfiles.mono ?_; rintro e w5 ⟨v5, xs, rfl, hrise, hfind, o5, hb5⟩; obtain rfl : xs = K := rise_eq xs K hrise HK.out.2.2.1 (fun q => (hfind q).trans (HK.out.2.2.2 q).symm); obtain ⟨A5, c5, rfl, hR5⟩ := rdF_of_own o5; have hok5 := treOk_impl A5 c5 xs w5 hR5 (by omega) HTK.out; rw [HOK.out] at hok5; have HB5 : Hid (Below w.heap.size w w5) := hb.trans (hb5.mono hsz); have HO5 : Hid (w5.ownsRow w.heap.size 51 2 (.slice A5 xs.length c5) xs.length (cellsF xs)) := ownsUpF o5 hsz; clear hfiles hrise hfind o5 hR5 hb5)
              | (go_at_call 14; refine hok5.mono ?_; rintro e w6 ⟨rfl, hb6⟩; clear hok5))
            go_ret2
            refine ⟨_, by rw [HN.out]; rfl, ?_, HB5.out.trans (hb6.mono HB5.out.size)⟩
            unfold turnL; rw [HN.out]
            exact ownsUnder HO5.out hb6 (Nat.le_refl _)
end Go.Proofs.Ytbceegonaomblaa.W
