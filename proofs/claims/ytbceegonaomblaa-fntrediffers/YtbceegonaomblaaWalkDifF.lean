
/-
  impl.firstFiles: a map that the call makes, of files by their paths: the first file at a path stays. At most 1048576 files, paths as long.
-/
import Derived.Test.YtbceegonaomblaaWalkTreG
import Derived.Test.YtbceegonaomblaaMathTNam
import Derived.Test.YtbceegonaomblaaMathNew
import Derived.Maps.OwnSet
import Derived.Maps.OwnOps
import Derived.Maps.Views
namespace Go.Proofs.Ytbceegonaomblaa.W
open Go.RowKit Go.Proofs.Ytbceegonaomblaa.M Go.MapKept Go.ChangeMaps
set_option linter.unusedVariables false

/-- how a file reads as a map's element -/
def fileList (l : List Value) : Option (DataW Unit × List MemPlace) := match l with
  | [.string s, .string t] => some (.agg [.lit (.string s.data.toList), .lit (.string t.data.toList)], [])
  | _ => none
def fileElem (v : Value) : Option (DataW Unit × List MemPlace) := match v with
  | .agg cs => fileList cs.toList
  | _ => none
theorem fileElem_mk (s t : ByteArray) : fileElem (.agg #[.string s, .string t]) = some (.agg [.lit (.string s.data.toList), .lit (.string t.data.toList)], []) := rfl
theorem fileElem_inv {v : Value} {z : DataW Unit × List MemPlace} (h : fileElem v = some z) : ∃ s t : ByteArray, v = .agg #[.string s, .string t] ∧ z = (.agg [.lit (.string s.data.toList), .lit (.string t.data.toList)], []) := by
  unfold fileElem at h
  split at h
  · rename_i cs
    obtain ⟨l⟩ := cs
    unfold fileList at h
    split at h
    · rename_i s t e
      obtain rfl : l = [.string s, .string t] := e
      exact ⟨s, t, rfl, (Option.some.inj h).symm⟩
    · cases h
  · cases h
theorem run_makeMapN (n : Nat) (w : World) : (Instr.makeMap 61 (some (.int .i64 n))).run Try.prog w = .ok (.map (some w.heap.size)) (w.alloc (.map #[] 0)) := by
  have hu : Try.prog.underlying 61 = some (.map 9 51) := Try.underlying61
  simp [Instr.makeMap, run_underlying hu, asInt, asIntOf, Result.andThen, newObj, go_sem]
  rfl
theorem zeroF (w : World) : (zeroValue 51).run Try.prog w = .ok (.agg #[.string ByteArray.empty, .string ByteArray.empty]) w := by kernel_rfl
theorem findF_snoc (T : List TF) (x : TF) (p : ByteArray) : findF (T ++ [x]) p = match findF T p with | some t => some t | none => if x.pa = p then some x.by_ else none := by
  induction T with
  | nil => rfl
  | cons y l ih =>
    simp only [List.cons_append, findF]
    by_cases h : y.pa = p
    · simp [h]
    · simp [h, ih]
/-- what the map holds: the first file at each path -/
def mapInv (D : DataW Unit) (T : List TF) : Prop := ∀ p : ByteArray, Maps.has D (.string p.data.toList) = (findF T p).isSome ∧ ∀ t, findF T p = some t → ∀ z, D.atKey (.string p.data.toList) z = .agg [.lit (.string p.data.toList), .lit (.string t.data.toList)]
theorem mapInv_same {D : DataW Unit} {T : List TF} {x : TF} (h : mapInv D T) {t : ByteArray} (hf : findF T x.pa = some t) : mapInv D (T ++ [x]) := by
  intro p
  have e : findF (T ++ [x]) p = findF T p := by
    rw [findF_snoc]
    cases hp : findF T p with
    | some t' => rfl
    | none =>
      have : x.pa ≠ p := by intro e; rw [e, hp] at hf; cases hf
      simp [this]
  rw [e]
  exact h p
theorem key_ne {p q : ByteArray} (h : ¬ p = q) : (Lit.string p.data.toList) ≠ .string q.data.toList := by
  intro e
  injection e with e
  exact h (toList_inj (by rw [Lib.toList_data, Lib.toList_data]; exact e))
theorem mapInv_put {D : DataW Unit} {T : List TF} {x : TF} (hk : WideAt.IsKeyLit (.string x.pa.data.toList)) (hD : Maps.IsMap D) (h : mapInv D T) (hf : findF T x.pa = none) : mapInv (D.put (.string x.pa.data.toList) (.agg [.lit (.string x.pa.data.toList), .lit (.string x.by_.data.toList)])) (T ++ [x]) := by
  intro p
  by_cases hp : p = x.pa
  · subst hp
    have e : findF (T ++ [x]) x.pa = some x.by_ := by rw [findF_snoc, hf]; simp
    rw [e]
    refine ⟨Maps.has_put_same hD hk _, fun t ht z => ?_⟩
    rw [← Option.some.inj ht]
    exact Maps.atKey_put_same hD hk _ z
  · have e : findF (T ++ [x]) p = findF T p := by
      rw [findF_snoc]
      cases findF T p with
      | some t' => rfl
      | none => simp [Ne.symm hp]
    rw [e, Maps.has_put_other (key_ne hp)]
    refine ⟨(h p).1, fun t ht z => ?_⟩
    rw [Maps.atKey_put_other (key_ne hp)]
    exact (h p).2 t ht z

set_option maxRecDepth 100000 in
set_option maxHeartbeats 4000000 in
theorem firstFiles_any (A : Option Addr) (c : Nat) (L : List TF) (w : World) (hL : RdF w.heap.size w A L) (hn : L.length ≤ 1048576) (ht : ∀ j (h : j < L.length), (L[j]).pa.size ≤ 1048576) :
    Calls Try.prog 38 #[.slice A L.length c] w fun e w' => ∃ (b : Nat) (D : DataW Unit), e = .returned (.map (some b)) ∧ w'.ownsMap Try.prog 9 fileElem b L.length D ∧ mapInv D L ∧ w.heap.size ≤ b ∧ Below w.heap.size w w' := by
  have HL : Hid (RdF w.heap.size w A L) := hL
  have HT : Hid (∀ j (h : j < L.length), (L[j]).pa.size ≤ 1048576) := ht
  clear hL ht
  have law := Maps.string_keyed (P := Try.prog) Try.underlying9
  have hmm := fun w => run_makeMapN L.length w
  go_enter Try.func38, Try.ntmps38
  go_wp2
  go_loopw [13] (fun iv wr => ∃ (j : Nat) (D : DataW Unit), j ≤ L.length ∧ iv = .int .i64 j ∧ Hid (mapInv D (L.take j)) ∧ wr.ownsMap Try.prog 9 fileElem w.heap.size j D ∧ Below w.heap.size w wr) (fun i _ => L.length - (intOf i).toNat)
  case atStart => exact ⟨0, .map [], Nat.zero_le _, rfl, (show mapInv (.map []) (L.take 0) from fun p => ⟨rfl, fun t ht => by simp [findF] at ht⟩), World.ownsMap_made w Try.prog 9 fileElem, (Below.refl _ _).alloc (Nat.le_refl _) _⟩
  case round =>
    obtain ⟨j, D, hj, rfl, HM, hown, hb⟩ := hrel
    have hsz := hb.size
    by_cases hlt : j < L.length
    · obtain ⟨b, o, rfl, hbl, c1, c2⟩ := (HL.out.below hb (Nat.le_refl _)) j hlt
      have hpx := HT.out j hlt
      have HN : Hid (L.take (j + 1) = L.take j ++ [L[j]]) := List.take_succ_eq_append_getElem hlt
      obtain ⟨x, hx⟩ : ∃ x, L[j] = x := ⟨_, rfl⟩
      rw [hx] at HN c1 c2 hpx
      obtain ⟨q, t⟩ := x
      simp only at c1 c2 hpx
      clear hx
      have hkey : keyOf Try.prog 9 (.string q) = some (.string q.data.toList) := Go.WideMaps.keyOf_string_mk Try.underlying9 (by unfold maxLen; omega)
      have hhas := (HM.out q).1
      have HD : Hid (Maps.IsMap D) := hown.isMap
      cases hf : findF (L.take j) q with
      | some t' =>
        rw [hf] at hhas
        simp only [Option.isSome_some] at hhas
        have HE : Hid (mapInv D (L.take (j + 1))) := (show mapInv D (L.take (j + 1)) from by rw [HN.out]; exact mapInv_same HM.out hf)
        clear hf HM HN
        go_wp2_with (at_lookup; refine wpList_lookup_own_ok _ rfl _ _ 61 rfl 9 51 law Try.underlying61 fileElem (zeroF _) (.agg [.lit (.string []), .lit (.string [])]) [] (fileElem_mk ByteArray.empty ByteArray.empty) w.heap.size j D rfl (hown.alloc _) _ _ rfl hkey ?_; intro v ps hv; obtain ⟨s9, t9, rfl, _⟩ := fileElem_inv hv; rw [hhas])
        go_roundw
        case rel => exact ⟨j + 1, D, by omega, by go_num, HE, ((hown.alloc _).alloc _).mono (by omega), (hb.alloc (by omega) _).alloc (by simp; omega) _⟩
        case measure => simp [intOf]; omega
      | none =>
        rw [hf] at hhas
        simp only [Option.isSome_none] at hhas
        have HE : Hid (mapInv (D.put (.string q.data.toList) (.agg [.lit (.string q.data.toList), .lit (.string t.data.toList)])) (L.take (j + 1))) := (show mapInv _ (L.take (j + 1)) from by rw [HN.out]; exact mapInv_put (x := ⟨q, t⟩) (law.key hkey) HD.out HM.out hf)
        clear hf HM HN
        go_wp2_with (first
          | (at_lookup; refine wpList_lookup_own_ok _ rfl _ _ 61 rfl 9 51 law Try.underlying61 fileElem (zeroF _) (.agg [.lit (.string []), .lit (.string [])]) [] (fileElem_mk ByteArray.empty ByteArray.empty) w.heap.size j D rfl (hown.alloc _) _ _ rfl hkey ?_; intro v ps hv; obtain ⟨s9, t9, rfl, _⟩ := fileElem_inv hv; rw [hhas])
          | (at_mapUpdate; refine wpList_mapUpdate_own _ rfl _ _ _ 61 rfl 9 51 law Try.underlying61 fileElem w.heap.size j D rfl ((hown.alloc _).alloc _) (by unfold maxLen; omega) _ _ _ rfl rfl hkey _ [] (fileElem_mk q t) ?_; intro w1 o1 g1))
        go_roundw
        case rel => exact ⟨j + 1, _, by omega, by go_num, HE, o1, ((hb.alloc (by omega) _).alloc (by simp; omega) _).grown g1 (by simp; omega) (fun k e => by cases e; exact Nat.le_refl _)⟩
        case measure => simp [intOf]; omega
    · go_wp2
      go_ret
      obtain rfl : j = L.length := by omega
      have e := HM.out
      rw [List.take_length] at e
      exact ⟨w.heap.size, D, rfl, hown, e, Nat.le_refl _, hb⟩
end Go.Proofs.Ytbceegonaomblaa.W
