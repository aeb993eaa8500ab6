
/-
  A map of files as a function of paths; what laying down and taking out make of it.
-/
import Derived.Test.YtbceegonaomblaaWalkDifF
import Derived.Test.YtbceegonaomblaaMathTTur
namespace Go.Proofs.Ytbceegonaomblaa.W
open Go.RowKit Go.Proofs.Ytbceegonaomblaa.M Go.MapKept Go.ChangeMaps
set_option linter.unusedVariables false

/-- a map of files tells these bytes at paths -/
def mapF (D : DataW Unit) (f : ByteArray → Option ByteArray) : Prop := ∀ p : ByteArray, Maps.has D (.string p.data.toList) = (f p).isSome ∧ ∀ t, f p = some t → ∀ z, D.atKey (.string p.data.toList) z = .agg [.lit (.string p.data.toList), .lit (.string t.data.toList)]
theorem mapF_of {D : DataW Unit} {T : List TF} (h : mapInv D T) : mapF D (findF T) := h
theorem mapF_put {D : DataW Unit} {f : ByteArray → Option ByteArray} {p b : ByteArray} (hk : WideAt.IsKeyLit (.string p.data.toList)) (hD : Maps.IsMap D) (h : mapF D f) :
    mapF (D.put (.string p.data.toList) (.agg [.lit (.string p.data.toList), .lit (.string b.data.toList)])) fun q => if q = p then some b else f q := by
  intro q
  by_cases hq : q = p
  · subst hq
    simp only [if_pos]
    refine ⟨Maps.has_put_same hD hk _, fun t ht z => ?_⟩
    rw [← Option.some.inj ht]
    exact Maps.atKey_put_same hD hk _ z
  · simp only [if_neg hq]
    rw [Maps.has_put_other (key_ne hq)]
    refine ⟨(h q).1, fun t ht z => ?_⟩
    rw [Maps.atKey_put_other (key_ne hq)]
    exact (h q).2 t ht z
theorem mapF_del {D : DataW Unit} {f : ByteArray → Option ByteArray} {p : ByteArray} (h : mapF D f) : mapF (D.del (.string p.data.toList)) fun q => if q = p then none else f q := by
  intro q
  by_cases hq : q = p
  · subst hq
    simp only [if_pos]
    exact ⟨Maps.has_del_same, fun t ht => by cases ht⟩
  · simp only [if_neg hq]
    rw [Maps.has_del_other (key_ne hq)]
    refine ⟨(h q).1, fun t ht z => ?_⟩
    rw [Maps.atKey_del_other (key_ne hq)]
    exact (h q).2 t ht z
theorem grT {w w' w'' : World} {r : Option Nat} (h : w.grownBy w' r) (k : w'.grownBy w'' r) : w.grownBy w'' r :=
  ⟨k.os.trans h.os, k.tape.trans h.tape, k.output.trans h.output, Nat.le_trans h.size k.size, fun i hi hn => (k.block i (Nat.lt_of_lt_of_le hi h.size) hn).trans (h.block i hi hn)⟩
set_option maxHeartbeats 1000000 in
set_option maxRecDepth 100000 in
theorem layDown_any (b n : Nat) (D : DataW Unit) (f : ByteArray → Option ByteArray) (p t : ByteArray) (g : Bool) (w : World) (hown : w.ownsMap Try.prog 9 fileElem b n D) (hn : n ≤ 2097152) (hp : p.size ≤ 1048576) (hM : mapF D f) (hbl : b < w.heap.size) :
    Calls Try.prog 58 #[.map (some b), .agg #[.string p, .string t, .bool g]] w fun e w' => e = .returned (.bool true) ∧ (∃ D', w'.ownsMap Try.prog 9 fileElem b (n + 1) D' ∧ mapF D' fun q => if q = p then some t else f q) ∧ w.grownBy w' (some b) := by
  have law := Maps.string_keyed (P := Try.prog) Try.underlying9
  have hkey : keyOf Try.prog 9 (.string p) = some (.string p.data.toList) := Go.WideMaps.keyOf_string_mk Try.underlying9 (by unfold maxLen; omega)
  have HE : Hid (mapF (D.put (.string p.data.toList) (.agg [.lit (.string p.data.toList), .lit (.string t.data.toList)])) fun q => if q = p then some t else f q) := mapF_put (law.key hkey) hown.isMap hM
  clear hM
  go_enter Try.func58, Try.ntmps58
  go_wp2_with (at_mapUpdate; refine wpList_mapUpdate_own _ rfl _ _ _ 61 rfl 9 51 law Try.underlying61 fileElem b n D rfl (hown.alloc _) (by unfold maxLen; omega) _ _ _ rfl rfl hkey _ [] (fileElem_mk p t) ?_; intro w1 o1 g1)
  go_ret
  exact ⟨rfl, ⟨_, o1, HE.out⟩, grT (World.grownBy_alloc _ _ _) g1⟩

set_option maxHeartbeats 1000000 in
set_option maxRecDepth 100000 in
theorem takeOut_any (b n : Nat) (D : DataW Unit) (f : ByteArray → Option ByteArray) (p t : ByteArray) (g : Bool) (w : World) (hown : w.ownsMap Try.prog 9 fileElem b n D) (hp : p.size ≤ 1048576) (hM : mapF D f) (hbl : b < w.heap.size) :
    Calls Try.prog 57 #[.map (some b), .agg #[.string p, .string t, .bool g]] w fun e w' => e = .returned (.bool ((f p).isSome && t.toList.isEmpty)) ∧ (∃ D', w'.ownsMap Try.prog 9 fileElem b n D' ∧ mapF D' fun q => if q = p then none else f q) ∧ w.grownBy w' (some b) := by
  have law := Maps.string_keyed (P := Try.prog) Try.underlying9
  have hkey : keyOf Try.prog 9 (.string p) = some (.string p.data.toList) := Go.WideMaps.keyOf_string_mk Try.underlying9 (by unfold maxLen; omega)
  have hhas := (hM p).1
  have HE : Hid (mapF (D.del (.string p.data.toList)) fun q => if q = p then none else f q) := mapF_del hM
  clear hM
  go_enter Try.func57, Try.ntmps57
  go_wp2_with (first
    | (at_lookup; refine wpList_lookup_own_ok _ rfl _ _ 61 rfl 9 51 law Try.underlying61 fileElem (zeroF _) (.agg [.lit (.string []), .lit (.string [])]) [] (fileElem_mk ByteArray.empty ByteArray.empty) b n D rfl (hown.alloc _) _ _ rfl hkey ?_; intro v ps hv; obtain ⟨s9, t9, rfl, _⟩ := fileElem_inv hv; rw [hhas])
    | (at_delete; refine wpList_delete_own _ rfl _ _ 61 9 rfl 51 law Try.underlying61 fileElem b n D rfl ((hown.alloc _).alloc _) _ _ rfl hkey ?_; intro w1 o1 ht1; have g1 := ht1.grown; have hsz1 := g1.size; have c1 : w1.cell? ⟨w.heap.size, 1, none⟩ = some (.string t) := g1.cell (a := ⟨w.heap.size, 1, none⟩) (by first | (simp [go_sem]; done) | (simp [World.cell?]; done) | (simp [World.cell?, go_sem]; done) | (simp [World.cell?, World.alloc_eq]; done)) (by intro e; cases e; exact Nat.lt_irrefl _ hbl)))
  all_goals
    go_ret
    exact ⟨by simp_all, ⟨_, o1, HE.out⟩, grT (grT (World.grownBy_alloc _ _ _) (World.grownBy_alloc _ _ _)) g1⟩
end Go.Proofs.Ytbceegonaomblaa.W
