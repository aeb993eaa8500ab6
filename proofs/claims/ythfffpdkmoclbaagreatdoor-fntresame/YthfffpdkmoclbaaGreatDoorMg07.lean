/-
  Plain mathematics of a path and its names: joined one behind the other they make the path again; the first one and the rest are those of the names. No condition but that the text is a path.
  What 'make' lays, as a list: the zero value's cells, over and over. No condition.
  Rows of TreFile: what it is that a slice reads as such a row; the walks of the exact laws' own helpers 'sz', 'to' and 'eq' on them. No condition but those named. (Written by genstruct.py.)
-/
import Derived.Test.YthfffpdkmoclbaaGreatDoorMg06
import Derived.Test.YthfffpdkmoclbaaGreatDoorMg01
import Derived.OwnWalk
import Derived.Below
import Derived.BigQuiet
import Derived.Deep.QuietTactic
import Derived.Deep.RegionWith
namespace Go.Proofs.YthfffpdkmoclbaaGreatDoor.M
open Go.RowKit Go.Proofs.YthfffpdkmoclbaaGreatDoor.W

/-- names joined with strokes -/
def glue : List (List UInt8) → List UInt8
  | [] => []
  | x :: r => if r = [] then x else x ++ 47 :: glue r
theorem glue_spl (l : List UInt8) : glue (spl l) = l := by
  induction l with
  | nil => rfl
  | cons c r ih =>
    obtain ⟨h, t, e⟩ := spl_ne r
    by_cases hc : c = 47
    · subst hc; simp only [spl, if_true, glue]; rw [ih, if_neg (by rw [e]; simp)]; rfl
    · rw [e] at ih
      simp only [spl, hc, if_false, e, List.headD_cons, List.tail_cons, glue] at ih ⊢
      by_cases ht : t = []
      · rw [if_pos ht] at ih ⊢; rw [ih]
      · rw [if_neg ht] at ih ⊢; rw [← ih]; rfl
theorem nms_inj (a b : List UInt8) (h : nms a = nms b) : a = b := by
  unfold nms at h
  obtain ⟨h1, t1, e1⟩ := spl_ne a
  obtain ⟨h2, t2, e2⟩ := spl_ne b
  by_cases ha : a = []
  · by_cases hb : b = []
    · rw [ha, hb]
    · rw [if_pos ha, if_neg hb, e2] at h; cases h
  · by_cases hb : b = []
    · rw [if_neg ha, if_pos hb, e1] at h; cases h
    · rw [if_neg ha, if_neg hb] at h
      rw [← glue_spl a, ← glue_spl b, h]
theorem low_has (l : List UInt8) (h : l.all low = true) : has l = false := by
  induction l with
  | nil => rfl
  | cons c r ih =>
    simp only [List.all_cons, Bool.and_eq_true] at h
    have hc : c ≠ 47 := by rintro rfl; exact absurd h.1 (by decide)
    unfold has; rw [if_neg hc]; exact ih h.2
theorem nam_one (x : List UInt8) (h : namB x = true) : pthB x = true ∧ nms x = [x] := by
  have h' := h
  unfold namB at h'
  simp only [Bool.and_eq_true, decide_eq_true_iff] at h'
  have hx : x ≠ [] := by rintro rfl; simp at h'
  have e : nms x = [x] := by unfold nms; rw [if_neg hx, spl_not x (low_has x h'.2.2)]
  refine ⟨?_, e⟩
  unfold pthB; rw [e]; simp [h]
/-- names joined one behind the other -/
def foldJ (xs : List (List UInt8)) : List UInt8 := xs.foldl joinL []
theorem foldJ_snoc (xs : List (List UInt8)) (x : List UInt8) : foldJ (xs ++ [x]) = joinL (foldJ xs) x := by simp [foldJ]
theorem foldJ_ok (n : Nat) : ∀ xs : List (List UInt8), xs.length = n → xs.all namB = true → xs.length ≤ 3 → pthB (foldJ xs) = true ∧ nms (foldJ xs) = xs := by
  induction n with
  | zero => intro xs h _ _; have : xs = [] := List.length_eq_zero_iff.1 h; subst this; exact ⟨rfl, rfl⟩
  | succ n ih =>
    intro xs h ha hl
    rcases List.eq_nil_or_concat xs with e | ⟨ys, x, e⟩
    · subst e; simp at h
    · have e' : xs = ys ++ [x] := by rw [e]; simp
      subst e'
      simp only [List.all_append, Bool.and_eq_true, List.length_append, List.length_cons, List.length_nil] at h ha hl
      have hx : namB x = true := by simpa using ha.2
      have i := ih ys (by omega) ha.1 (by omega)
      have o := nam_one x hx
      rw [foldJ_snoc]
      have f := join_fit (foldJ ys) x i.1 o.1 (by rw [i.2, o.2]; simp; omega)
      rw [i.2, o.2] at f
      exact f
theorem foldJ_le (xs : List (List UInt8)) (h : xs.all namB = true) (hl : xs.length ≤ 3) : (foldJ xs).length ≤ 12 := pth_le _ (foldJ_ok _ xs rfl h hl).1
theorem fold_all (l : List UInt8) (h : pthB l = true) : foldJ (nms l) = l := by
  have h' := h
  unfold pthB at h'; simp only [Bool.and_eq_true, decide_eq_true_iff] at h'
  exact nms_inj _ _ (foldJ_ok _ _ rfl h'.2 h'.1).2
theorem aft_nms (l : List UInt8) (h : pthB l = true) (hl : l ≠ []) : pthB (aft l) = true ∧ nms (aft l) = (nms l).drop 1 := by
  have h' := h
  unfold pthB at h'; simp only [Bool.and_eq_true, decide_eq_true_iff] at h'
  have e : nms l = spl l := by unfold nms; rw [if_neg hl]
  cases hh : has l
  · rw [e, spl_not l hh]
    rcases idx_cases l with ⟨_, _, _, e4⟩ | ⟨_, _, _, e3, _, _⟩
    · rw [e4]; exact ⟨rfl, rfl⟩
    · rw [hh] at e3; cases e3
  · rw [e, spl_has l hh] at h'
    simp only [List.all_cons, Bool.and_eq_true, List.length_cons] at h'
    have hne : aft l ≠ [] := by intro e0; rw [e0] at h'; simp [spl, namB] at h'
    have e2 : nms (aft l) = spl (aft l) := by unfold nms; rw [if_neg hne]
    rw [e, spl_has l hh, List.drop_succ_cons, List.drop_zero]
    refine ⟨?_, e2⟩
    unfold pthB; rw [e2]; simp only [Bool.and_eq_true, decide_eq_true_iff]; exact ⟨by omega, h'.2.2⟩
theorem fold_rest (l : List UInt8) (h : pthB l = true) (hl : l ≠ []) : foldJ ((nms l).drop 1) = restL l := by
  have a := aft_nms l h hl
  unfold restL; rw [if_pos h, ← a.2]; exact fold_all _ a.1
theorem first_is (l : List UInt8) (h : pthB l = true) (hl : l ≠ []) : (nms l)[0]? = some (firstL l) := by
  have e : nms l = spl l := by unfold nms; rw [if_neg hl]
  obtain ⟨t, et⟩ := spl_head l
  unfold firstL; rw [e, et, if_pos h]; rfl
theorem drop_take (L : List (List UInt8)) (j : Nat) (h : j < L.length) (hj : 1 ≤ j) : (L.take (j + 1)).drop 1 = (L.take j).drop 1 ++ [L[j]] := by
  rw [List.take_succ_eq_append_getElem h, List.drop_append_of_le_length (by simp; omega)]
theorem all_take (L : List (List UInt8)) (j : Nat) (h : L.all namB = true) : (L.take j).all namB = true := by
  rw [List.all_eq_true] at *; intro x hx; exact h x (List.mem_of_mem_take hx)
theorem all_drop (L : List (List UInt8)) (j : Nat) (h : L.all namB = true) : (L.drop j).all namB = true := by
  rw [List.all_eq_true] at *; intro x hx; exact h x (List.mem_of_mem_drop hx)
theorem joinB_mk (a b : List UInt8) : joinB ⟨a.toArray⟩ ⟨b.toArray⟩ = ⟨(joinL a b).toArray⟩ := by unfold joinB; simp
end Go.Proofs.YthfffpdkmoclbaaGreatDoor.M
namespace Go.Proofs.YthfffpdkmoclbaaGreatDoor.W
open Go.RowKit

theorem flat_len (l : List Value) (n : Nat) : (List.replicate n l).flatten.length = n * l.length := by
  induction n with
  | zero => simp
  | succ n ih => rw [List.replicate_succ, List.flatten_cons, List.length_append, ih, Nat.succ_mul]; omega
theorem flat_get (l : List Value) (n i : Nat) (h : i < n * l.length) : (List.replicate n l).flatten[i]? = l[i % l.length]? := by
  induction n generalizing i with
  | zero => simp at h
  | succ n ih =>
    rw [List.replicate_succ, List.flatten_cons]
    by_cases hi : i < l.length
    · rw [List.getElem?_append_left hi, Nat.mod_eq_of_lt hi]
    · have hge : l.length ≤ i := by omega
      rw [List.getElem?_append_right hge, ih (i - l.length) (by rw [Nat.succ_mul] at h; omega), Nat.mod_eq_sub_mod hge]
theorem made_flat (z : Array Value) (n k : Nat) (hk : z.size = k) (h0 : 0 < k) : (madeCells z (n * k)).toList = (List.replicate n z.toList).flatten := by
  subst hk
  apply List.ext_getElem?
  intro i
  by_cases hi : i < n * z.size
  · rw [flat_get _ _ _ (by simpa using hi)]
    have hm : i % z.size < z.size := Nat.mod_lt _ h0
    simp [madeCells, hi, hm]
  · rw [List.getElem?_eq_none (by simp [madeCells]; omega), List.getElem?_eq_none (by rw [flat_len]; simp; omega)]
/-- a row stays owned where nothing below the heap's old size has turned -/
theorem ownsUnder {w w' : World} {base : Nat} {e : TypeId} {z : Nat} {v : Value} {n : Nat} {xs : List Value} (h : w.ownsRow base e z v n xs) {B : Nat} (hb : Below B w w') (hB : w.heap.size ≤ B) : w'.ownsRow base e z v n xs :=
  h.kept (row := none) ⟨hb.os, hb.tape, hb.output, hb.size, fun q hq _ => hb.block q (by omega)⟩ (by cases h : v.ownBlock <;> simp)
/-- its cells are there -/
theorem ownsCell {w : World} {base : Nat} {e : TypeId} {z g n cap : Nat} {xs : List Value} (h : w.ownsRow base e z (.slice (some ⟨g, 0, none⟩) n cap) n xs) (j : Nat) (hj : j < n * z) : ∃ u, w.cell? ⟨g, j, none⟩ = some u :=
  ⟨_, (h.cellAt j hj).trans (List.getElem?_eq_getElem (by rw [h.1]; exact hj))⟩
end Go.Proofs.YthfffpdkmoclbaaGreatDoor.W
namespace Go.Proofs.YthfffpdkmoclbaaGreatDoor.W
open Go.RowKit

structure TF where
  pa : ByteArray
  by_ : ByteArray

def cellsF (L : List TF) : List Value := L.flatMap fun x => [.string x.pa, .string x.by_]
theorem cellsF_cons (x : TF) (l : List TF) : cellsF (x :: l) = .string x.pa :: .string x.by_ :: cellsF l := by simp [cellsF]
theorem cellsF_length (L : List TF) : (cellsF L).length = L.length * 2 := by
  induction L with
  | nil => rfl
  | cons x l ih => rw [cellsF_cons]; simp; omega
theorem cellsF_snoc (L : List TF) (x : TF) : cellsF (L ++ [x]) = cellsF L ++ [.string x.pa, .string x.by_] := by simp [cellsF]
theorem cellsF_get (L : List TF) (j : Nat) (h : j < L.length) : (cellsF L)[j * 2]? = some (.string (L[j]).pa) ∧ (cellsF L)[j * 2 + 1]? = some (.string (L[j]).by_) := by
  induction L generalizing j with
  | nil => simp at h
  | cons x l ih =>
    rw [cellsF_cons]
    cases j with
    | zero => simp
    | succ j =>
      have := ih j (by simpa using h)
      rw [show (j + 1) * 2 = j * 2 + 1 + 1 by omega]
      simpa using this
def RdF (B : Nat) (w : World) (A : Option Addr) (L : List TF) : Prop :=
  ∀ j (h : j < L.length), ∃ b o, A = some ⟨b, o, none⟩ ∧ b < B ∧ w.cell? ⟨b, o + j * 2, none⟩ = some (.string (L[j]).pa) ∧ w.cell? ⟨b, o + j * 2 + 1, none⟩ = some (.string (L[j]).by_)
theorem RdF.below {B B' : Nat} {w w' : World} {A : Option Addr} {L : List TF} (h : RdF B w A L) (hb : Below B' w w') (hB : B ≤ B') : RdF B w' A L := fun j hj => by
  obtain ⟨b, o, e, hl, c1, c2⟩ := h j hj
  exact ⟨b, o, e, hl, (hb.cell (p := ⟨b, _, none⟩) (by show b < B'; omega)).trans c1, (hb.cell (p := ⟨b, _, none⟩) (by show b < B'; omega)).trans c2⟩
theorem RdF.mono {B B' : Nat} {w : World} {A : Option Addr} {L : List TF} (h : RdF B w A L) (hB : B ≤ B') : RdF B' w A L := fun j hj => by
  obtain ⟨b, o, e, hl, c⟩ := h j hj
  exact ⟨b, o, e, by omega, c⟩
theorem RdF.up {w w' : World} {A : Option Addr} {L : List TF} (h : RdF w.heap.size w A L) (hb : Below w.heap.size w w') : RdF w'.heap.size w' A L := (h.below hb (Nat.le_refl _)).mono hb.size
theorem rdF_of_own {w : World} {base : Nat} {e : TypeId} {v : Value} {L : List TF} (h : w.ownsRow base e 2 v L.length (cellsF L)) : ∃ A c, v = .slice A L.length c ∧ RdF w.heap.size w A L := by
  have hl := h.lt
  rcases h.2 with ⟨rfl, hn⟩ | ⟨g, cap, cur, rfl, _⟩
  · exact ⟨none, 0, by rw [hn], fun j hj => by omega⟩
  · refine ⟨some ⟨g, 0, none⟩, cap, rfl, fun j hj => ⟨g, 0, rfl, (hl g rfl).2, ?_, ?_⟩⟩
    · rw [Nat.zero_add, h.cellAt (j * 2) (by omega)]; exact (cellsF_get L j hj).1
    · rw [Nat.zero_add, h.cellAt (j * 2 + 1) (by omega)]; exact (cellsF_get L j hj).2

def szF (L : List TF) : Nat := (L.map fun x => x.pa.size + x.by_.size).sum
theorem szF_snoc (L : List TF) (j : Nat) (h : j < L.length) : szF (L.take (j + 1)) = szF (L.take j) + ((L[j]).pa.size + (L[j]).by_.size) := by
  unfold szF
  rw [List.take_succ_eq_append_getElem h]
  simp only [List.map_append, List.sum_append, List.map_cons, List.map_nil, List.sum_cons, List.sum_nil, Nat.add_zero]
theorem szF_le (L : List TF) (j : Nat) : szF (L.take j) ≤ szF L := by
  unfold szF
  conv => rhs; rw [← List.take_append_drop j L]
  simp only [List.map_append, List.sum_append]
  omega

theorem infoF : (Tryz.prog.info? 98).map (fun i => (i.zero, i.size, i.bytes)) = some (some (.agg #[.string ByteArray.empty, .string ByteArray.empty]), 2, 32) := by kernel_rfl
def laidF (L : List TF) (j : Nat) : List Value := cellsF (L.take j) ++ (List.replicate (L.length - j) [Value.string ByteArray.empty, .string ByteArray.empty]).flatten
theorem laidF_zero (L : List TF) : laidF L 0 = (madeCells #[.string ByteArray.empty, .string ByteArray.empty] (L.length * 2)).toList := by
  rw [made_flat _ _ 2 rfl (by decide)]; simp [laidF, cellsF]
theorem laidF_all (L : List TF) : laidF L L.length = cellsF L := by simp [laidF]
theorem laidF_step (L : List TF) (j : Nat) (h : j < L.length) : (((laidF L j).set (j * 2) (.string (L[j]).pa)).set (j * 2 + 1) (.string (L[j]).by_)) = laidF L (j + 1) := by
  unfold laidF
  have hl : (cellsF (L.take j)).length = j * 2 := by rw [cellsF_length]; simp; omega
  obtain ⟨m, hm⟩ : ∃ m, L.length - j = m + 1 := ⟨L.length - j - 1, by omega⟩
  have hm' : L.length - (j + 1) = m := by omega
  rw [hm, hm', List.replicate_succ, List.flatten_cons, List.take_succ_eq_append_getElem h, cellsF_snoc]
  rw [List.set_append_right _ _ (by omega), hl, show j * 2 - j * 2 = 0 by omega]
  simp only [List.cons_append, List.nil_append, List.set_cons_zero]
  rw [List.set_append_right _ _ (by omega), hl, show j * 2 + 1 - j * 2 = 1 by omega]
  simp only [List.set_cons_zero, List.set_cons_succ]
  simp

end Go.Proofs.YthfffpdkmoclbaaGreatDoor.W
