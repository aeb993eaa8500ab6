
/-
  The texts of a tree, those that are named first, as the specification lays them: by first names, to a depth. No condition.
-/
import Derived.Test.YtgbcgchnnmgmfaaMathSort
import Derived.Test.YtgbcgchnnmgmfaaMathTNam
import Derived.Test.YtgbcgchnnmgmfaaRowF
import Derived.Test.YtgbcgchnnmgmfaaWalkSheet
import Derived.Test.YtgbcgchnnmgmfaaWalkLeaf
import Derived.Test.YtgbcgchnnmgmfaaMathId
namespace Go.Proofs.Ytgbcgchnnmgmfaa.M
open Go.RowKit Go.Proofs.Ytgbcgchnnmgmfaa.W

def fstF (x : TF) : List UInt8 := firstL x.pa.data.toList
def rstF (x : TF) : TF := ⟨⟨(restL x.pa.data.toList).toArray⟩, x.by_⟩
/-- the files under a first name, without it -/
def partF (L : List TF) (a : List UInt8) : List TF := (L.filter fun x => decide (fstF x = a)).map rstF
/-- the first names, each once, in order -/
def namF (L : List TF) : List (List UInt8) := namesB (L.map fstF)
/-- files that are one file at the empty path -/
def leafP : List TF → Option TF
  | [x] => if x.pa.data.toList = [] then some x else none
  | _ => none
def sheetOf (E : List OE) : ByteArray := ⟨(sheetT (E.map enO)).toArray⟩
/-- what stands for a first name: its texts, its entry -/
def grpOf (r : List ByteArray × List OE) (a : List UInt8) (P : List TF) : List ByteArray × OE :=
  match leafP P with
  | some x => ([leafB x.by_], ⟨⟨a.toArray⟩, false, idOfN (leafB x.by_).data.toList⟩)
  | none => (r.1 ++ [sheetOf r.2], ⟨⟨a.toArray⟩, true, idOfN (sheetOf r.2).data.toList⟩)
/-- the texts under a sheet, and the sheet's entries -/
def layD : Nat → List TF → List ByteArray × List OE
  | 0, _ => ([], [])
  | d + 1, L => ((namF L).flatMap fun a => (grpOf (layD d (partF L a)) a (partF L a)).1, (namF L).map fun a => (grpOf (layD d (partF L a)) a (partF L a)).2)
/-- what is laid for the first k names -/
def layK (d : Nat) (L : List TF) (k : Nat) : List ByteArray × List OE := (((namF L).take k).flatMap fun a => (grpOf (layD d (partF L a)) a (partF L a)).1, ((namF L).take k).map fun a => (grpOf (layD d (partF L a)) a (partF L a)).2)
theorem layK_all (d : Nat) (L : List TF) : layK d L (namF L).length = layD (d + 1) L := by simp [layK, layD]
theorem layK_step (d : Nat) (L : List TF) (k : Nat) (h : k < (namF L).length) : layK d L (k + 1) = ((layK d L k).1 ++ (grpOf (layD d (partF L (namF L)[k])) (namF L)[k] (partF L (namF L)[k])).1, (layK d L k).2 ++ [(grpOf (layD d (partF L (namF L)[k])) (namF L)[k] (partF L (namF L)[k])).2]) := by
  unfold layK
  rw [List.take_succ_eq_append_getElem h, List.flatMap_append, List.map_append]
  simp
/-- all texts, and the sheet's id -/
def layT (d : Nat) (L : List TF) : List ByteArray := (layD d L).1 ++ [sheetOf (layD d L).2]
def layI (d : Nat) (L : List TF) : Nat := idOfN (sheetOf (layD d L).2).data.toList
theorem partF_len (L : List TF) (a : List UInt8) : (partF L a).length ≤ L.length := by
  unfold partF
  rw [List.length_map]
  exact List.length_filter_le ..
theorem namF_len (L : List TF) : (namF L).length ≤ L.length := by
  unfold namF
  refine Nat.le_trans (namesB_len _) ?_
  rw [List.length_map]
  exact Nat.le_refl _
theorem flat_le {X Y : Type} (f : X → List Y) (l : List X) (m : Nat) (h : ∀ x ∈ l, (f x).length ≤ m) : (l.flatMap f).length ≤ l.length * m := by
  induction l with
  | nil => simp
  | cons x l ih =>
    have h1 := h x (List.mem_cons_self ..)
    have h2 := ih (fun y hy => h y (List.mem_cons_of_mem _ hy))
    rw [List.flatMap_cons, List.length_append, List.length_cons, Nat.add_mul]
    omega
/-- how many texts at most -/
def layN (n : Nat) : Nat → Nat
  | 0 => 1
  | d + 1 => n * layN n d + 1
theorem layN_pos (n d : Nat) : 1 ≤ layN n d := by cases d <;> simp [layN]
theorem grp_len (d n : Nat) (a : List UInt8) (P : List TF) (h : (layT d P).length ≤ layN n d) : (grpOf (layD d P) a P).1.length ≤ layN n d := by
  unfold grpOf
  split
  · simpa using layN_pos n d
  · exact h
theorem layT_len (n : Nat) : ∀ (d : Nat) (L : List TF), L.length ≤ n → (layT d L).length ≤ layN n d := by
  intro d
  induction d with
  | zero => intro L _; simp [layT, layD, layN]
  | succ d ih =>
    intro L hL
    unfold layT
    rw [List.length_append]
    have h1 : (layD (d + 1) L).1.length ≤ (namF L).length * layN n d := flat_le _ _ _ (fun a _ => grp_len d n a _ (ih _ (Nat.le_trans (partF_len L a) hL)))
    have h2 : (namF L).length * layN n d ≤ n * layN n d := Nat.mul_le_mul_right _ (Nat.le_trans (namF_len L) hL)
    show _ ≤ n * layN n d + 1
    simp only [List.length_cons, List.length_nil]
    omega
theorem layK_len (n d : Nat) (L : List TF) (k : Nat) (hL : L.length ≤ n) : (layK d L k).1.length ≤ layN n (d + 1) ∧ (layK d L k).2.length ≤ L.length := by
  constructor
  · have h1 : (layK d L k).1.length ≤ ((namF L).take k).length * layN n d := flat_le _ _ _ (fun a _ => grp_len d n a _ (layT_len n d _ (Nat.le_trans (partF_len L a) hL)))
    have h2 : ((namF L).take k).length ≤ n := Nat.le_trans (List.length_take_le' ..) (Nat.le_trans (namF_len L) hL)
    have h3 := Nat.mul_le_mul_right (layN n d) h2
    show _ ≤ n * layN n d + 1
    omega
  · unfold layK
    rw [List.length_map]
    exact Nat.le_trans (List.length_take_le' ..) (namF_len L)
theorem layN_mono (n d : Nat) (hn : 1 ≤ n) : layN n d ≤ layN n (d + 1) := by
  show layN n d ≤ n * layN n d + 1
  have := Nat.mul_le_mul_right (layN n d) hn
  omega
theorem layN_3 (d : Nat) (h : d ≤ 4) : layN 60 d ≤ 13400000 := by
  match d, h with
  | 0, _ => decide
  | 1, _ => decide
  | 2, _ => decide
  | 3, _ => decide
  | 4, _ => decide
theorem first_small (l : List UInt8) : (firstL l).length ≤ l.length := by
  unfold firstL
  split
  · exact bef_le l
  · simp
theorem rest_small (l : List UInt8) : (restL l).length ≤ l.length := by
  unfold restL
  split
  · exact Nat.le_trans (aft_le l) (by omega)
  · simp
theorem part_small (L : List TF) (a : List UInt8) (m : Nat) (h : ∀ x ∈ L, x.pa.size ≤ m ∧ x.by_.size ≤ m) : ∀ x ∈ partF L a, x.pa.size ≤ m ∧ x.by_.size ≤ m := fun x hx => by
  obtain ⟨y, hy, rfl⟩ := List.mem_map.1 hx
  have h1 := h y (List.mem_filter.1 hy).1
  refine ⟨?_, h1.2⟩
  have e : (rstF y).pa.size = (restL y.pa.data.toList).length := size_mk _
  have h2 := rest_small y.pa.data.toList
  have e2 : y.pa.data.toList.length = y.pa.size := by rw [Array.length_toList]; rfl
  omega
theorem nam_small (L : List TF) (m : Nat) (h : ∀ x ∈ L, x.pa.size ≤ m ∧ x.by_.size ≤ m) : ∀ a ∈ namF L, a.length ≤ m := fun a ha => by
  unfold namF at ha
  rw [mem_namesB] at ha
  obtain ⟨x, hx, rfl⟩ := List.mem_map.1 ha
  have h1 := (h x hx).1
  have h2 := first_small x.pa.data.toList
  have e2 : x.pa.data.toList.length = x.pa.size := by rw [Array.length_toList]; rfl
  unfold fstF
  omega
/-- a sheet's text is short -/
theorem hex_len (n : Int) : (idHexB n).size ≤ 8 := by
  by_cases h : 1 ≤ n ∧ n ≤ 4294967295
  · obtain ⟨m, rfl⟩ := Int.eq_ofNat_of_zero_le (show 0 ≤ n by omega)
    exact Nat.le_of_eq (idHexB_size m (by omega) (by omega))
  · rw [idHexB_out n h]; exact Nat.zero_le _
theorem encL_len (es : List En) (h : es.all okE = true) : (encL es).length ≤ es.length * 12 := by
  induction es with
  | nil => simp [encL]
  | cons e r ih =>
    rw [List.all_cons, Bool.and_eq_true] at h
    have h1 := ih h.2
    have h2 : e.nm.length ≤ 3 := by
      have := h.1
      unfold okE at this
      rw [Bool.and_eq_true] at this
      exact namB_le _ this.1
    have h3 := hex_len e.id
    have h4 : (idHexB e.id).data.toList.length = (idHexB e.id).size := by rw [Array.length_toList]; rfl
    simp only [encL, encE, List.length_append, List.length_cons, Nat.add_mul]
    omega
theorem sheet_small (E : List OE) : (sheetOf E).size ≤ 1000 := by
  have e : (sheetOf E).size = (sheetT (E.map enO)).length := size_mk _
  rw [e]
  unfold sheetT
  split
  · rename_i h
    unfold okL at h
    simp only [Bool.and_eq_true, decide_eq_true_eq] at h
    have := encL_len _ h.2.1
    simp only [List.length_cons]
    omega
  · simp
end Go.Proofs.Ytgbcgchnnmgmfaa.M
