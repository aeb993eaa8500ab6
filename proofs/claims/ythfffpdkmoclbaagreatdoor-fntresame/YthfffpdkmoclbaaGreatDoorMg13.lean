/-
  The texts of a tree, those that are named first, as the specification lays them: by first names, to a depth. No condition.
  The walks of the reader that the laws draw by: 'l20Open' and 'pick'. 'Rd': the reader lies in block rb, has come to place p, and reads bytes that are there. 'pick' answers a number below n.
  The walks of what the laws of chapters 1 and 2 draw: each answers some text of at most 64 bytes (or some number), the reader goes on, and of what lay nothing but the reader has turned.
-/
import Derived.Test.YthfffpdkmoclbaaGreatDoorMg01
import Derived.Test.YthfffpdkmoclbaaGreatDoorMg08
import Derived.Test.YthfffpdkmoclbaaGreatDoorMg07
import Derived.Test.YthfffpdkmoclbaaGreatDoorMg12
import Derived.Below
import Derived.OwnWalk
import Derived.BigQuiet
import Derived.Deep.QuietTactic
import Derived.RangeFuncBox
import Derived.Laws.BitsAllLaws
import Derived.Maps.AppendAt
namespace Go.Proofs.YthfffpdkmoclbaaGreatDoor.M
open Go.RowKit Go.Proofs.YthfffpdkmoclbaaGreatDoor.W

def fstF (x : TF) : List UInt8 := firstL x.pa.data.toList
def rstF (x : TF) : TF := ⟨⟨(restL x.pa.data.toList).toArray⟩, x.by_⟩
/-- the files under a first name, without it -/
def partF (L : List TF) (a : List UInt8) : List TF := (L.filter fun x => decide (fstF x = a)).map rstF
/-- the first names, each once, in order -/
def namF (L : List TF) : List (List UInt8) := namesB (L.map fstF)
/-- files that are one file at the empty path -/
def leafP : List TF → Option TF
  | [x] => if x.pa.data.toList = [] then some x else none
  | _ => none
def sheetOf (E : List OE) : ByteArray := ⟨(sheetT (E.map enO)).toArray⟩
/-- what stands for a first name: its texts, its entry -/
def grpOf (r : List ByteArray × List OE) (a : List UInt8) (P : List TF) : List ByteArray × OE :=
  match leafP P with
  | some x => ([leafB x.by_], ⟨⟨a.toArray⟩, false, idOfN (leafB x.by_).data.toList⟩)
  | none => (r.1 ++ [sheetOf r.2], ⟨⟨a.toArray⟩, true, idOfN (sheetOf r.2).data.toList⟩)
/-- the texts under a sheet, and the sheet's entries -/
def layD : Nat → List TF → List ByteArray × List OE
  | 0, _ => ([], [])
  | d + 1, L => ((namF L).flatMap fun a => (grpOf (layD d (partF L a)) a (partF L a)).1, (namF L).map fun a => (grpOf (layD d (partF L a)) a (partF L a)).2)
/-- what is laid for the first k names -/
def layK (d : Nat) (L : List TF) (k : Nat) : List ByteArray × List OE := (((namF L).take k).flatMap fun a => (grpOf (layD d (partF L a)) a (partF L a)).1, ((namF L).take k).map fun a => (grpOf (layD d (partF L a)) a (partF L a)).2)
theorem layK_all (d : Nat) (L : List TF) : layK d L (namF L).length = layD (d + 1) L := by simp [layK, layD]
theorem layK_step (d : Nat) (L : List TF) (k : Nat) (h : k < (namF L).length) : layK d L (k + 1) = ((layK d L k).1 ++ (grpOf (layD d (partF L (namF L)[k])) (namF L)[k] (partF L (namF L)[k])).1, (layK d L k).2 ++ [(grpOf (layD d (partF L (namF L)[k])) (namF L)[k] (partF L (namF L)[k])).2]) := by
  unfold layK
  rw [List.take_succ_eq_append_getElem h, List.flatMap_append, List.map_append]
  simp
/-- all texts, and the sheet's id -/
def layT (d : Nat) (L : List TF) : List ByteArray := (layD d L).1 ++ [sheetOf (layD d L).2]
def layI (d : Nat) (L : List TF) : Nat := idOfN (sheetOf (layD d L).2).data.toList
theorem partF_len (L : List TF) (a : List UInt8) : (partF L a).length ≤ L.length := by
  unfold partF
  rw [List.length_map]
  exact List.length_filter_le ..
theorem namF_len (L : List TF) : (namF L).length ≤ L.length := by
  unfold namF
  refine Nat.le_trans (namesB_len _) ?_
  rw [List.length_map]
  exact Nat.le_refl _
theorem flat_le {X Y : Type} (f : X → List Y) (l : List X) (m : Nat) (h : ∀ x ∈ l, (f x).length ≤ m) : (l.flatMap f).length ≤ l.length * m := by
  induction l with
  | nil => simp
  | cons x l ih =>
    have h1 := h x (List.mem_cons_self ..)
    have h2 := ih (fun y hy => h y (List.mem_cons_of_mem _ hy))
    rw [List.flatMap_cons, List.length_append, List.length_cons, Nat.add_mul]
    omega
/-- how many texts at most -/
def layN (n : Nat) : Nat → Nat
  | 0 => 1
  | d + 1 => n * layN n d + 1
theorem layN_pos (n d : Nat) : 1 ≤ layN n d := by cases d <;> simp [layN]
theorem grp_len (d n : Nat) (a : List UInt8) (P : List TF) (h : (layT d P).length ≤ layN n d) : (grpOf (layD d P) a P).1.length ≤ layN n d := by
  unfold grpOf
  split
  · simpa using layN_pos n d
  · exact h
theorem layT_len (n : Nat) : ∀ (d : Nat) (L : List TF), L.length ≤ n → (layT d L).length ≤ layN n d := by
  intro d
  induction d with
  | zero => intro L _; simp [layT, layD, layN]
  | succ d ih =>
    intro L hL
    unfold layT
    rw [List.length_append]
    have h1 : (layD (d + 1) L).1.length ≤ (namF L).length * layN n d := flat_le _ _ _ (fun a _ => grp_len d n a _ (ih _ (Nat.le_trans (partF_len L a) hL)))
    have h2 : (namF L).length * layN n d ≤ n * layN n d := Nat.mul_le_mul_right _ (Nat.le_trans (namF_len L) hL)
    show _ ≤ n * layN n d + 1
    simp only [List.length_cons, List.length_nil]
    omega
theorem layK_len (n d : Nat) (L : List TF) (k : Nat) (hL : L.length ≤ n) : (layK d L k).1.length ≤ layN n (d + 1) ∧ (layK d L k).2.length ≤ L.length := by
  constructor
  · have h1 : (layK d L k).1.length ≤ ((namF L).take k).length * layN n d := flat_le _ _ _ (fun a _ => grp_len d n a _ (layT_len n d _ (Nat.le_trans (partF_len L a) hL)))
    have h2 : ((namF L).take k).length ≤ n := Nat.le_trans (List.length_take_le' ..) (Nat.le_trans (namF_len L) hL)
    have h3 := Nat.mul_le_mul_right (layN n d) h2
    show _ ≤ n * layN n d + 1
    omega
  · unfold layK
    rw [List.length_map]
    exact Nat.le_trans (List.length_take_le' ..) (namF_len L)
theorem layN_mono (n d : Nat) (hn : 1 ≤ n) : layN n d ≤ layN n (d + 1) := by
  show layN n d ≤ n * layN n d + 1
  have := Nat.mul_le_mul_right (layN n d) hn
  omega
theorem layN_3 (d : Nat) (h : d ≤ 4) : layN 60 d ≤ 13400000 := by
  match d, h with
  | 0, _ => decide
  | 1, _ => decide
  | 2, _ => decide
  | 3, _ => decide
  | 4, _ => decide
theorem first_small (l : List UInt8) : (firstL l).length ≤ l.length := by
  unfold firstL
  split
  · exact bef_le l
  · simp
theorem rest_small (l : List UInt8) : (restL l).length ≤ l.length := by
  unfold restL
  split
  · exact Nat.le_trans (aft_le l) (by omega)
  · simp
theorem part_small (L : List TF) (a : List UInt8) (m : Nat) (h : ∀ x ∈ L, x.pa.size ≤ m ∧ x.by_.size ≤ m) : ∀ x ∈ partF L a, x.pa.size ≤ m ∧ x.by_.size ≤ m := fun x hx => by
  obtain ⟨y, hy, rfl⟩ := List.mem_map.1 hx
  have h1 := h y (List.mem_filter.1 hy).1
  refine ⟨?_, h1.2⟩
  have e : (rstF y).pa.size = (restL y.pa.data.toList).length := size_mk _
  have h2 := rest_small y.pa.data.toList
  have e2 : y.pa.data.toList.length = y.pa.size := by rw [Array.length_toList]; rfl
  omega
theorem nam_small (L : List TF) (m : Nat) (h : ∀ x ∈ L, x.pa.size ≤ m ∧ x.by_.size ≤ m) : ∀ a ∈ namF L, a.length ≤ m := fun a ha => by
  unfold namF at ha
  rw [mem_namesB] at ha
  obtain ⟨x, hx, rfl⟩ := List.mem_map.1 ha
  have h1 := (h x hx).1
  have h2 := first_small x.pa.data.toList
  have e2 : x.pa.data.toList.length = x.pa.size := by rw [Array.length_toList]; rfl
  unfold fstF
  omega
/-- a sheet's text is short -/
theorem hex_len (n : Int) : (idHexB n).size ≤ 8 := by
  by_cases h : 1 ≤ n ∧ n ≤ 4294967295
  · obtain ⟨m, rfl⟩ := Int.eq_ofNat_of_zero_le (show 0 ≤ n by omega)
    exact Nat.le_of_eq (idHexB_size m (by omega) (by omega))
  · rw [idHexB_out n h]; exact Nat.zero_le _
theorem encL_len (es : List En) (h : es.all okE = true) : (encL es).length ≤ es.length * 12 := by
  induction es with
  | nil => simp [encL]
  | cons e r ih =>
    rw [List.all_cons, Bool.and_eq_true] at h
    have h1 := ih h.2
    have h2 : e.nm.length ≤ 3 := by
      have := h.1
      unfold okE at this
      rw [Bool.and_eq_true] at this
      exact namB_le _ this.1
    have h3 := hex_len e.id
    have h4 : (idHexB e.id).data.toList.length = (idHexB e.id).size := by rw [Array.length_toList]; rfl
    simp only [encL, encE, List.length_append, List.length_cons, Nat.add_mul]
    omega
theorem sheet_small (E : List OE) : (sheetOf E).size ≤ 1000 := by
  have e : (sheetOf E).size = (sheetT (E.map enO)).length := size_mk _
  rw [e]
  unfold sheetT
  split
  · rename_i h
    unfold okL at h
    simp only [Bool.and_eq_true, decide_eq_true_eq] at h
    have := encL_len _ h.2.1
    simp only [List.length_cons]
    omega
  · simp
end Go.Proofs.YthfffpdkmoclbaaGreatDoor.M
namespace Go.Proofs.YthfffpdkmoclbaaGreatDoor.W
open Go.RowKit Go.Proofs.YthfffpdkmoclbaaGreatDoor.M

structure Rd (w : World) (rb p : Nat) (a : Option Addr) (len cap : Nat) (zs : Nat → Int) : Prop where
  c0 : w.cell? ⟨rb, 0, none⟩ = some (.slice a len cap)
  c1 : w.cell? ⟨rb, 1, none⟩ = some (.int .i64 p)
  f1 : w.frozen? ⟨rb, 1, none⟩ = false
  hl : len ≤ 2000
  row : len = 0 ∨ ∃ b off, a = some ⟨b, off, none⟩ ∧ b < rb ∧ ∀ i, i < len → w.cell? ⟨b, off + i, none⟩ = some (.int .u8 (zs i)) ∧ 0 ≤ zs i ∧ zs i ≤ 255

/-- the number that a reader picks -/
def pickV (zs : Nat → Int) (len p n : Nat) : Int :=
  if len = 0 then 0 else if p < len then zs p % (n : Int) else
    (bits BinOp.xor IntKind.i64 (zs (p % len) * 131 + zs ((p * 7 + 3) % len) * 1117 + (p : Int) * 29 + ((p / len : Nat) : Int) * 53) ((zs (p % len) * 131 + zs ((p * 7 + 3) % len) * 1117 + (p : Int) * 29 + ((p / len : Nat) : Int) * 53) / 64)).tmod (n : Int)
theorem xpick (X : Int) (n : Nat) (h0 : 0 ≤ X) (h1 : X < 4294967296) (hn : 1 ≤ n) :
    0 ≤ (bits BinOp.xor IntKind.i64 X (X / 64)).tmod (n : Int) ∧ (bits BinOp.xor IntKind.i64 X (X / 64)).tmod (n : Int) < n := by
  obtain ⟨x, rfl⟩ := Int.eq_ofNat_of_zero_le h0
  have e : ((x : Int) / 64) = ((x / 64 : Nat) : Int) := cast_div x 64
  rw [e, i64_xor_nat x (x / 64) (by omega) (by omega), Int.tmod_eq_emod_of_nonneg (by omega)]
  exact ⟨Int.emod_nonneg _ (by omega), Int.emod_lt_of_pos _ (by omega)⟩

set_option maxHeartbeats 1000000 in
theorem pick_raw (w : World) (rb p : Nat) (a : Option Addr) (len cap n : Nat) (zs : Nat → Int) (h : Rd w rb p a len cap zs) (hp : p ≤ 1000000) (hn : 1 ≤ n) (hn2 : n ≤ 1000000) :
    Calls Tryz.prog 49 #[.pointer (some ⟨rb, 0, none⟩), .int .i64 n] w fun e w' => e = .returned (.int .i64 (pickV zs len p n)) ∧ ∃ q, w' = (w.setCell ⟨rb, 1, none⟩ (.int .i64 ((p : Int) + 1))).drewN q := by
  obtain ⟨c0, c1, f1, hl, row⟩ := h
  rcases row with h0 | ⟨b, off, rfl, hb, row⟩
  · subst h0
    go_enter Tryz.func49, Tryz.ntmps49
    go_wp2
    go_ret
    exact ⟨ret_int (by simp [pickV]), 0, rfl⟩
  · have hne : b ≠ rb := by omega
    have ROW : Hid (∀ i, i < len → w.cell? ⟨b, off + i, none⟩ = some (.int .u8 (zs i)) ∧ 0 ≤ zs i ∧ zs i ≤ 255) := row
    clear row
    by_cases h0 : len = 0
    · subst h0
      go_enter Tryz.func49, Tryz.ntmps49
      go_wp2
      go_ret
      exact ⟨ret_int (by simp [pickV]), 0, rfl⟩
    · have hpos : 0 < len := by omega
      have h0' : ((len : Int) == 0) = false := by simp; omega
      by_cases hlt : p < len
      · obtain ⟨hz, hz0, hz1⟩ := ROW.out p hlt
        have HV : Hid (pickV zs len p n = zs p % (n : Int)) := by show pickV zs len p n = _; unfold pickV; rw [if_neg h0, if_pos hlt]
        go_enter Tryz.func49, Tryz.ntmps49
        go_wp2
        go_ret
        exact ⟨ret_int (by rw [HV.out]), 0, rfl⟩
      · have HV : Hid (pickV zs len p n = (bits BinOp.xor IntKind.i64 (zs (p % len) * 131 + zs ((p * 7 + 3) % len) * 1117 + (p : Int) * 29 + ((p / len : Nat) : Int) * 53) ((zs (p % len) * 131 + zs ((p * 7 + 3) % len) * 1117 + (p : Int) * 29 + ((p / len : Nat) : Int) * 53) / 64)).tmod (n : Int)) := by show pickV zs len p n = _; unfold pickV; rw [if_neg h0, if_neg hlt]
        obtain ⟨m1, hm1, hl1, e1⟩ : ∃ m1 : Nat, (p : Int) % (len : Int) = (m1 : Int) ∧ m1 < len ∧ Hid (p % len = m1) := ⟨p % len, by simp, Nat.mod_lt _ hpos, rfl⟩
        obtain ⟨m2, hm2, hl2, e2⟩ : ∃ m2 : Nat, ((p : Int) * 7 + 3) % (len : Int) = (m2 : Int) ∧ m2 < len ∧ Hid ((p * 7 + 3) % len = m2) := ⟨(p * 7 + 3) % len, by simp, Nat.mod_lt _ hpos, rfl⟩
        obtain ⟨m3, hm3, hl3, e3⟩ : ∃ m3 : Nat, (p : Int) / (len : Int) = (m3 : Int) ∧ m3 ≤ p ∧ Hid (p / len = m3) := ⟨p / len, by simp, Nat.div_le_self _ _, rfl⟩
        obtain ⟨hz, hz0, hz1⟩ := ROW.out m1 hl1
        obtain ⟨hy, hy0, hy1⟩ := ROW.out m2 hl2
        clear ROW
        go_enter Tryz.func49, Tryz.ntmps49
        go_wp2
        go_quiet (fail)
        go_wp2
        go_ret
        exact ⟨ret_int (by rw [HV.out, e1.out, e2.out, e3.out]), _, rfl⟩

theorem pickV_bd {w : World} {rb p : Nat} {a : Option Addr} {len cap : Nat} {zs : Nat → Int} (h : Rd w rb p a len cap zs) (n : Nat) (hp : p ≤ 1000000) (hn : 1 ≤ n) : ∃ v : Nat, v < n ∧ pickV zs len p n = (v : Int) := by
  have key : 0 ≤ pickV zs len p n ∧ pickV zs len p n < n := by
    unfold pickV
    by_cases h0 : len = 0
    · rw [if_pos h0]; omega
    · rw [if_neg h0]
      rcases h.row with h1 | ⟨b, off, _, _, hr⟩
      · exact absurd h1 h0
      · by_cases hlt : p < len
        · rw [if_pos hlt]; exact ⟨Int.emod_nonneg _ (by omega), Int.emod_lt_of_pos _ (by omega)⟩
        · rw [if_neg hlt]
          have hpos : 0 < len := by omega
          obtain ⟨_, hz0, hz1⟩ := hr (p % len) (Nat.mod_lt _ hpos)
          obtain ⟨_, hy0, hy1⟩ := hr ((p * 7 + 3) % len) (Nat.mod_lt _ hpos)
          have hl3 : p / len ≤ p := Nat.div_le_self _ _
          generalize p / len = m3 at hl3 ⊢
          exact xpick _ n (by omega) (by omega) hn
  exact ⟨(pickV zs len p n).toNat, by omega, by omega⟩

theorem Rd.kept {w w' : World} {rb p : Nat} {a : Option Addr} {len cap : Nat} {zs : Nat → Int} {row : Option Nat} (h : Rd w rb p a len cap zs) (hg : w.grownBy w' row) (hr : ∀ r, row = some r → rb < r) (hlt : rb < w.heap.size) : Rd w' rb p a len cap zs := by
  have hb : ∀ k, k ≤ rb → w'.heap[k]? = w.heap[k]? := fun k hk => hg.block k (by omega) (fun e => by have := hr k e.symm; omega)
  obtain ⟨c0, c1, f1, hl, row'⟩ := h
  refine ⟨(World.cell?_of_block (a := ⟨rb, 0, none⟩) (hb rb (Nat.le_refl _))).trans c0, (World.cell?_of_block (a := ⟨rb, 1, none⟩) (hb rb (Nat.le_refl _))).trans c1, (World.frozen?_of_block (a := ⟨rb, 1, none⟩) (hb rb (Nat.le_refl _))).trans f1, hl, ?_⟩
  rcases row' with h0 | ⟨b, off, e, hlt', hrow⟩
  · exact .inl h0
  · exact .inr ⟨b, off, e, hlt', fun i hi => by
      obtain ⟨hz, h1, h2⟩ := hrow i hi
      exact ⟨(World.cell?_of_block (a := ⟨b, off + i, none⟩) (hb b (by show b ≤ rb; omega))).trans hz, h1, h2⟩⟩

theorem Rd.picked {w : World} {rb p : Nat} {a : Option Addr} {len cap : Nat} {zs : Nat → Int} (h : Rd w rb p a len cap zs) (q : Nat) : Rd ((w.setCell ⟨rb, 1, none⟩ (.int .i64 ((p : Int) + 1))).drewN q) rb (p + 1) a len cap zs ∧ w.grownBy ((w.setCell ⟨rb, 1, none⟩ (.int .i64 ((p : Int) + 1))).drewN q) (some rb) := by
  obtain ⟨c0, c1, f1, hl, row⟩ := h
  refine ⟨⟨?_, ?_, ?_, hl, ?_⟩, ?_⟩
  · show (w.setCell _ _).cell? _ = _
    rw [World.cell?_setCell_other _ _ _ _ (by simp)]; exact c0
  · show (w.setCell _ _).cell? _ = _
    rw [World.cell?_setCell_same' _ _ _ (by rw [c1]; rfl)]; simp
  · show (w.setCell _ _).frozen? _ = _
    rw [World.frozen?_setCell]; exact f1
  · rcases row with h0 | ⟨b, off, e, hlt', hrow⟩
    · exact .inl h0
    · refine .inr ⟨b, off, e, hlt', fun i hi => ?_⟩
      obtain ⟨hz, h1, h2⟩ := hrow i hi
      refine ⟨?_, h1, h2⟩
      show (w.setCell _ _).cell? _ = _
      rw [World.cell?_setCell_other _ _ _ _ (by simp)]; exact hz
  · have hg := grownBy_setCell' w rb (.int .i64 ((p : Int) + 1))
    exact ⟨rfl, rfl, rfl, by simp, fun k hk hne => Below.heap_setCell w ⟨rb, 1, none⟩ _ k (fun e => hne (by rw [e]))⟩

theorem pick_det (w : World) (rb p : Nat) (a : Option Addr) (len cap n : Nat) (zs : Nat → Int) (h : Rd w rb p a len cap zs) (hp : p ≤ 1000000) (hn : 1 ≤ n) (hn2 : n ≤ 1000000) :
    Calls Tryz.prog 49 #[.pointer (some ⟨rb, 0, none⟩), .int .i64 n] w fun e w' => e = .returned (.int .i64 (pickV zs len p n)) ∧ Rd w' rb (p + 1) a len cap zs ∧ w.grownBy w' (some rb) := by
  refine (pick_raw w rb p a len cap n zs h hp hn hn2).mono ?_
  rintro e w' ⟨rfl, q, rfl⟩
  exact ⟨rfl, (h.picked q).1, (h.picked q).2⟩
theorem pick_any (w : World) (rb p : Nat) (a : Option Addr) (len cap n : Nat) (zs : Nat → Int) (h : Rd w rb p a len cap zs) (hp : p ≤ 1000000) (hn : 1 ≤ n) (hn2 : n ≤ 1000000) :
    Calls Tryz.prog 49 #[.pointer (some ⟨rb, 0, none⟩), .int .i64 n] w fun e w' => ∃ v : Nat, v < n ∧ e = .returned (.int .i64 v) ∧ Rd w' rb (p + 1) a len cap zs ∧ w.grownBy w' (some rb) := by
  obtain ⟨v, hv, he⟩ := pickV_bd h n hp hn
  refine (pick_det w rb p a len cap n zs h hp hn hn2).mono ?_
  rintro e w' ⟨rfl, h1, h2⟩
  exact ⟨v, hv, ret_int he, h1, h2⟩
end Go.Proofs.YthfffpdkmoclbaaGreatDoor.W
namespace Go.Proofs.YthfffpdkmoclbaaGreatDoor.W
open Go.RowKit Go.Proofs.YthfffpdkmoclbaaGreatDoor.M

theorem gtrans {a b c : World} {row : Option Nat} (h : a.grownBy b row) (k : b.grownBy c row) : a.grownBy c row :=
  ⟨k.os.trans h.os, k.tape.trans h.tape, k.output.trans h.output, Nat.le_trans h.size k.size, fun j hj hne => (k.block j (Nat.lt_of_lt_of_le hj h.size) hne).trans (h.block j hj hne)⟩
theorem gweak {a b : World} {row : Option Nat} (h : a.grownBy b none) : a.grownBy b row := ⟨h.os, h.tape, h.output, h.size, fun j hj _ => h.block j hj (by simp)⟩
theorem galloc (w : World) (o : Obj) {row : Option Nat} : w.grownBy (w.alloc o) row := gweak (World.grownBy_alloc w o none)
theorem Rd.alloc {w : World} {rb p : Nat} {a : Option Addr} {len cap : Nat} {zs : Nat → Int} (h : Rd w rb p a len cap zs) (hlt : rb < w.heap.size) (o : Obj) : Rd (w.alloc o) rb p a len cap zs :=
  h.kept (World.grownBy_alloc w o none) (fun _ e => by cases e) hlt
theorem Rd.drew {w : World} {rb p : Nat} {a : Option Addr} {len cap : Nat} {zs : Nat → Int} (h : Rd w rb p a len cap zs) : Rd w.drew rb p a len cap zs := ⟨h.c0, h.c1, h.f1, h.hl, h.row⟩
theorem Rd.drewN {w : World} {rb p : Nat} {a : Option Addr} {len cap : Nat} {zs : Nat → Int} (h : Rd w rb p a len cap zs) (n : Nat) : Rd (w.drewN n) rb p a len cap zs := ⟨h.c0, h.c1, h.f1, h.hl, h.row⟩
theorem gdrew {w w2 : World} {row : Option Nat} (h : w.drew.grownBy w2 row) : w.grownBy w2 row := ⟨h.os, h.tape, h.output, h.size, h.block⟩
theorem gdrew' (w : World) {row : Option Nat} : w.grownBy w.drew row := ⟨rfl, rfl, rfl, Nat.le_refl _, fun _ _ _ => rfl⟩
theorem cellKept {w w2 : World} {row : Option Nat} {g v : Nat} {x : Value} (hg : w.grownBy w2 row) (hc : w.cell? ⟨g, v, none⟩ = some x) (hlt : g < w.heap.size) (hne : some g ≠ row) : w2.cell? ⟨g, v, none⟩ = some x :=
  (World.cell?_of_block (a := ⟨g, v, none⟩) (hg.block g hlt hne)).trans hc
theorem litCell {w w2 : World} {rb : Nat} {cs : Array Value} {t : TypeId} (hg : (w.alloc (.cells cs t)).grownBy w2 (some rb)) (hlt : rb < w.heap.size) (v : Nat) : w2.cell? ⟨w.heap.size, v, none⟩ = cs[v]? := by
  have e := hg.block w.heap.size (by simp) (by simp; omega)
  exact (World.cell?_of_block (a := ⟨w.heap.size, v, none⟩) e).trans (by simp)

/-- what a draw of a text answers -/
def DrewS (w : World) (rb p k : Nat) (a : Option Addr) (len cap : Nat) (zs : Nat → Int) (e : Ending) (w' : World) : Prop :=
  ∃ (s : ByteArray) (p' : Nat), e = .returned (.string s) ∧ s.size ≤ 64 ∧ p' ≤ p + k ∧ Rd w' rb p' a len cap zs ∧ w.grownBy w' (some rb)


set_option maxHeartbeats 400000 in
theorem bytes_any (w : World) (rb p : Nat) (a : Option Addr) (len cap : Nat) (zs : Nat → Int) (h : Rd w rb p a len cap zs) (hp : p ≤ 1000000) (hlt : rb < w.heap.size) :
    Calls Tryz.prog 80 #[.pointer (some ⟨rb, 0, none⟩)] w (DrewS w rb p 1 a len cap zs) := by
  go_enter Tryz.func80, Tryz.ntmps80
  go_wp2_with (go_at_call 49; refine (pick_any _ rb p a len cap 7 zs (h.alloc hlt _) hp (by omega) (by omega)).mono ?_; rintro e w2 ⟨v, hv, rfl, hR2, hg2⟩; obtain ⟨s, hcell, hs⟩ : ∃ s : ByteArray, w2.cell? ⟨w.heap.size, v, none⟩ = some (.string s) ∧ s.size ≤ 64 := (by rw [litCell hg2 hlt v]; rcases (show v = 0 ∨ v = 1 ∨ v = 2 ∨ v = 3 ∨ v = 4 ∨ v = 5 ∨ v = 6 from by omega) with rfl | rfl | rfl | rfl | rfl | rfl | rfl <;> exact ⟨_, rfl, by decide⟩))
  go_ret
  exact ⟨s, p + 1, rfl, hs, Nat.le_refl _, hR2, gtrans (galloc _ _) hg2⟩

set_option maxHeartbeats 400000 in
theorem path_any (w : World) (rb p : Nat) (a : Option Addr) (len cap : Nat) (zs : Nat → Int) (h : Rd w rb p a len cap zs) (hp : p ≤ 1000000) (hlt : rb < w.heap.size) :
    Calls Tryz.prog 119 #[.pointer (some ⟨rb, 0, none⟩)] w (DrewS w rb p 1 a len cap zs) := by
  go_enter Tryz.func119, Tryz.ntmps119
  go_wp2_with (go_at_call 49; refine (pick_any _ rb p a len cap 10 zs (h.alloc hlt _) hp (by omega) (by omega)).mono ?_; rintro e w2 ⟨v, hv, rfl, hR2, hg2⟩; obtain ⟨s, hcell, hs⟩ : ∃ s : ByteArray, w2.cell? ⟨w.heap.size, v, none⟩ = some (.string s) ∧ s.size ≤ 64 := (by rw [litCell hg2 hlt v]; rcases (show v = 0 ∨ v = 1 ∨ v = 2 ∨ v = 3 ∨ v = 4 ∨ v = 5 ∨ v = 6 ∨ v = 7 ∨ v = 8 ∨ v = 9 from by omega) with rfl | rfl | rfl | rfl | rfl | rfl | rfl | rfl | rfl | rfl <;> exact ⟨_, rfl, by decide⟩))
  go_ret
  exact ⟨s, p + 1, rfl, hs, Nat.le_refl _, hR2, gtrans (galloc _ _) hg2⟩

/-- the four texts that a path is picked from -/
theorem litFour {w w2 : World} {rb : Nat} {t : TypeId} (s1 s2 s3 : ByteArray) (hg : (w.alloc (.cells #[.string ⟨#[]⟩, .string s1, .string s2, .string s3] t)).grownBy w2 (some rb)) (hlt : rb < w.heap.size) (v : Nat) (hv : v < 4) (h1 : s1.size ≤ 64) (h2 : s2.size ≤ 64) (h3 : s3.size ≤ 64) :
    ∃ s : ByteArray, w2.cell? ⟨w.heap.size, v, none⟩ = some (.string s) ∧ s.size ≤ 64 := by
  rw [litCell hg hlt v]
  rcases (show v = 0 ∨ v = 1 ∨ v = 2 ∨ v = 3 from by omega) with rfl | rfl | rfl | rfl
  · exact ⟨_, rfl, by decide⟩
  · exact ⟨_, rfl, h1⟩
  · exact ⟨_, rfl, h2⟩
  · exact ⟨_, rfl, h3⟩

set_option maxHeartbeats 1000000 in
theorem anyPath_any (w : World) (rb p n : Nat) (a : Option Addr) (len cap : Nat) (zs : Nat → Int) (h : Rd w rb p a len cap zs) (hp : p ≤ 900000) (hlt : rb < w.heap.size) (hn : 1 ≤ n) (hn2 : n ≤ 1000000) :
    Calls Tryz.prog 96 #[.pointer (some ⟨rb, 0, none⟩), .int .i64 n] w (DrewS w rb p 5 a len cap zs) := by
  go_enter Tryz.func96, Tryz.ntmps96
  go_wp2_with (first | (go_at_call 49; refine (pick_any _ rb p a len cap n zs h (by omega) hn hn2).mono ?_; rintro e w1 ⟨v0, hv0, rfl, hR1, hg1⟩; clear h; have hl1 : rb < w1.heap.size := Nat.lt_of_lt_of_le hlt hg1.size) | (go_at_call 119; refine (path_any _ rb _ a len cap zs hR1 (by omega) hl1).mono ?_; rintro e w2 ⟨s1, p1, rfl, hs1, hp1, hR2, hg2⟩; clear hR1; have hl2 : rb < w2.heap.size := Nat.lt_of_lt_of_le hl1 hg2.size) | (go_at_call 119; refine (path_any _ rb _ a len cap zs hR2 (by omega) hl2).mono ?_; rintro e w3 ⟨s2, p2, rfl, hs2, hp2, hR3, hg3⟩; clear hR2; have hl3 : rb < w3.heap.size := Nat.lt_of_lt_of_le hl2 hg3.size) | (go_at_call 119; refine (path_any _ rb _ a len cap zs hR3 (by omega) hl3).mono ?_; rintro e w4 ⟨s3, p3, rfl, hs3, hp3, hR4, hg4⟩; clear hR3; have hl4 : rb < w4.heap.size := Nat.lt_of_lt_of_le hl3 hg4.size) | (go_at_call 49; refine (pick_any _ rb _ a len cap 4 zs (hR4.alloc hl4 _) (by omega) (by omega) (by omega)).mono ?_; rintro e w5 ⟨v, hv, rfl, hR5, hg5⟩; clear hR4; obtain ⟨s, hcell, hs⟩ := litFour s1 s2 s3 hg5 hl4 v hv hs1 hs2 hs3) | (go_at_call 49; refine (pick_any _ rb _ a len cap 10 zs (hR1.alloc hl1 _) (by omega) (by omega) (by omega)).mono ?_; rintro e w2 ⟨v, hv, rfl, hR2, hg2⟩; clear hR1; obtain ⟨s, hcell, hs⟩ : ∃ s : ByteArray, w2.cell? ⟨w1.heap.size, v, none⟩ = some (.string s) ∧ s.size ≤ 64 := (by rw [litCell hg2 hl1 v]; rcases (show v = 0 ∨ v = 1 ∨ v = 2 ∨ v = 3 ∨ v = 4 ∨ v = 5 ∨ v = 6 ∨ v = 7 ∨ v = 8 ∨ v = 9 from by omega) with rfl | rfl | rfl | rfl | rfl | rfl | rfl | rfl | rfl | rfl <;> exact ⟨_, rfl, by decide⟩)))
  · go_ret
    exact ⟨s, _, rfl, hs, by omega, hR5, gtrans (gtrans (gtrans (gtrans (gtrans hg1 hg2) hg3) hg4) (galloc _ _)) hg5⟩
  · go_ret
    exact ⟨s, _, rfl, hs, by omega, hR2, gtrans (gtrans hg1 (galloc _ _)) hg2⟩
end Go.Proofs.YthfffpdkmoclbaaGreatDoor.W
