/-
  Rows of ObjEntry: what it is that a slice reads as such a row; the walks of the exact laws' own helpers 'sz', 'to' and 'eq' on them. No condition but those named. (Written by genstruct.py.)
  A region that draws its order, whose operations read, and whose callees write into new memory alone: one walk in the order of the text serves every order. The worlds: all that hold what was there as it was.
  Of two texts one comes first, or they are one, as the model asks it. No condition.
-/
import Derived.Test.YthfffpdkmoclbaaGreatDoorMg01
import Derived.Test.YthfffpdkmoclbaaGreatDoorMg07
import Derived.OwnWalk
import Derived.Below
import Derived.BigQuiet
import Derived.Deep.QuietTactic
import Derived.Deep.RegionWith
namespace Go.Proofs.YthfffpdkmoclbaaGreatDoor.W
open Go.RowKit

structure OE where
  nm : ByteArray
  sh : Bool
  id : Int

def cellsO (L : List OE) : List Value := L.flatMap fun x => [.string x.nm, .bool x.sh, .int .i64 x.id]
theorem cellsO_cons (x : OE) (l : List OE) : cellsO (x :: l) = .string x.nm :: .bool x.sh :: .int .i64 x.id :: cellsO l := by simp [cellsO]
theorem cellsO_length (L : List OE) : (cellsO L).length = L.length * 3 := by
  induction L with
  | nil => rfl
  | cons x l ih => rw [cellsO_cons]; simp; omega
theorem cellsO_snoc (L : List OE) (x : OE) : cellsO (L ++ [x]) = cellsO L ++ [.string x.nm, .bool x.sh, .int .i64 x.id] := by simp [cellsO]
theorem cellsO_get (L : List OE) (j : Nat) (h : j < L.length) : (cellsO L)[j * 3]? = some (.string (L[j]).nm) ∧ (cellsO L)[j * 3 + 1]? = some (.bool (L[j]).sh) ∧ (cellsO L)[j * 3 + 2]? = some (.int .i64 (L[j]).id) := by
  induction L generalizing j with
  | nil => simp at h
  | cons x l ih =>
    rw [cellsO_cons]
    cases j with
    | zero => simp
    | succ j =>
      have := ih j (by simpa using h)
      rw [show (j + 1) * 3 = j * 3 + 1 + 1 + 1 by omega]
      simpa using this
def RdO (B : Nat) (w : World) (A : Option Addr) (L : List OE) : Prop :=
  ∀ j (h : j < L.length), ∃ b o, A = some ⟨b, o, none⟩ ∧ b < B ∧ w.cell? ⟨b, o + j * 3, none⟩ = some (.string (L[j]).nm) ∧ w.cell? ⟨b, o + j * 3 + 1, none⟩ = some (.bool (L[j]).sh) ∧ w.cell? ⟨b, o + j * 3 + 2, none⟩ = some (.int .i64 (L[j]).id)
theorem RdO.below {B B' : Nat} {w w' : World} {A : Option Addr} {L : List OE} (h : RdO B w A L) (hb : Below B' w w') (hB : B ≤ B') : RdO B w' A L := fun j hj => by
  obtain ⟨b, o, e, hl, c1, c2, c3⟩ := h j hj
  exact ⟨b, o, e, hl, (hb.cell (p := ⟨b, _, none⟩) (by show b < B'; omega)).trans c1, (hb.cell (p := ⟨b, _, none⟩) (by show b < B'; omega)).trans c2, (hb.cell (p := ⟨b, _, none⟩) (by show b < B'; omega)).trans c3⟩
theorem RdO.mono {B B' : Nat} {w : World} {A : Option Addr} {L : List OE} (h : RdO B w A L) (hB : B ≤ B') : RdO B' w A L := fun j hj => by
  obtain ⟨b, o, e, hl, c⟩ := h j hj
  exact ⟨b, o, e, by omega, c⟩
theorem RdO.up {w w' : World} {A : Option Addr} {L : List OE} (h : RdO w.heap.size w A L) (hb : Below w.heap.size w w') : RdO w'.heap.size w' A L := (h.below hb (Nat.le_refl _)).mono hb.size
theorem rdO_of_own {w : World} {base : Nat} {e : TypeId} {v : Value} {L : List OE} (h : w.ownsRow base e 3 v L.length (cellsO L)) : ∃ A c, v = .slice A L.length c ∧ RdO w.heap.size w A L := by
  have hl := h.lt
  rcases h.2 with ⟨rfl, hn⟩ | ⟨g, cap, cur, rfl, _⟩
  · exact ⟨none, 0, by rw [hn], fun j hj => by omega⟩
  · refine ⟨some ⟨g, 0, none⟩, cap, rfl, fun j hj => ⟨g, 0, rfl, (hl g rfl).2, ?_, ?_, ?_⟩⟩
    · rw [Nat.zero_add, h.cellAt (j * 3) (by omega)]; exact (cellsO_get L j hj).1
    · rw [Nat.zero_add, h.cellAt (j * 3 + 1) (by omega)]; exact (cellsO_get L j hj).2.1
    · rw [Nat.zero_add, h.cellAt (j * 3 + 2) (by omega)]; exact (cellsO_get L j hj).2.2

def szO (L : List OE) : Nat := (L.map fun x => x.nm.size).sum
theorem szO_snoc (L : List OE) (j : Nat) (h : j < L.length) : szO (L.take (j + 1)) = szO (L.take j) + ((L[j]).nm.size) := by
  unfold szO
  rw [List.take_succ_eq_append_getElem h]
  simp only [List.map_append, List.sum_append, List.map_cons, List.map_nil, List.sum_cons, List.sum_nil, Nat.add_zero]
theorem szO_le (L : List OE) (j : Nat) : szO (L.take j) ≤ szO L := by
  unfold szO
  conv => rhs; rw [← List.take_append_drop j L]
  simp only [List.map_append, List.sum_append]
  omega

theorem infoO : (Tryz.prog.info? 90).map (fun i => (i.zero, i.size, i.bytes)) = some (some (.agg #[.string ByteArray.empty, .bool false, .int .i64 0]), 3, 32) := by kernel_rfl
def laidO (L : List OE) (j : Nat) : List Value := cellsO (L.take j) ++ (List.replicate (L.length - j) [Value.string ByteArray.empty, .bool false, .int .i64 0]).flatten
theorem laidO_zero (L : List OE) : laidO L 0 = (madeCells #[.string ByteArray.empty, .bool false, .int .i64 0] (L.length * 3)).toList := by
  rw [made_flat _ _ 3 rfl (by decide)]; simp [laidO, cellsO]
theorem laidO_all (L : List OE) : laidO L L.length = cellsO L := by simp [laidO]
theorem laidO_step (L : List OE) (j : Nat) (h : j < L.length) : ((((laidO L j).set (j * 3) (.string (L[j]).nm)).set (j * 3 + 1) (.bool (L[j]).sh)).set (j * 3 + 2) (.int .i64 (L[j]).id)) = laidO L (j + 1) := by
  unfold laidO
  have hl : (cellsO (L.take j)).length = j * 3 := by rw [cellsO_length]; simp; omega
  obtain ⟨m, hm⟩ : ∃ m, L.length - j = m + 1 := ⟨L.length - j - 1, by omega⟩
  have hm' : L.length - (j + 1) = m := by omega
  rw [hm, hm', List.replicate_succ, List.flatten_cons, List.take_succ_eq_append_getElem h, cellsO_snoc]
  rw [List.set_append_right _ _ (by omega), hl, show j * 3 - j * 3 = 0 by omega]
  simp only [List.cons_append, List.nil_append, List.set_cons_zero]
  rw [List.set_append_right _ _ (by omega), hl, show j * 3 + 1 - j * 3 = 1 by omega]
  simp only [List.set_cons_zero, List.set_cons_succ]
  rw [List.set_append_right _ _ (by omega), hl, show j * 3 + 2 - j * 3 = 2 by omega]
  simp only [List.set_cons_zero, List.set_cons_succ]
  simp

end Go.Proofs.YthfffpdkmoclbaaGreatDoor.W
namespace Go.Proofs.YthfffpdkmoclbaaGreatDoor.W
open Go.RowKit

/-- a world in which all that was in w is as it was -/
structure Ext (w : World) where
  world : World
  below : Below w.heap.size w world
theorem Ext.cell {w : World} (x : Ext w) {a : Addr} {u : Value} (h : w.cell? a = some u) : x.world.cell? a = some u := (x.below.cell (World.block_lt_of_cell? _ _ h)).trans h
theorem region_ext {P : Program} {id : Nat} {Q : Exit → Act → World → Prop} {a : Act} {w : World} {l : List Oper} (hm : P.follows .mixedOrders = true) (hB : Region.lexB .any l.toArray = true)
    (h : wpQuiet P l.toArray (fun w' => ∃ x : Ext w, w' = x.world) (fun a' => ∀ w', (∃ x : Ext w, w' = x.world) → Q .normal a' w') l a) : (Code.region id l.toArray true).wp P Q a w :=
  wp_region_quiet (C := fun w' => ∃ x : Ext w, w' = x.world) hm hB ⟨⟨_, (Below.refl _ w).drew⟩, rfl⟩ (by simpa using h)
theorem calls_ext {P : Program} {f : FuncId} {args : Array Value} {w : World} {x : Ext w} {v : Value} (h : Calls P f args x.world fun e w' => e = .returned v ∧ Below x.world.heap.size x.world w') : Calls P f args x.world fun e w'' => e = .returned v ∧ ∃ y : Ext w, w'' = y.world :=
  h.mono fun _ w' ⟨he, hb⟩ => ⟨he, ⟨w', x.below.trans (hb.mono x.below.size)⟩, rfl⟩
end Go.Proofs.YthfffpdkmoclbaaGreatDoor.W
namespace Go.Proofs.YthfffpdkmoclbaaGreatDoor.W
open Go.RowKit
theorem blTri : ∀ (x y : List UInt8), (Op.bytesLess x y || x == y) = !(Op.bytesLess y x) := by
  intro x
  induction x with
  | nil => intro y; cases y <;> rfl
  | cons a x ih =>
    intro y
    cases y with
    | nil => rfl
    | cons b y =>
      have h := ih y
      by_cases e : a = b
      · subst e
        have hlt : ¬ a < a := UInt8.lt_irrefl a
        simp only [Op.bytesLess, hlt, decide_false, beq_self_eq_true, Bool.true_and, Bool.false_or]
        rw [← h]
        simp [BEq.beq, List.beq]
      · have hb : (a == b) = false := by simpa using e
        have hb' : (b == a) = false := by simpa using Ne.symm e
        have hl : ((a :: x) == (b :: y)) = false := by simp [e]
        simp only [Op.bytesLess, hb, hb', hl, Bool.false_and, Bool.or_false]
        have : (a < b) ∨ (b < a) := by
          have h1 : a.toNat ≠ b.toNat := fun q => e (UInt8.toNat.inj q)
          rw [UInt8.lt_iff_toNat_lt, UInt8.lt_iff_toNat_lt]; omega
        rcases this with q | q
        · have q' : ¬ b < a := by rw [UInt8.lt_iff_toNat_lt] at *; omega
          simp [q, q']
        · have q' : ¬ a < b := by rw [UInt8.lt_iff_toNat_lt] at *; omega
          simp [q, q']

end Go.Proofs.YthfffpdkmoclbaaGreatDoor.W
