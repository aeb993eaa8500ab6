
/-
  The walks of strings.Builder's copyCheck, WriteString and WriteByte in this program. A builder whose text stays below 1000000 bytes.
-/
import Derived.Test.YtdofjajpiackiaaDoorBase
import Derived.Lib.Builder
import Derived.Lib.AppendStr
import Derived.Shelf.Strings.Builder1
import Derived.Below
import Derived.OwnWalk
import Derived.Test.YtdofjajpiackiaaDoorMathNew
namespace Go.Proofs.YtdofjajpiackiaaDoor.W
open Go.RowKit Go.Shelf

theorem sizeBld : (Tryd.prog.info? 129).map (fun i => i.size) = some 2 := by kernel_rfl
theorem liesBld : liesAt Tryd.prog Tryd.prog.depth 129 (2 / Tryd.prog.cellsOf 129) 0 129 1 = true := by kernel_rfl
theorem infoU8 : (Tryd.prog.info? 5).map (fun i => (i.zero, i.size, i.bytes)) = some (some (.int .u8 0), 1, 1) := by kernel_rfl

set_option maxHeartbeats 1000000 in
theorem check_used (b : Nat) (w : World) (h0 : w.cell? ⟨b, 0, none⟩ = some (.pointer (some ⟨b, 0, none⟩))) :
    Calls Tryd.prog 85 #[.pointer (some ⟨b, 0, none⟩)] w fun e w' => e = .returned (.tuple #[]) ∧ w = w' := by
  obtain ⟨j, hj, hjs⟩ := Option.map_eq_some_iff.1 sizeBld
  have same := Lib.run_neq_ptr_same (P := Tryd.prog) (w := w) ⟨b, 0, none⟩ Tryd.underlying127 hj
  go_enter Tryd.func85, Tryd.ntmps85
  go_wp2
  go_end0
  exact ⟨rfl, rfl⟩

set_option maxHeartbeats 1000000 in
theorem check_fresh (b : Nat) (w : World) (h0 : w.cell? ⟨b, 0, none⟩ = some (.pointer none)) (hsh : w.shape? b = some (129, 2)) (hfz : w.frozen? ⟨b, 0, none⟩ = false) :
    Calls Tryd.prog 85 #[.pointer (some ⟨b, 0, none⟩)] w fun e w' => e = .returned (.tuple #[]) ∧ w' = w.setCell ⟨b, 0, none⟩ (.pointer (some ⟨b, 0, none⟩)) := by
  obtain ⟨j, hj, hjs⟩ := Option.map_eq_some_iff.1 sizeBld
  have toU := Lib.run_to_unsafe (P := Tryd.prog) (w := w) ⟨b, 0, none⟩ Tryd.underlying127 (show Tryd.prog.underlying 78 = some .unsafePointer by kernel_rfl) hj (by rw [hjs]; decide) hsh (Nat.zero_lt_succ 1)
  have ofU := Lib.run_from_unsafe (P := Tryd.prog) (w := w) ⟨b, 0, none⟩ (show Tryd.prog.underlying 78 = some .unsafePointer by kernel_rfl) Tryd.underlying127 hj hsh liesBld
  have ne : (callFunc 86 #[.pointer (some ⟨b, 0, none⟩)]).run Tryd.prog w = .ok (.value (.pointer (some ⟨b, 0, none⟩))) w := by
    rw [run_callFunc_extern Tryd.func86 (by kernel_rfl) (by kernel_rfl) (by kernel_rfl) (e := Extern.AbiNoEscape.same) (by kernel_rfl), Lib.run_noEscape]; rfl
  go_enter Tryd.func85, Tryd.ntmps85
  go_wp2
  go_end0
  exact ⟨rfl, rfl⟩

/-- a builder of this program: its text so far -/
def Bld (B b : Nat) (bs : List Value) (w : World) : Prop := Lib.IsBuilder 129 5 B b bs w

/-- blocks that hold no bytes stay, but the builder's own -/
def Keeps (b : Nat) (w w' : World) : Prop := ∀ k cs T fr, k ≠ b → T ≠ 5 → w.heap[k]? = some (.cells cs T fr) → w'.heap[k]? = some (.cells cs T fr)
theorem Keeps.refl (b : Nat) (w : World) : Keeps b w w := fun _ _ _ _ _ _ h => h
theorem Keeps.trans {b : Nat} {a c d : World} (h : Keeps b a c) (k : Keeps b c d) : Keeps b a d := fun i cs T fr h1 h2 h3 => k i cs T fr h1 h2 (h i cs T fr h1 h2 h3)
theorem Keeps.set (b : Nat) (w : World) (o : Nat) (u : Value) : Keeps b w (w.setCell ⟨b, o, none⟩ u) := fun _ _ _ _ h1 _ h3 => (Below.heap_setCell _ _ _ _ h1).trans h3
theorem Keeps.alloc (b : Nat) (w : World) (x : Obj) : Keeps b w (w.alloc x) := fun _ _ _ _ _ _ h3 => (Below.heap_alloc _ _ _ (Array.getElem?_eq_some_iff.1 h3).1).trans h3
theorem Keeps.grown {b B n : Nat} {w w' : World} {v : Value} {xs : List Value} (hown : w.ownsRow B 5 1 v n xs) (hg : w.grownBy w' v.ownBlock) : Keeps b w w' := fun k _ _ _ _ h2 h3 =>
  (hg.block k (Array.getElem?_eq_some_iff.1 h3).1 (fun e => Lib.ownBlock_ne hown h3 h2 e.symm)).trans h3

theorem check_any (B b : Nat) (bs : List Value) (w : World) (h : Bld B b bs w) :
    Calls Tryd.prog 85 #[.pointer (some ⟨b, 0, none⟩)] w fun e w' => e = .returned (.tuple #[]) ∧ Lib.BuilderAt 129 5 B b (.pointer (some ⟨b, 0, none⟩)) bs w' ∧ Below B w w' ∧ Keeps b w w' := by
  rcases h with h | h
  · obtain ⟨hB, v, hbk, hown, hne⟩ := h
    have hlt : b < w.heap.size := (Array.getElem?_eq_some_iff.1 hbk).1
    refine (check_fresh b w (by rw [Lib.cell_of_heap hbk]; rfl) (by simp [World.shape?, hbk]) (Lib.frozen_of_heap hbk 0)).mono ?_
    rintro e w' ⟨rfl, rfl⟩
    refine ⟨rfl, ⟨hB, v, ?_, ?_, hne⟩, (Below.refl _ _).setCell (p := ⟨b, 0, none⟩) hB _, Keeps.set b w 0 _⟩
    · simp [World.setCell, Array.getElem?_modify, hbk]
    · refine hown.kept (row := some b) ⟨rfl, rfl, rfl, by simp [World.setCell], fun k _ hn => Below.heap_setCell _ _ _ _ (fun e => hn (by rw [e]))⟩ (.inr hne)
  · refine (check_used b w (by obtain ⟨_, v, hbk, _⟩ := h; rw [Lib.cell_of_heap hbk]; rfl)).mono ?_
    rintro e w' ⟨rfl, rfl⟩
    exact ⟨rfl, h, Below.refl _ _, Keeps.refl _ _⟩

theorem ownSlice {w : World} {B n : Nat} {e : TypeId} {v : Value} {xs : List Value} (h : w.ownsRow B e 1 v n xs) : ∃ ao n' cap, v = .slice ao n' cap := by
  rcases h.2 with ⟨hv, _⟩ | ⟨g, cap, cur, hv, _⟩
  · exact ⟨_, _, _, hv⟩
  · exact ⟨_, _, _, hv⟩
theorem growBld {w w' a : World} {B n : Nat} {e : TypeId} {v : Value} {xs : List Value} (hb : Below B a w) (hB : B ≤ a.heap.size) (hown : w.ownsRow B e 1 v n xs) (hg : w.grownBy w' v.ownBlock) : Below B a w' :=
  hb.grown hg (Nat.le_trans hB hb.size) (fun k hk => (hown.lt k hk).1)
theorem stored_bld {w : World} {B b : Nat} {p u v : Value} {xs : List Value} (hB : B ≤ b) (hbk : w.heap[b]? = some (.cells #[p, u] 129 (0, 0))) (hown : w.ownsRow B 5 1 v xs.length xs) :
    Lib.BuilderAt 129 5 B b p xs (w.setCell ⟨b, 1, none⟩ v) := by
  have hne : v.ownBlock ≠ some b := Lib.ownBlock_ne hown hbk (by decide)
  refine ⟨hB, v, ?_, ?_, hne⟩
  · simp [World.setCell, Array.getElem?_modify, hbk]
  · exact hown.kept (row := some b) ⟨rfl, rfl, rfl, by simp [World.setCell], fun k _ hn => Below.heap_setCell _ _ _ _ (fun e => hn (by rw [e]))⟩ (.inr hne)

set_option maxHeartbeats 1000000 in
theorem wstr_any (B b : Nat) (bs : List Value) (s : ByteArray) (w : World) (h : Bld B b bs w) (hl : bs.length + s.size ≤ 1000000) (hB : B ≤ w.heap.size) :
    Calls Tryd.prog 81 #[.pointer (some ⟨b, 0, none⟩), .string s] w fun e w' => e = .returned (.tuple #[.int .i64 s.size, .nilIface]) ∧ Bld B b (bs ++ Lib.strCells s) w' ∧ Below B w w' ∧ Keeps b w w' := by
  obtain ⟨i0, hi, hz0, hz1, hz2⟩ := info_parts infoU8
  go_enter Tryd.func81, Tryd.ntmps81
  go_wp2_with (first
    | (go_at_call 85; refine (check_any B b bs _ h).mono ?_; rintro e w1 ⟨rfl, ⟨hbB, v, hbk, hown, hne⟩, hb1, kp1⟩; have hz := hb1.size; have c1 : w1.cell? ⟨b, 1, none⟩ = some v := (by rw [Lib.cell_of_heap hbk]; rfl))
    | (at_builtin; refine Lib.wpList_append_own_string _ rfl _ _ 22 9 rfl B 5 i0 Tryd.underlying22 Tryd.underlying9 hi hz0 hz1 hz2 _ _ _ rfl hown s rfl (by unfold maxLen; omega) (by omega) (by omega) ?_; intro v' w2 hown' hgrow _; obtain ⟨ao, n', cap', rfl⟩ := ownSlice hown'; have hlt : b < w1.heap.size := (Array.getElem?_eq_some_iff.1 hbk).1; have hbk2 : w2.heap[b]? = some (.cells #[.pointer (some ⟨b, 0, none⟩), v] 129 (0, 0)) := (hgrow.block b (by first | exact hlt | (simp; omega)) (fun e => hne e.symm)).trans hbk; have d1 : w2.cell? ⟨b, 1, none⟩ = some v := (by rw [Lib.cell_of_heap hbk2]; rfl); have f1 := Lib.frozen_of_heap hbk2 1))
  go_ret2
  refine ⟨rfl, Or.inr (stored_bld hbB hbk2 (by rw [List.length_append, Lib.strCells_length]; exact hown')), ?_, (kp1.trans (Keeps.grown hown hgrow)).trans (Keeps.set b w2 1 _)⟩
  exact (growBld hb1 hB hown hgrow).setCell (p := ⟨b, 1, none⟩) hbB _

set_option maxHeartbeats 1000000 in
theorem wbyte_any (B b : Nat) (bs : List Value) (x : Int) (w : World) (h : Bld B b bs w) (hl : bs.length + 1 ≤ 1000000) (hB : B ≤ w.heap.size) :
    Calls Tryd.prog 82 #[.pointer (some ⟨b, 0, none⟩), .int .u8 x] w fun e w' => e = .returned .nilIface ∧ Bld B b (bs ++ [.int .u8 x]) w' ∧ Below B w w' ∧ Keeps b w w' := by
  obtain ⟨i0, hi, hz0, hz1, hz2⟩ := info_parts infoU8
  go_enter Tryd.func82, Tryd.ntmps82
  go_wp2_with (first
    | (go_at_call 85; refine (check_any B b bs _ h).mono ?_; rintro e w1 ⟨rfl, ⟨hbB, v, hbk, hown, hne⟩, hb1, kp1⟩; have hz := hb1.size; have c1 : w1.cell? ⟨b, 1, none⟩ = some v := (by rw [Lib.cell_of_heap hbk]; rfl))
    | (at_builtin; refine wpList_append_own _ rfl _ _ 22 rfl B 5 i0 (.int .u8 0) 1 1 Tryd.underlying22 hi hz0 hz1 hz2 rfl (by decide) _ _ _ rfl (hown.alloc _) ⟨w1.heap.size, 0, none⟩ 1 1 [.int .u8 x] rfl rfl (cells_new _ #[.int .u8 x] _) (fun u hu => by simp at hu; subst hu; rfl) (by unfold maxLen; omega) (by omega) (by simp; omega) ?_; intro v' w2 hown' hgrow _; obtain ⟨ao, n', cap', rfl⟩ := ownSlice hown'; have hlt : b < w1.heap.size := (Array.getElem?_eq_some_iff.1 hbk).1; have hbk2 : w2.heap[b]? = some (.cells #[.pointer (some ⟨b, 0, none⟩), v] 129 (0, 0)) := (hgrow.block b (by first | exact hlt | (simp; omega)) (fun e => hne e.symm)).trans (Below.heap_alloc _ _ _ (Array.getElem?_eq_some_iff.1 hbk).1 |>.trans hbk); have d1 : w2.cell? ⟨b, 1, none⟩ = some v := (by rw [Lib.cell_of_heap hbk2]; rfl); have f1 := Lib.frozen_of_heap hbk2 1))
  go_ret
  refine ⟨rfl, Or.inr (stored_bld hbB hbk2 (by rw [List.length_append]; exact hown')), ?_, ((kp1.trans (Keeps.alloc b w1 _)).trans (Keeps.grown (hown.alloc _) hgrow)).trans (Keeps.set b w2 1 _)⟩
  exact (growBld (hb1.alloc (by omega) _) hB (hown.alloc _) hgrow).setCell (p := ⟨b, 1, none⟩) hbB _
end Go.Proofs.YtdofjajpiackiaaDoor.W
