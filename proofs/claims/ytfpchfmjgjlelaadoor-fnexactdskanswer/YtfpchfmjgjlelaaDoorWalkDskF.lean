
/-
  A file's line and decimals, as the program writes them. Texts of at most 1048576 bytes, numbers of 0 to 9999; the library's table of powers of ten holds what the program's text lays.
-/
import Derived.Test.YtfpchfmjgjlelaaDoorWalkDskS
import Derived.Test.YtfpchfmjgjlelaaDoorMathExt
import Derived.Test.YtfpchfmjgjlelaaDoorShelf
import Derived.Lib.AppendIntMem
namespace Go.Proofs.YtfpchfmjgjlelaaDoor.W
open Go.RowKit Go.Proofs.YtfpchfmjgjlelaaDoor.M

def Tab (w : World) : Prop := Lib.TabIs Tryd.prog w "internal/strconv.uint64pow10" .u64 Lib.pow10Tab
theorem Tab.up {w w' : World} (h : Tab w) (hb : Below w.heap.size w w') : Tab w' := by
  have hgn : Tryd.prog.globalNamed "internal/strconv.uint64pow10" = some 0 := by kernel_rfl
  unfold Tab Lib.TabIs World.var? at h ⊢
  rw [hgn] at h ⊢
  simp only [Option.bind_some] at h ⊢
  have hlt : 0 < w.heap.size := by
    rcases Nat.lt_or_ge 0 w.heap.size with h' | h'
    · exact h'
    · rw [Array.getElem?_eq_none h'] at h; cases h
  rw [hb.block _ hlt]
  exact h
theorem itoa_on (n : Nat) (v W : World) (HB : Below v.heap.size v W) (hn : n ≤ 9999) (hT : Tab v) :
    Calls Tryd.prog 21 #[.int .i64 n] W fun e w' => e = .returned (.string (decB n)) ∧ Below v.heap.size v w' := by
  refine (Tryd.strconv_Itoa (n : Int) (by omega) (by omega) W (hT.up HB)).mono ?_
  rintro e w' ⟨rfl, k, os, rfl⟩
  refine ⟨?_, HB.trans ((Lib.below_grow _ W (Nat.le_refl _) k os).mono HB.size)⟩
  have : Lib.itoa (n : Int) = Lib.decDigits n := by
    unfold Lib.itoa
    rw [if_neg (by omega)]
    rfl
  rw [this]
  rfl
set_option maxHeartbeats 2000000 in
theorem fileLine_any (q t : ByteArray) (w : World) (hq : q.size ≤ 1048576) (ht : t.size ≤ 1048576) :
    Calls Tryd.prog 22 #[.agg #[.string q, .string t]] w fun e w' => e = .returned (.string (lineF ⟨q, t⟩)) ∧ Below w.heap.size w w' := by
  obtain ⟨w0, hw0, c1, c2, B0⟩ : ∃ w0, w.alloc (.cells #[.string q, .string t] 41) = w0 ∧ w0.cell? ⟨w.heap.size, 0, none⟩ = some (.string q) ∧ w0.cell? ⟨w.heap.size, 1, none⟩ = some (.string t) ∧ Below w.heap.size w w0 := ⟨_, rfl, by simp, by simp, (Below.refl _ w).alloc (Nat.le_refl _) _⟩
  have hdx9 : (dashB (hxB t)).size ≤ 2097153 := by
    have h1 := dashB_size (hxB t)
    have h2 : (hxB t).size = 2 * t.size := by unfold hxB; rw [size_mk, hxL_length, Array.length_toList]; rfl
    omega
  have hcall := fun w => bytesText_big t w ht
  obtain ⟨dx, hdx⟩ : ∃ dx, dashB (hxB t) = dx := ⟨_, rfl⟩
  rw [hdx] at hdx9
  have HL : Hid (lineF ⟨q, t⟩ = (((⟨#[102, 105, 108, 101, 32]⟩ ++ q) ++ ⟨#[32]⟩) ++ dx)) := (show _ = _ from by unfold lineF; rw [hdx])
  have HC : Hid (∀ w, Calls Tryd.prog 31 #[.string t] w fun e w' => e = .returned (.string dx) ∧ Below w.heap.size w w') := (show ∀ w, _ from fun w => by rw [← hdx]; exact hcall w)
  have x1 : ∀ z : Ext w0, z.world.cell? ⟨w.heap.size, 0, none⟩ = some (.string q) := fun z => z.cell c1
  have x2 : ∀ z : Ext w0, z.world.cell? ⟨w.heap.size, 1, none⟩ = some (.string t) := fun z => z.cell c2
  have hne : Nonempty (Ext w0) := ⟨⟨w0, Below.refl _ _⟩⟩
  clear hcall hdx
  go_enter Tryd.func22, Tryd.ntmps22
  go_wp2
  refine region_ext (by kernel_rfl) (by kernel_rfl) ?_
  repeat (go_big_quiet_step ((go_at_call 31; exact calls_ext (HC.out _))))
  refine wpQuiet_nil ?_
  rintro _ ⟨z, rfl⟩
  have hbz := z.below
  go_wp2
  go_ret
  exact ⟨ret_str HL.out.symm, B0.trans (hbz.mono B0.size)⟩
end Go.Proofs.YtfpchfmjgjlelaaDoor.W
