
/-
  EdtText of the program and of the specification. Texts of at most 1048576 bytes.
-/
import Derived.Test.YtpdedjjciajddaaWalkEdtI
import Derived.Test.YtpdedjjciajddaaWalkEdt
import Derived.Test.YtpdedjjciajddaaMathExt
namespace Go.Proofs.Ytpdedjjciajddaa.W
open Go.RowKit Go.Proofs.Ytpdedjjciajddaa.M

/-- the text of an edit -/
def edtB (x : TE) : ByteArray := if edB x = true then (if x.gone = true then x.pa ++ ⟨#[33]⟩ else x.pa ++ ⟨#[61]⟩ ++ dashB (hxB x.by_)) else ⟨#[]⟩
theorem edtB_no (x : TE) (h : edB x = false) : edtB x = ⟨#[]⟩ := by unfold edtB; rw [h]; rfl
theorem edtB_gone (x : TE) (h : edB x = true) (g : x.gone = true) : edtB x = x.pa ++ ⟨#[33]⟩ := by unfold edtB; rw [h, g]; rfl
theorem edtB_lays (x : TE) (h : edB x = true) (g : x.gone = false) : edtB x = x.pa ++ ⟨#[61]⟩ ++ dashB (hxB x.by_) := by unfold edtB; rw [h, g]; rfl
theorem edB_short (x : TE) (h : edB x = true) : x.by_.size ≤ 6 := by
  by_cases h6 : 6 < x.by_.size
  · rw [edB_l x h6] at h; cases h
  · omega
theorem hxB_size (s : ByteArray) : (hxB s).size = 2 * s.size := by
  show (hxL s.data.toList).toArray.size = _
  rw [List.size_toArray, hxL_length, Array.length_toList]; rfl
theorem edsB_one (x : TE) : edsB [x] = edB x := by simp [edsB]

set_option maxHeartbeats 1000000 in
theorem edtText_impl (x : TE) (w : World) (hp : x.pa.size ≤ 1048576) (hq : x.by_.size ≤ 1048576) :
    Calls Try.prog 5 #[.agg #[.string x.pa, .string x.by_, .bool x.gone]] w fun e w' => e = .returned (.string (edtB x)) ∧ Below w.heap.size w w' := by
  have B0 : Below w.heap.size w (w.alloc (.cells #[.string x.pa, .string x.by_, .bool x.gone] 24)) := (Below.refl _ w).alloc (Nat.le_refl _) _
  cases k : edB x
  · rw [edtB_no x k]
    have HK : Hid (edB x = false) := k
    clear k
    go_enter Try.func5, Try.ntmps5
    go_wp2_with (go_at_call 12; refine (edit_impl x _ _ hp hq HK.out).mono ?_; rintro e w1 ⟨rfl, hb⟩)
    go_ret
    exact ⟨rfl, B0.trans (hb.mono B0.size)⟩
  have h6 := edB_short x k
  cases g : x.gone
  · rw [edtB_lays x k g]
    have HK : Hid (edB x = true) := k
    have hh : (hxB x.by_).size ≤ 12 := by rw [hxB_size]; omega
    have hd := dashB_size (hxB x.by_)
    clear k
    rw [g] at B0
    obtain ⟨p, t, g0⟩ := x
    simp only at *
    subst g
    generalize hT : dashB (hxB t) = T at *
    have HT : Hid (dashB (hxB t) = T) := hT
    clear hT
    go_enter Try.func5, Try.ntmps5
    go_wp2_with (go_at_call 12; refine (edit_impl ⟨p, t, false⟩ _ _ hp hq HK.out).mono ?_; rintro e w1 ⟨rfl, hb⟩; have c0 : w1.cell? ⟨w.heap.size, 0, none⟩ = some (.string p) := (hb.cell (p := ⟨w.heap.size, 0, none⟩) (by simp)).trans (by simp); have c1 : w1.cell? ⟨w.heap.size, 1, none⟩ = some (.string t) := (hb.cell (p := ⟨w.heap.size, 1, none⟩) (by simp)).trans (by simp); have c2 : w1.cell? ⟨w.heap.size, 2, none⟩ = some (.bool false) := (hb.cell (p := ⟨w.heap.size, 2, none⟩) (by simp)).trans (by simp))
    have x1 : ∀ x : Ext w1, x.world.cell? ⟨w.heap.size, 0, none⟩ = some (.string p) := fun x => x.cell c0
    have x2 : ∀ x : Ext w1, x.world.cell? ⟨w.heap.size, 1, none⟩ = some (.string t) := fun x => x.cell c1
    have hne : Nonempty (Ext w1) := ⟨⟨w1, Below.refl _ _⟩⟩
    refine region_ext (by kernel_rfl) (by kernel_rfl) ?_
    repeat (go_big_quiet_step ((go_at_call 13; have q := bytesText_any t; rw [HT.out] at q; exact calls_ext (q _ h6))))
    refine wpQuiet_nil ?_
    rintro _ ⟨x, rfl⟩
    have hbx := x.below
    go_wp2
    go_ret
    exact ⟨rfl, (B0.trans (hb.mono B0.size)).trans (hbx.mono (by have := hb.size; simp at this; omega))⟩
  · rw [edtB_gone x k g]
    have HK : Hid (edB x = true) := k
    clear k
    rw [g] at B0
    obtain ⟨p, t, g0⟩ := x
    simp only at *
    subst g
    go_enter Try.func5, Try.ntmps5
    go_wp2_with (go_at_call 12; refine (edit_impl ⟨p, t, true⟩ _ _ hp hq HK.out).mono ?_; rintro e w1 ⟨rfl, hb⟩; have c0 : w1.cell? ⟨w.heap.size, 0, none⟩ = some (.string p) := (hb.cell (p := ⟨w.heap.size, 0, none⟩) (by simp)).trans (by simp); have c2 : w1.cell? ⟨w.heap.size, 2, none⟩ = some (.bool true) := (hb.cell (p := ⟨w.heap.size, 2, none⟩) (by simp)).trans (by simp))
    go_ret
    exact ⟨rfl, B0.trans (hb.mono B0.size)⟩
theorem old_cell {w : World} {o : Obj} {a : Addr} {v : Value} (h : w.cell? a = some v) : (w.alloc o).cell? a = some v :=
  (((Below.refl _ w).alloc (Nat.le_refl _) o).cell (World.block_lt_of_cell? _ _ h)).trans h
theorem rd1 (w : World) (x : TE) (cs : Array Value) (t : TypeId) : RdE ((w.alloc (.cells cs t)).alloc (.cells #[.string x.pa, .string x.by_, .bool x.gone] 24)).heap.size ((w.alloc (.cells cs t)).alloc (.cells #[.string x.pa, .string x.by_, .bool x.gone] 24)) (some ⟨w.heap.size + 1, 0, none⟩) [x] := fun j hj => by
  obtain rfl : j = 0 := by simpa using hj
  refine ⟨w.heap.size + 1, 0, rfl, by simp, ?_, ?_, ?_⟩
  · simp
  · simp
  · simp
set_option maxHeartbeats 1000000 in
theorem edtText_spec (x : TE) (w : World) (hp : x.pa.size ≤ 1048576) (hq : x.by_.size ≤ 1048576) :
    Calls Try.prog 9 #[.agg #[.string x.pa, .string x.by_, .bool x.gone]] w fun e w' => e = .returned (.string (edtB x)) ∧ Below w.heap.size w w' := by
  have B0 : Below w.heap.size w (w.alloc (.cells #[.string x.pa, .string x.by_, .bool x.gone] 24)) := (Below.refl _ w).alloc (Nat.le_refl _) _
  have B1 := B0.alloc (by simp) (.cells #[.string x.pa, .string x.by_, .bool x.gone] 24)
  cases k : edB x
  · rw [edtB_no x k]
    have HK : Hid (edB x = false) := k
    clear k
    go_enter Try.func9, Try.ntmps9
    go_wp2_with (go_at_call 21; refine (edits_spec (some ⟨w.heap.size + 1, 0, none⟩) 1 [x] _ _ (rd1 _ _ _ _) (by simp) (fun j hj => by obtain rfl : j = 0 := (by simpa using hj); exact ⟨hp, hq⟩) ((edsB_one _).trans HK.out)).mono ?_; rintro e w1 ⟨rfl, hb⟩)
    go_ret
    exact ⟨rfl, B1.trans (hb.mono B1.size)⟩
  have h6 := edB_short x k
  cases g : x.gone
  · rw [edtB_lays x k g]
    have HK : Hid (edB x = true) := k
    have hh : (hxB x.by_).size ≤ 12 := by rw [hxB_size]; omega
    have hd := dashB_size (hxB x.by_)
    clear k
    rw [g] at B0 B1
    obtain ⟨p, t, g0⟩ := x
    simp only at *
    subst g
    generalize hT : dashB (hxB t) = T at *
    have HT : Hid (dashB (hxB t) = T) := hT
    clear hT
    go_enter Try.func9, Try.ntmps9
    go_wp2_with (go_at_call 21; refine (edits_spec (some ⟨w.heap.size + 1, 0, none⟩) 1 [⟨p, t, false⟩] _ _ (rd1 _ _ _ _) (by simp) (fun j hj => by obtain rfl : j = 0 := (by simpa using hj); exact ⟨hp, hq⟩) ((edsB_one _).trans HK.out)).mono ?_; rintro e w1 ⟨rfl, hb⟩; have c0 : w1.cell? ⟨w.heap.size, 0, none⟩ = some (.string p) := (hb.cell (p := ⟨w.heap.size, 0, none⟩) (by simp; omega)).trans (old_cell (by simp)); have c1 : w1.cell? ⟨w.heap.size, 1, none⟩ = some (.string t) := (hb.cell (p := ⟨w.heap.size, 1, none⟩) (by simp; omega)).trans (old_cell (by simp)); have c2 : w1.cell? ⟨w.heap.size, 2, none⟩ = some (.bool false) := (hb.cell (p := ⟨w.heap.size, 2, none⟩) (by simp; omega)).trans (old_cell (by simp)))
    have x1 : ∀ x : Ext w1, x.world.cell? ⟨w.heap.size, 0, none⟩ = some (.string p) := fun x => x.cell c0
    have x2 : ∀ x : Ext w1, x.world.cell? ⟨w.heap.size, 1, none⟩ = some (.string t) := fun x => x.cell c1
    have hne : Nonempty (Ext w1) := ⟨⟨w1, Below.refl _ _⟩⟩
    refine region_ext (by kernel_rfl) (by kernel_rfl) ?_
    repeat (go_big_quiet_step ((go_at_call 22; have q := l6Hex_any t; rw [HT.out] at q; exact calls_ext (q _ h6))))
    refine wpQuiet_nil ?_
    rintro _ ⟨x, rfl⟩
    have hbx := x.below
    go_wp2
    go_ret
    exact ⟨rfl, (B1.trans (hb.mono B1.size)).trans (hbx.mono (by have := hb.size; simp at this; omega))⟩
  · rw [edtB_gone x k g]
    have HK : Hid (edB x = true) := k
    clear k
    rw [g] at B0 B1
    obtain ⟨p, t, g0⟩ := x
    simp only at *
    subst g
    go_enter Try.func9, Try.ntmps9
    go_wp2_with (go_at_call 21; refine (edits_spec (some ⟨w.heap.size + 1, 0, none⟩) 1 [⟨p, t, true⟩] _ _ (rd1 _ _ _ _) (by simp) (fun j hj => by obtain rfl : j = 0 := (by simpa using hj); exact ⟨hp, hq⟩) ((edsB_one _).trans HK.out)).mono ?_; rintro e w1 ⟨rfl, hb⟩; have c0 : w1.cell? ⟨w.heap.size, 0, none⟩ = some (.string p) := (hb.cell (p := ⟨w.heap.size, 0, none⟩) (by simp; omega)).trans (old_cell (by simp)); have c2 : w1.cell? ⟨w.heap.size, 2, none⟩ = some (.bool true) := (hb.cell (p := ⟨w.heap.size, 2, none⟩) (by simp; omega)).trans (old_cell (by simp)))
    go_ret
    exact ⟨rfl, B1.trans (hb.mono B1.size)⟩
end Go.Proofs.Ytpdedjjciajddaa.W
