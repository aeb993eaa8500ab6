/-
  Texts side by side, as a slice reads them. No condition.
  The walk of the laws' chFiles over two rows of the same files: it says true. At most 1048576 files.
  The walk of the laws' chTexts over two slices that read as the same texts. At most 100000000 texts.
-/
import Derived.Test.YtbceegonaomblaaWalkPthSpec
import Derived.Below
import Derived.Test.YtbceegonaomblaaWalkTreO
import Derived.Test.YtbceegonaomblaaWalkTexts
namespace Go.Proofs.Ytbceegonaomblaa.W
open Go.RowKit Go.Proofs.Ytbceegonaomblaa.M

/-- the slice at A reads as these texts -/
def RdT (B : Nat) (w : World) (A : Option Addr) (N : List (List UInt8)) : Prop :=
  ∀ j (h : j < N.length), ∃ b, A = some ⟨b, 0, none⟩ ∧ b < B ∧ w.cell? ⟨b, j, none⟩ = some (.string ⟨(N[j]).toArray⟩)
theorem RdT.below {B B' : Nat} {w w' : World} {A : Option Addr} {N : List (List UInt8)} (h : RdT B w A N) (hb : Below B' w w') (hB : B ≤ B') : RdT B w' A N := fun j hj => by
  obtain ⟨b, e, hl, c⟩ := h j hj
  exact ⟨b, e, hl, (hb.cell (p := ⟨b, _, none⟩) (by show b < B'; omega)).trans c⟩
theorem RdT.mono {B B' : Nat} {w : World} {A : Option Addr} {N : List (List UInt8)} (h : RdT B w A N) (hB : B ≤ B') : RdT B' w A N := fun j hj => by
  obtain ⟨b, e, hl, c⟩ := h j hj
  exact ⟨b, e, by omega, c⟩
theorem RdT.up {w w' : World} {A : Option Addr} {N : List (List UInt8)} (h : RdT w.heap.size w A N) (hb : Below w.heap.size w w') : RdT w'.heap.size w' A N := (h.below hb (Nat.le_refl _)).mono hb.size
theorem strs_at (L : List (List UInt8)) (j : Nat) (h : j < L.length) : (strs L)[j]? = some (.string ⟨(L[j]).toArray⟩) := by simp [strs, h]
theorem rdT_of_own {w : World} {base : Nat} {e : TypeId} {v : Value} {N : List (List UInt8)} (h : w.ownsRow base e 1 v N.length (strs N)) : ∃ A c, v = .slice A N.length c ∧ RdT w.heap.size w A N := by
  have hl := h.lt
  rcases h.2 with ⟨rfl, hn⟩ | ⟨g, cap, cur, rfl, _⟩
  · exact ⟨none, 0, by rw [hn], fun j hj => by omega⟩
  · exact ⟨some ⟨g, 0, none⟩, cap, rfl, fun j hj => ⟨g, rfl, (hl g rfl).2, by rw [h.cellAt j (by omega)]; exact strs_at N j hj⟩⟩
theorem hid9 {p : Prop} (h : p) : Hid p := h
end Go.Proofs.Ytbceegonaomblaa.W
namespace Go.Proofs.Ytbceegonaomblaa.W
open Go.RowKit Go.Proofs.Ytbceegonaomblaa.M

set_option maxHeartbeats 1000000 in
theorem chFiles_same (A B : Option Addr) (c d : Nat) (L : List TF) (w : World) (hA : RdF w.heap.size w A L) (hB : RdF w.heap.size w B L) (hn : L.length ≤ 1048576) :
    Calls Try.prog 8 #[.slice A L.length c, .slice B L.length d] w fun e w' => e = .returned (.bool true) ∧ Below w.heap.size w w' := by
  have HA : Hid (RdF w.heap.size w A L) := hA
  have HB : Hid (RdF w.heap.size w B L) := hB
  clear hA hB
  go_enter Try.func8, Try.ntmps8
  go_wp2
  go_loopw [5] (fun iv wr => ∃ j : Nat, j ≤ L.length ∧ iv = .int .i64 j ∧ Below w.heap.size w wr) (fun i _ => L.length - (intOf i).toNat)
  case atStart => exact ⟨0, Nat.zero_le _, rfl, Below.refl _ _⟩
  case round =>
    obtain ⟨j, hj, rfl, hb⟩ := hrel
    have hsz := hb.size
    by_cases hlt : j < L.length
    · obtain ⟨b, o, rfl, hbl, c1, c2⟩ := (HA.out.below hb (Nat.le_refl _)) j hlt
      obtain ⟨b', o', rfl, hbl', d1, d2⟩ := (HB.out.below hb (Nat.le_refl _)) j hlt
      generalize (L[j]).pa = q at *
      generalize (L[j]).by_ = t at *
      have x1 : ∀ x : Ext wr, x.world.cell? ⟨b, o + j * 2, none⟩ = some (.string q) := fun x => x.cell c1
      have x2 : ∀ x : Ext wr, x.world.cell? ⟨b, o + j * 2 + 1, none⟩ = some (.string t) := fun x => x.cell c2
      have x3 : ∀ x : Ext wr, x.world.cell? ⟨b', o' + j * 2, none⟩ = some (.string q) := fun x => x.cell d1
      have x4 : ∀ x : Ext wr, x.world.cell? ⟨b', o' + j * 2 + 1, none⟩ = some (.string t) := fun x => x.cell d2
      have hne : Nonempty (Ext wr) := ⟨⟨wr, Below.refl _ _⟩⟩
      go_wp2
      refine region_ext (by kernel_rfl) (by kernel_rfl) ?_
      repeat (go_big_quiet_step (fail))
      refine wpQuiet_nil ?_
      rintro _ ⟨x, rfl⟩
      have hbx := x.below
      go_wp2
      go_roundw
      case rel => exact ⟨j + 1, by omega, by go_num, hb.trans (hbx.mono (by omega))⟩
      case measure => simp [intOf]; omega
    · go_wp2
      go_ret
      exact ⟨rfl, hb⟩
end Go.Proofs.Ytbceegonaomblaa.W
namespace Go.Proofs.Ytbceegonaomblaa.W
open Go.RowKit Go.Proofs.Ytbceegonaomblaa.M

theorem chTexts_rd (A B : Option Addr) (c d : Nat) (N : List (List UInt8)) (w : World) (hA : RdT w.heap.size w A N) (hB : RdT w.heap.size w B N) (hn : N.length ≤ 100000000) :
    Calls Try.prog 10 #[.slice A N.length c, .slice B N.length d] w fun e w' => e = .returned (.bool true) ∧ Below w.heap.size w w' := by
  by_cases h0 : N.length = 0
  · rw [h0]
    exact chTexts_none A B c d w
  · obtain ⟨g1, rfl, _, _⟩ := hA 0 (by omega)
    obtain ⟨g2, rfl, _, _⟩ := hB 0 (by omega)
    refine chTexts_some g1 c g2 d N w (fun j hj => ?_) (fun j hj => ?_) hn
    · obtain ⟨b, e, _, k⟩ := hA j hj
      simp only [Option.some.injEq, Addr.mk.injEq] at e
      obtain ⟨rfl, _⟩ := e
      exact k
    · obtain ⟨b, e, _, k⟩ := hB j hj
      simp only [Option.some.injEq, Addr.mk.injEq] at e
      obtain ⟨rfl, _⟩ := e
      exact k
end Go.Proofs.Ytbceegonaomblaa.W
