
/-
  Texts side by side, as a slice reads them. No condition.
-/
import Derived.Test.YtbceegonaomblaaWalkPthSpec
import Derived.Below
namespace Go.Proofs.Ytbceegonaomblaa.W
open Go.RowKit Go.Proofs.Ytbceegonaomblaa.M

/-- the slice at A reads as these texts -/
def RdT (B : Nat) (w : World) (A : Option Addr) (N : List (List UInt8)) : Prop :=
  ∀ j (h : j < N.length), ∃ b, A = some ⟨b, 0, none⟩ ∧ b < B ∧ w.cell? ⟨b, j, none⟩ = some (.string ⟨(N[j]).toArray⟩)
theorem RdT.below {B B' : Nat} {w w' : World} {A : Option Addr} {N : List (List UInt8)} (h : RdT B w A N) (hb : Below B' w w') (hB : B ≤ B') : RdT B w' A N := fun j hj => by
  obtain ⟨b, e, hl, c⟩ := h j hj
  exact ⟨b, e, hl, (hb.cell (p := ⟨b, _, none⟩) (by show b < B'; omega)).trans c⟩
theorem RdT.mono {B B' : Nat} {w : World} {A : Option Addr} {N : List (List UInt8)} (h : RdT B w A N) (hB : B ≤ B') : RdT B' w A N := fun j hj => by
  obtain ⟨b, e, hl, c⟩ := h j hj
  exact ⟨b, e, by omega, c⟩
theorem RdT.up {w w' : World} {A : Option Addr} {N : List (List UInt8)} (h : RdT w.heap.size w A N) (hb : Below w.heap.size w w') : RdT w'.heap.size w' A N := (h.below hb (Nat.le_refl _)).mono hb.size
theorem strs_at (L : List (List UInt8)) (j : Nat) (h : j < L.length) : (strs L)[j]? = some (.string ⟨(L[j]).toArray⟩) := by simp [strs, h]
theorem rdT_of_own {w : World} {base : Nat} {e : TypeId} {v : Value} {N : List (List UInt8)} (h : w.ownsRow base e 1 v N.length (strs N)) : ∃ A c, v = .slice A N.length c ∧ RdT w.heap.size w A N := by
  have hl := h.lt
  rcases h.2 with ⟨rfl, hn⟩ | ⟨g, cap, cur, rfl, _⟩
  · exact ⟨none, 0, by rw [hn], fun j hj => by omega⟩
  · exact ⟨some ⟨g, 0, none⟩, cap, rfl, fun j hj => ⟨g, rfl, (hl g rfl).2, by rw [h.cellAt j (by omega)]; exact strs_at N j hj⟩⟩
theorem hid9 {p : Prop} (h : p) : Hid p := h
end Go.Proofs.Ytbceegonaomblaa.W
