
/-
  What the exact law of HseNew carries from call to call: two houses in their boxes, two rows of numbers. No condition.
-/
import Derived.Test.YtknbmgdfcejlkaaWalkHseN
namespace Go.Proofs.Ytknbmgdfcejlkaa.W
open Go.RowKit
set_option linter.unusedVariables false

structure LK (w W : World) (p5 p8 s0 sx sy sg : Nat) (a0 a1 a2 g0 g1 g2 x y : Value) (K U A GK GU GA XK XA : List Int) : Prop where
  B : Below w.heap.size w W
  b5 : W.heap[p5]? = some (.cells #[a0, a1, a2, .slice none 0 0, .slice none 0 0, .slice none 0 0, .int .i64 0, .slice none 0 0, .slice none 0 0, .slice none 0 0] 37 (0, 0))
  b8 : W.heap[p8]? = some (.cells #[g0, g1, g2, .slice none 0 0, .slice none 0 0, .slice none 0 0, .int .i64 0, .slice none 0 0, .slice none 0 0, .slice none 0 0] 37 (0, 0))
  h0 : HK W s0 a0 a1 a2 K U A
  hg : HK W sg g0 g1 g2 GK GU GA
  hx : W.ownsRow sx 3 1 x XK.length (cellsI XK)
  hy : W.ownsRow sy 3 1 y XA.length (cellsI XA)
  l0 : ∀ g, blkH a0 a1 a2 g → g < sx
  lx : ∀ g, x.ownBlock = some g → g < sy
  ly : ∀ g, y.ownBlock = some g → g < sg
  o1 : w.heap.size ≤ s0 ∧ w.heap.size ≤ p5 ∧ p5 < sx ∧ w.heap.size ≤ sx ∧ sx ≤ sy ∧ sy ≤ sg ∧ sg ≤ p8
variable {w W W' : World} {p5 p8 s0 sx sy sg : Nat} {a0 a1 a2 g0 g1 g2 x y : Value} {K U A GK GU GA XK XA : List Int}
theorem LK.under (h : LK w W p5 p8 s0 sx sy sg a0 a1 a2 g0 g1 g2 x y K U A GK GU GA XK XA) (hb : Below W.heap.size W W') : LK w W' p5 p8 s0 sx sy sg a0 a1 a2 g0 g1 g2 x y K U A GK GU GA XK XA :=
  ⟨h.B.trans (hb.mono h.B.size), hpBelow h.b5 hb (Array.getElem?_eq_some_iff.1 h.b5).1, hpBelow h.b8 hb (Array.getElem?_eq_some_iff.1 h.b8).1, h.h0.under hb, h.hg.under hb, ownsUnder h.hx hb (Nat.le_refl _), ownsUnder h.hy hb (Nat.le_refl _), h.l0, h.lx, h.ly, h.o1⟩
theorem LK.markx (h : LK w W p5 p8 s0 sx sy sg a0 a1 a2 g0 g1 g2 x y K U A GK GU GA XK XA) {XK' : List Int} (hr : W'.ownsRow sx 3 1 x XK'.length (cellsI XK')) (hb : W.grownBy W' x.ownBlock) : LK w W' p5 p8 s0 sx sy sg a0 a1 a2 g0 g1 g2 x y K U A GK GU GA XK' XA := by
  obtain ⟨q0, q1, q2, q3, q4, q5, q6⟩ := h.o1
  have b5l := (Array.getElem?_eq_some_iff.1 h.b5).1
  refine ⟨h.B.grown hb h.B.size (fun g q => by have := (h.hx.lt g q).1; omega), hpBy h.b5 hb (fun q => by have := (h.hx.lt _ q).1; omega), hpBy h.b8 hb (fun q => by have := h.lx _ q; omega), h.h0.by_ hb (fun g q e => by have := h.l0 g q; have := (h.hx.lt g e).1; omega), h.hg.by_ hb (fun g q e => by have := h.hg.ge q; have := h.lx g e; omega), hr, kept_other h.hy hb (fun g q e => by have := (h.hy.lt g q).1; have := h.lx g e; omega), h.l0, h.lx, h.ly, h.o1⟩
theorem LK.marky (h : LK w W p5 p8 s0 sx sy sg a0 a1 a2 g0 g1 g2 x y K U A GK GU GA XK XA) {XA' : List Int} (hr : W'.ownsRow sy 3 1 y XA'.length (cellsI XA')) (hb : W.grownBy W' y.ownBlock) : LK w W' p5 p8 s0 sx sy sg a0 a1 a2 g0 g1 g2 x y K U A GK GU GA XK XA' := by
  obtain ⟨q0, q1, q2, q3, q4, q5, q6⟩ := h.o1
  refine ⟨h.B.grown hb h.B.size (fun g q => by have := (h.hy.lt g q).1; omega), hpBy h.b5 hb (fun q => by have := (h.hy.lt _ q).1; omega), hpBy h.b8 hb (fun q => by have := h.ly _ q; omega), h.h0.by_ hb (fun g q e => by have := h.l0 g q; have := (h.hy.lt g e).1; omega), h.hg.by_ hb (fun g q e => by have := h.hg.ge q; have := h.ly g e; omega), kept_other h.hx hb (fun g q e => by have := h.lx g q; have := (h.hy.lt g e).1; omega), hr, h.l0, h.lx, h.ly, h.o1⟩
theorem LK.markg (h : LK w W p5 p8 s0 sx sy sg a0 a1 a2 g0 g1 g2 x y K U A GK GU GA XK XA) {GK' GU' GA' : List Int} (hr : HK W' sg g0 g1 g2 GK' GU' GA') (hB : ∀ B, B ≤ W.heap.size → B ≤ sg → Below B W W') (hN : ∀ k, k < W.heap.size → ¬ blkH g0 g1 g2 k → W'.heap[k]? = W.heap[k]?) : LK w W' p5 p8 s0 sx sy sg a0 a1 a2 g0 g1 g2 x y K U A GK' GU' GA' XK XA := by
  obtain ⟨q0, q1, q2, q3, q4, q5, q6⟩ := h.o1
  have l8 := (Array.getElem?_eq_some_iff.1 h.b8).1
  have l5 := (Array.getElem?_eq_some_iff.1 h.b5).1
  have hb := hB sg (by omega) (Nat.le_refl _)
  have n8 : ¬ blkH g0 g1 g2 p8 := by
    rintro (q | q | q)
    · exact type_ne h.hg.1 h.b8 (by decide) q
    · exact type_ne h.hg.2.1 h.b8 (by decide) q
    · exact type_ne h.hg.2.2.1 h.b8 (by decide) q
  refine ⟨h.B.trans (hB w.heap.size h.B.size (by omega)), hpBelow h.b5 hb (by omega), (hN p8 l8 n8).trans h.b8, h.h0.lo hb (fun g q => by have := h.l0 g q; omega), hr, row_lo h.hx hb (fun g q => by have := h.lx g q; omega), row_lo h.hy hb (fun g q => by have := h.ly g q; omega), h.l0, h.lx, h.ly, h.o1⟩
end Go.Proofs.Ytknbmgdfcejlkaa.W
