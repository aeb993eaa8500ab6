
/-
  What else is drawn of a request, by its kind. (Written by genreqw.py.) No condition but that the reader is open.
-/
import Derived.Test.YtcdkjlbpcihcjaaReqPut
import Derived.Deep.DeepCutAuto
import Derived.Deep.Cut
import Derived.Deep.CutBlock
namespace Go.Proofs.Ytcdkjlbpcihcjaa.W
open Go.RowKit Go.Proofs.Ytcdkjlbpcihcjaa.M
set_option linter.unusedVariables false
set_option linter.unusedSimpArgs false

set_option maxRecDepth 100000 in
set_option maxHeartbeats 8000000 in
theorem reqBlk {c : Code} (hc : Try.f21.body.bind (codeAt [true, true, true, true, true, false, true]) = some c) {Q : Exit → Act → World → Prop} {a : Act} {w wc : World} {rb p k q : Nat} {ad : Option Addr} {len cap : Nat} {zs : Nat → Int} {x : RQ} {d : Int} (hp : p ≤ 100000)
    (hF : FrQ w rb k a) (HB : S21 w rb k 4 ad len cap zs wc x (.slice none 0 0) q) (hq : q ≤ p + 45) (h95 : a.tmps[95]? = some (.int .i64 d))
    (hend : ∀ a' w' x' E' q', FrQ w rb k a' → S21 w rb k 6 ad len cap zs w' x' E' q' → q' ≤ p + 190 → Q .normal a' w') : c.wp Try.prog Q a wc := by
  simp only [Try.f21, Option.bind, codeAt] at hc
  obtain rfl := Option.some.inj hc
  clear hc
  obtain ⟨i0, hii, hz0, hz1, hz2⟩ := info_parts infoE
  have hs4 : (⟨#[97]⟩ : ByteArray).size ≤ 64 := by decide
  obtain ⟨y, hy, rfl⟩ := frQ_lit hF
  have e95 : y 95 = .int .i64 d := hy 95 _ h95
  clear hF hy h95
  rw [e95]
  clear e95
  have hlk := HB.lk2
  have hlk := HB.lk2; have hlr := HB.lt2; have m2 := bkCell (k := 2) HB.b3 rfl; obtain ⟨c0, c1, c2, c3, c4, c5, c6, c7, c8, c9, c10, c11, c12, c13, c14⟩ := HB.cells; obtain ⟨f0, f1, f2, f3, f4, f5, f6, f7, f8, f9, f10, f11, f12, f13, f14⟩ := HB.frz
  have m2 := bkCell (k := 2) HB.b3 rfl
  have drp : decide (x.repo < 0) = false := by have := HB.rp; simp; omega
  have hnk : w.heap.size ≠ k := by have := HB.lk; omega
  have hnk2 : k ≠ w.heap.size := fun e => hnk e.symm
  by_cases hd : d = 1
  · subst hd
    go_upto_if 96 with fail
    refine wp_cond_true rfl ?_
    refine reqPut (by kernel_rfl) (by omega) ⟨rfl, rfl, rfl, rfl, rfl, rfl⟩ (by first | with_reducible exact HB | (repeat (first | with_reducible exact HB | ((with_reducible apply S21.one) <;> (first | exact hst | (show 1 ≤ 4; decide) | skip)) | (with_reducible apply S21.al) | ((with_reducible apply S21.put) <;> (first | exact hoE | exact hnE | exact hshE | skip)) | (with_reducible apply S21.s0) | (with_reducible apply S21.s1) | (with_reducible apply S21.s6) | (with_reducible apply S21.s7) | (with_reducible apply S21.s13) | ((with_reducible apply S21.s2) <;> (first | exact Int.le_refl _ | skip)) | ((with_reducible apply S21.s4) <;> (first | exact hs4 | skip)) | ((with_reducible apply S21.s5) <;> (first | exact hs1 | skip)) | ((with_reducible apply S21.s14) <;> (first | exact hs1 | skip)) | ((with_reducible apply S21.s9) <;> (first | exact hr9 | skip))))) (by omega) (fun a' w' x' E' q' h1 h2 h3 => hend a' w' x' E' q' h1 h2 h3)
  · go_wp2_with (first
      | (go_at_call 22; refine (pickS _ (by decide) (by decide) (by first | with_reducible exact HB | (repeat (first | with_reducible exact HB | ((with_reducible apply S21.one) <;> (first | exact hst | (show 1 ≤ 4; decide) | skip)) | (with_reducible apply S21.al) | ((with_reducible apply S21.put) <;> (first | exact hoE | exact hnE | exact hshE | skip)) | (with_reducible apply S21.s0) | (with_reducible apply S21.s1) | (with_reducible apply S21.s6) | (with_reducible apply S21.s7) | (with_reducible apply S21.s13) | ((with_reducible apply S21.s2) <;> (first | exact Int.le_refl _ | skip)) | ((with_reducible apply S21.s4) <;> (first | exact hs4 | skip)) | ((with_reducible apply S21.s5) <;> (first | exact hs1 | skip)) | ((with_reducible apply S21.s14) <;> (first | exact hs1 | skip)) | ((with_reducible apply S21.s9) <;> (first | exact hr9 | skip))))) (by omega)).mono ?_; rintro e w' ⟨v, hv, rfl, HB, hg⟩; (first | (have hL := lit5 hg (by simpa [World.setCell] using hlr) v hv; (try simp only [World.setCell, Array.size_modify] at hL); obtain ⟨s1, hcell, hs1⟩ := hL) | (have hL := lit3 hg (by simpa [World.setCell] using hlr) v hv; (try simp only [World.setCell, Array.size_modify] at hL); obtain ⟨s1, hcell, hs1⟩ := hL) | skip); clear hg; obtain ⟨x, HB⟩ := S21.ex HB; have drp : decide (x.repo < 0) = false := (by have := HB.rp; simp; omega); have hlk := HB.lk2; have hlr := HB.lt2; have m2 := bkCell (k := 2) HB.b3 rfl; obtain ⟨c0, c1, c2, c3, c4, c5, c6, c7, c8, c9, c10, c11, c12, c13, c14⟩ := HB.cells; obtain ⟨f0, f1, f2, f3, f4, f5, f6, f7, f8, f9, f10, f11, f12, f13, f14⟩ := HB.frz)
      | (go_at_call 31; (refine (editsS (by first | with_reducible exact HB | (repeat (first | with_reducible exact HB | ((with_reducible apply S21.one) <;> (first | exact hst | (show 1 ≤ 4; decide) | skip)) | (with_reducible apply S21.al) | ((with_reducible apply S21.put) <;> (first | exact hoE | exact hnE | exact hshE | skip)) | (with_reducible apply S21.s0) | (with_reducible apply S21.s1) | (with_reducible apply S21.s6) | (with_reducible apply S21.s7) | (with_reducible apply S21.s13) | ((with_reducible apply S21.s2) <;> (first | exact Int.le_refl _ | skip)) | ((with_reducible apply S21.s4) <;> (first | exact hs4 | skip)) | ((with_reducible apply S21.s5) <;> (first | exact hs1 | skip)) | ((with_reducible apply S21.s14) <;> (first | exact hs1 | skip)) | ((with_reducible apply S21.s9) <;> (first | exact hr9 | skip))))) (by omega)).mono ?_; rintro e w' ⟨A, n, c, M, q2, rfl, hnE, hshE, hoE, hq2, HB⟩; have hlk := HB.lk2; have hlr := HB.lt2; have m2 := bkCell (k := 2) HB.b3 rfl; obtain ⟨c0, c1, c2, c3, c4, c5, c6, c7, c8, c9, c10, c11, c12, c13, c14⟩ := HB.cells; obtain ⟨f0, f1, f2, f3, f4, f5, f6, f7, f8, f9, f10, f11, f12, f13, f14⟩ := HB.frz))
      | (go_at_call 32; refine (editS (by first | with_reducible exact HB | (repeat (first | with_reducible exact HB | ((with_reducible apply S21.one) <;> (first | exact hst | (show 1 ≤ 4; decide) | skip)) | (with_reducible apply S21.al) | ((with_reducible apply S21.put) <;> (first | exact hoE | exact hnE | exact hshE | skip)) | (with_reducible apply S21.s0) | (with_reducible apply S21.s1) | (with_reducible apply S21.s6) | (with_reducible apply S21.s7) | (with_reducible apply S21.s13) | ((with_reducible apply S21.s2) <;> (first | exact Int.le_refl _ | skip)) | ((with_reducible apply S21.s4) <;> (first | exact hs4 | skip)) | ((with_reducible apply S21.s5) <;> (first | exact hs1 | skip)) | ((with_reducible apply S21.s14) <;> (first | exact hs1 | skip)) | ((with_reducible apply S21.s9) <;> (first | exact hr9 | skip))))) (by omega)).mono ?_; rintro e w' ⟨s, t, g, q3, rfl, hs, ht, hq3, HB⟩; have hst := And.intro hs ht; have hlk := HB.lk2; have hlr := HB.lt2; have m2 := bkCell (k := 2) HB.b3 rfl; obtain ⟨c0, c1, c2, c3, c4, c5, c6, c7, c8, c9, c10, c11, c12, c13, c14⟩ := HB.cells; obtain ⟨f0, f1, f2, f3, f4, f5, f6, f7, f8, f9, f10, f11, f12, f13, f14⟩ := HB.frz)
      | (go_at_call 25; refine (ruleS 99 (by decide) (by decide) (by first | with_reducible exact HB | (repeat (first | with_reducible exact HB | ((with_reducible apply S21.one) <;> (first | exact hst | (show 1 ≤ 4; decide) | skip)) | (with_reducible apply S21.al) | ((with_reducible apply S21.put) <;> (first | exact hoE | exact hnE | exact hshE | skip)) | (with_reducible apply S21.s0) | (with_reducible apply S21.s1) | (with_reducible apply S21.s6) | (with_reducible apply S21.s7) | (with_reducible apply S21.s13) | ((with_reducible apply S21.s2) <;> (first | exact Int.le_refl _ | skip)) | ((with_reducible apply S21.s4) <;> (first | exact hs4 | skip)) | ((with_reducible apply S21.s5) <;> (first | exact hs1 | skip)) | ((with_reducible apply S21.s14) <;> (first | exact hs1 | skip)) | ((with_reducible apply S21.s9) <;> (first | exact hr9 | skip))))) (by omega)).mono ?_; rintro e w' ⟨u9, r9, t9, g9, q9, rfl, hr9, hq9, HB⟩; have hlk := HB.lk2; have hlr := HB.lt2; have m2 := bkCell (k := 2) HB.b3 rfl; obtain ⟨c0, c1, c2, c3, c4, c5, c6, c7, c8, c9, c10, c11, c12, c13, c14⟩ := HB.cells; obtain ⟨f0, f1, f2, f3, f4, f5, f6, f7, f8, f9, f10, f11, f12, f13, f14⟩ := HB.frz))
    all_goals (try simp only [Exit.then, Exit.inBlock])
    all_goals (refine hend _ _ _ _ _ ?_ (S21.up (by first | with_reducible exact HB | (repeat (first | with_reducible exact HB | ((with_reducible apply S21.one) <;> (first | exact hst | (show 1 ≤ 4; decide) | skip)) | (with_reducible apply S21.al) | ((with_reducible apply S21.put) <;> (first | exact hoE | exact hnE | exact hshE | skip)) | (with_reducible apply S21.s0) | (with_reducible apply S21.s1) | (with_reducible apply S21.s6) | (with_reducible apply S21.s7) | (with_reducible apply S21.s13) | ((with_reducible apply S21.s2) <;> (first | exact Int.le_refl _ | skip)) | ((with_reducible apply S21.s4) <;> (first | exact hs4 | skip)) | ((with_reducible apply S21.s5) <;> (first | exact hs1 | skip)) | ((with_reducible apply S21.s14) <;> (first | exact hs1 | skip)) | ((with_reducible apply S21.s9) <;> (first | exact hr9 | skip))))) (by decide)) ?_ <;> first | exact ⟨rfl, rfl, rfl, rfl, rfl, rfl⟩ | omega)
end Go.Proofs.Ytcdkjlbpcihcjaa.W
