
/-
  The edits of a user who may not everywhere. (Written by genreqw.py.) No condition but that the reader is open.
-/
import Derived.Test.YtcdkjlbpcihcjaaReqL20
import Derived.Test.YtcdkjlbpcihcjaaSlotQB
import Derived.Deep.DeepCutAuto
import Derived.Deep.Cut
import Derived.Deep.CutBlock
namespace Go.Proofs.Ytcdkjlbpcihcjaa.W
open Go.RowKit Go.Proofs.Ytcdkjlbpcihcjaa.M
set_option linter.unusedVariables false
set_option linter.unusedSimpArgs false

set_option maxRecDepth 100000 in
set_option maxHeartbeats 8000000 in
theorem req19 {c : Code} (hc : Try.f21.body.bind (codeAt [true, true, true, true, true, false, true, false, true, false, true, true, true, false]) = some c) {Q : Exit → Act → World → Prop} {a : Act} {w wc : World} {rb p k q : Nat} {ad : Option Addr} {len cap : Nat} {zs : Nat → Int} {x : RQ} {E : Value} (hp : p ≤ 100000)
    (hF : FrQ w rb k a) (HB : S21 w rb k 4 ad len cap zs wc x E q) (hq : q ≤ p + 82)
    (hend : ∀ a' w' x' E' q', FrQ w rb k a' → S21 w rb k 6 ad len cap zs w' x' E' q' → q' ≤ p + 190 → Q .normal a' w') : c.wp Try.prog Q a wc := by
  simp only [Try.f21, Option.bind, codeAt] at hc
  obtain rfl := Option.some.inj hc
  clear hc
  obtain ⟨i0, hii, hz0, hz1, hz2⟩ := info_parts infoE
  have hs4 : (⟨#[97]⟩ : ByteArray).size ≤ 64 := by decide
  obtain ⟨y, hy, rfl⟩ := frQ_lit hF
  clear hF hy
  refine wp_seq_k (fun K hK => ?_)
  refine frontQB (p := q) (ad := ad) (len := len) (cap := cap) (zs := zs) (by kernel_rfl) rfl rfl rfl rfl HB.rd (by omega) HB.lt2 HB.bk rfl (by have := HB.lt; have := HB.lk; omega) ?_
  intro y4 w4 q4 g4 s4 b4 hs4' hb4 hq4 hR4 hG4 hk4 hB4
  refine hK _ _ ?_
  have h9 := HB.lk2
  have hN : S21 w rb k 4 ad len cap zs (w4.setCell ⟨k, 8, none⟩ (.slice (some ⟨g4, 0, none⟩) 1 1)) _ _ q4 := (HB.call hG4 hR4).put (L := [⟨s4, b4, false⟩]) ⟨rfl, .inr ⟨g4, 1, _, rfl, by omega, hB4, Nat.le_refl _, by unfold maxLen; omega, rfl, rfl⟩⟩ (by simp) (fun x hx => by (obtain rfl : x = ⟨s4, b4, false⟩ := (by simpa using hx)); exact ⟨hs4', hb4⟩)
  exact req20 (by kernel_rfl) hp ⟨rfl, rfl, rfl, rfl, rfl, rfl⟩ hN (by omega) hend
end Go.Proofs.Ytcdkjlbpcihcjaa.W
