
/-
  The walks of the specification's l4Copy: the same files, in new memory. At most 1048576 files.
-/
import Derived.Test.YtbceegonaomblaaRowF
import Derived.Test.YtbceegonaomblaaMathNew
import Derived.Test.YtbceegonaomblaaMathTTur
import Derived.Lib.Walk
namespace Go.Proofs.Ytbceegonaomblaa.W
open Go.RowKit Go.Lib

theorem rdF_cells {B : Nat} {w : World} {b o : Nat} {L : List TF} (h : RdF B w (some ⟨b, o, none⟩) L) : ∀ j u, (cellsF L)[j]? = some u → w.cell? ((⟨b, o, none⟩ : Addr).add j) = some u := by
  intro j u hu
  have hj : j < (cellsF L).length := (List.getElem?_eq_some_iff.1 hu).1
  rw [cellsF_length] at hj
  have hi : j / 2 < L.length := by omega
  obtain ⟨b', o', e, hl, c1, c2⟩ := h (j / 2) hi
  simp only [Option.some.injEq, Addr.mk.injEq] at e
  obtain ⟨rfl, rfl, _⟩ := e
  obtain ⟨g1, g2⟩ := cellsF_get L (j / 2) hi
  have ea : (⟨b, o, none⟩ : Addr).add j = ⟨b, o + j, none⟩ := by unfold Addr.add; split <;> simp_all
  rw [ea]
  have hm : j % 2 = 0 ∨ j % 2 = 1 := by omega
  rcases hm with hm | hm
  · have e0 : j = j / 2 * 2 := by omega
    rw [← e0] at g1 c1
    rw [g1] at hu; rw [← hu]; exact c1
  · have e0 : j = j / 2 * 2 + 1 := by omega
    rw [← e0] at g2
    rw [Nat.add_assoc, ← e0] at c2
    rw [g2] at hu; rw [← hu]; exact c2
theorem cellsF_one (L : List TF) : ∀ u ∈ cellsF L, u.oneCell' = true := by
  intro u hu
  unfold cellsF at hu
  obtain ⟨x, _, hx⟩ := List.mem_flatMap.1 hu
  simp at hx
  rcases hx with rfl | rfl <;> rfl

set_option maxHeartbeats 1000000 in
set_option maxRecDepth 100000 in
theorem l4Copy_some (b o c : Nat) (L : List TF) (w : World) (hL : RdF w.heap.size w (some ⟨b, o, none⟩) L) (hn : L.length ≤ 1048576) :
    Calls Try.prog 54 #[.slice (some ⟨b, o, none⟩) L.length c] w fun e w' => (∃ g cap, e = .returned (.slice (some ⟨g, 0, none⟩) L.length cap) ∧ w'.ownsRow w.heap.size 51 2 (.slice (some ⟨g, 0, none⟩) L.length cap) L.length (cellsF L)) ∧ Below w.heap.size w w' := by
  have HL : Hid (RdF w.heap.size w (some ⟨b, o, none⟩) L) := hL
  clear hL
  obtain ⟨i0, hi, hz0, hz1, hz2⟩ := info_parts infoF
  go_enter Try.func54, Try.ntmps54
  have o1 : (w.alloc (.cells #[] 51)).ownsRow w.heap.size 51 2 (.slice (some ⟨w.heap.size, 0, none⟩) 0 0) 0 [] := World.ownsRow_lit w #[] 0 (Nat.le_refl _) (by unfold maxLen; omega) rfl
  have B1 : Below w.heap.size w (w.alloc (.cells #[] 51)) := (Below.refl _ _).alloc (Nat.le_refl _) _
  have z1 := B1.size
  go_wp2_with (at_builtin; refine wpList_append_own _ rfl _ _ 23 rfl w.heap.size 51 i0 (.agg #[.string ByteArray.empty, .string ByteArray.empty]) 2 32 Try.underlying23 hi hz0 hz1 hz2 rfl (by decide) _ _ _ rfl o1 ⟨b, o, none⟩ L.length c (cellsF L) rfl (cellsF_length L) (rdF_cells (HL.out.below B1 (Nat.le_refl _))) (cellsF_one L) (by unfold maxLen; omega) (by omega) (by omega) ?_; intro v2 w2 o2 g2 hnil2; have HN2 : Hid (v2 ≠ .slice none 0 0) := (show v2 ≠ .slice none 0 0 from fun e => by have := (hnil2.1 e).1; cases this); clear hnil2; have B2' : Below w.heap.size w w2 := growOwn B1 z1 o1 g2 (Nat.le_refl _))
  go_ret
  have o3 : w2.ownsRow w.heap.size 51 2 v2 L.length (cellsF L) := by simpa only [Nat.zero_add, List.nil_append] using o2
  refine ⟨?_, B2'⟩
  rcases o3.2 with ⟨h1, _⟩ | ⟨g, cap, cur, h1, h3⟩
  · exact absurd h1 HN2.out
  · subst h1; exact ⟨g, cap, rfl, o3⟩
set_option maxHeartbeats 1000000 in
set_option maxRecDepth 100000 in
theorem l4Copy_nil (c : Nat) (w : World) :
    Calls Try.prog 54 #[.slice none 0 c] w fun e w' => (∃ v, e = .returned v ∧ w'.ownsRow w.heap.size 51 2 v 0 []) ∧ Below w.heap.size w w' := by
  have o1 : (w.alloc (.cells #[] 51)).ownsRow w.heap.size 51 2 (.slice (some ⟨w.heap.size, 0, none⟩) 0 0) 0 [] := World.ownsRow_lit w #[] 0 (Nat.le_refl _) (by unfold maxLen; omega) rfl
  have B1 : Below w.heap.size w (w.alloc (.cells #[] 51)) := (Below.refl _ _).alloc (Nat.le_refl _) _
  go_enter Try.func54, Try.ntmps54
  go_wp2_with (show Oper.upon Try.prog _ _ _ _ (Result.ok (Next.value (.slice (some ⟨w.heap.size, 0, none⟩) 0 0)) (w.alloc (.cells #[] 51))))
  go_ret
  exact ⟨⟨_, rfl, o1⟩, B1⟩
end Go.Proofs.Ytbceegonaomblaa.W
