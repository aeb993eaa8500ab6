/-
  The walks of the specification's l3Copy, l3Put and PolPut. Pools of at most 1048576 bytes.
  Rows of numbers: the walks of the exact laws' own 'eqIntS', 'markIntS', 'heldIntS' over rows that a call has made. Rows of at most 1048576 numbers.
  The walks of PolIds, of the program and of the specification: the ids, in new memory. At most 1048576 items.
-/
import Derived.Test.YthfffpdkmoclbaaGreatDoorMg31
import Derived.Test.YthfffpdkmoclbaaGreatDoorMg14
import Derived.Test.YthfffpdkmoclbaaGreatDoorMg17
import Derived.Test.YthfffpdkmoclbaaGreatDoorMg26
import Derived.Test.YthfffpdkmoclbaaGreatDoorMg32
import Derived.Test.YthfffpdkmoclbaaGreatDoorMg01
import Derived.OwnWalk
import Derived.Below
import Derived.BigQuiet
import Derived.Deep.QuietTactic
import Derived.Deep.RegionWith
namespace Go.Proofs.YthfffpdkmoclbaaGreatDoor.W
open Go.RowKit Go.Proofs.YthfffpdkmoclbaaGreatDoor.M
set_option linter.unusedVariables false

theorem findP_k (L : List PI) (n : Int) (k : Nat) (hk : plP L n = k) (hr : RiseP L) : findP L n = if h : k < L.length then (if (L[k]).id = n then some (L[k]).tx else none) else none := by
  subst hk; exact findP_pl L n hr
theorem rdP_cells {B : Nat} {w : World} {b o : Nat} {L : List PI} (h : RdP B w (some ⟨b, o, none⟩) L) : ∀ j u, (cellsP L)[j]? = some u → w.cell? ((⟨b, o, none⟩ : Addr).add j) = some u := by
  intro j u hu
  have hj : j < (cellsP L).length := (List.getElem?_eq_some_iff.1 hu).1
  rw [cellsP_length] at hj
  have hi : j / 2 < L.length := by omega
  obtain ⟨b', o', e, hl, c1, c2⟩ := h (j / 2) hi
  simp only [Option.some.injEq, Addr.mk.injEq] at e
  obtain ⟨rfl, rfl, _⟩ := e
  obtain ⟨g1, g2⟩ := cellsP_get L (j / 2) hi
  have ea : (⟨b, o, none⟩ : Addr).add j = ⟨b, o + j, none⟩ := by unfold Addr.add; split <;> simp_all
  rw [ea]
  have hm : j % 2 = 0 ∨ j % 2 = 1 := by omega
  rcases hm with hm | hm
  · have e0 : j = j / 2 * 2 := by omega
    rw [← e0] at g1 c1
    rw [g1] at hu; rw [← hu]; exact c1
  · have e0 : j = j / 2 * 2 + 1 := by omega
    rw [← e0] at g2
    rw [Nat.add_assoc, ← e0] at c2
    rw [g2] at hu; rw [← hu]; exact c2
theorem cellsP_one (L : List PI) : ∀ u ∈ cellsP L, u.oneCell' = true := by
  intro u hu
  unfold cellsP at hu
  obtain ⟨x, _, hx⟩ := List.mem_flatMap.1 hu
  simp at hx
  rcases hx with rfl | rfl <;> rfl
theorem cellsP_append (A B : List PI) : cellsP (A ++ B) = cellsP A ++ cellsP B := by simp [cellsP]
theorem rdP_take {B : Nat} {w : World} {A : Option Addr} {L : List PI} (h : RdP B w A L) (k : Nat) : RdP B w A (L.take k) := fun j hj => by
  have hj' : j < L.length := by simp at hj; omega
  obtain ⟨b, o, e, hl, c1, c2⟩ := h j hj'
  have e1 : (L.take k)[j] = L[j] := by simp
  rw [e1]
  exact ⟨b, o, e, hl, c1, c2⟩
theorem rdP_drop {B : Nat} {w : World} {b o : Nat} {L : List PI} (h : RdP B w (some ⟨b, o, none⟩) L) (k : Nat) : RdP B w (some ⟨b, o + k * 2, none⟩) (L.drop k) := fun j hj => by
  have hj' : k + j < L.length := by simp at hj; omega
  obtain ⟨b', o', e, hl, c1, c2⟩ := h (k + j) hj'
  simp only [Option.some.injEq, Addr.mk.injEq] at e
  obtain ⟨rfl, rfl, _⟩ := e
  have e1 : (L.drop k)[j] = L[k + j] := by simp
  rw [e1]
  refine ⟨b, o + k * 2, rfl, hl, ?_, ?_⟩
  · rw [show o + k * 2 + j * 2 = o + (k + j) * 2 by omega]; exact c1
  · rw [show o + k * 2 + j * 2 + 1 = o + (k + j) * 2 + 1 by omega]; exact c2
theorem ownsCapP {w : World} {base : Nat} {e : TypeId} {z : Nat} {g : Nat} {n cap : Nat} {xs : List Value} (h : w.ownsRow base e z (.slice (some ⟨g, 0, none⟩) n cap) n xs) : n ≤ cap := by
  rcases h.2 with ⟨h1, _⟩ | ⟨_, _, _, h1, _, _, h2, _⟩
  · cases h1
  · cases h1; exact h2
theorem ownsUpP {w : World} {base base' n z : Nat} {e : TypeId} {v : Value} {xs : List Value} (h : w.ownsRow base e z v n xs) (hb : base' ≤ base) : w.ownsRow base' e z v n xs := by
  refine ⟨h.1, ?_⟩
  rcases h.2 with h1 | ⟨g, cap, cur, h1, h2, h3⟩
  · exact .inl h1
  · exact .inr ⟨g, cap, cur, h1, by omega, h3⟩

theorem rowForm {w : World} {base k z : Nat} {e : TypeId} {v : Value} {xs : List Value} (h : w.ownsRow base e z v (k + 1) xs) : ∃ g cap, v = .slice (some ⟨g, 0, none⟩) (k + 1) cap := by
  rcases h.2 with ⟨_, h0⟩ | ⟨g, cap, _, h1, _⟩
  · omega
  · exact ⟨g, cap, h1⟩
set_option maxHeartbeats 1000000 in
set_option maxRecDepth 100000 in
theorem l3Copy_some (b o c n : Nat) (L : List PI) (w : World) (hL : RdP w.heap.size w (some ⟨b, o, none⟩) L) (hn : L.length ≤ 1048576) (e : n = L.length) :
    Calls Tryz.prog 86 #[.slice (some ⟨b, o, none⟩) n c] w fun e w' => (∃ g cap, e = .returned (.slice (some ⟨g, 0, none⟩) n cap) ∧ w'.ownsRow w.heap.size 35 2 (.slice (some ⟨g, 0, none⟩) n cap) n (cellsP L)) ∧ Below w.heap.size w w' := by
  subst e
  have HL : Hid (RdP w.heap.size w (some ⟨b, o, none⟩) L) := hL
  clear hL
  obtain ⟨i0, hi, hz0, hz1, hz2⟩ := info_parts infoP
  go_enter Tryz.func86, Tryz.ntmps86
  have o1 : (w.alloc (.cells #[] 35)).ownsRow w.heap.size 35 2 (.slice (some ⟨w.heap.size, 0, none⟩) 0 0) 0 [] := World.ownsRow_lit w #[] 0 (Nat.le_refl _) (by unfold maxLen; omega) rfl
  have B1 : Below w.heap.size w (w.alloc (.cells #[] 35)) := (Below.refl _ _).alloc (Nat.le_refl _) _
  have z1 := B1.size
  go_wp2_with (at_builtin; refine wpList_append_own _ rfl _ _ 23 rfl w.heap.size 35 i0 (.agg #[.int .i64 0, .string ByteArray.empty]) 2 24 Tryz.underlying23 hi hz0 hz1 hz2 rfl (by decide) _ _ _ rfl o1 ⟨b, o, none⟩ L.length c (cellsP L) rfl (cellsP_length L) (rdP_cells (HL.out.below B1 (Nat.le_refl _))) (cellsP_one L) (by unfold maxLen; omega) (by omega) (by omega) ?_; intro v2 w2 o2 g2 hnil2; have HN2 : Hid (v2 ≠ .slice none 0 0) := (show v2 ≠ .slice none 0 0 from fun e => by have := (hnil2.1 e).1; cases this); clear hnil2; have B2' : Below w.heap.size w w2 := growOwn B1 z1 o1 g2 (Nat.le_refl _))
  go_ret
  have o3 : w2.ownsRow w.heap.size 35 2 v2 L.length (cellsP L) := by simpa only [Nat.zero_add, List.nil_append] using o2
  refine ⟨?_, B2'⟩
  rcases o3.2 with ⟨h1, _⟩ | ⟨g, cap, cur, h1, h3⟩
  · exact absurd h1 HN2.out
  · subst h1; exact ⟨g, cap, rfl, o3⟩
set_option maxHeartbeats 1000000 in
set_option maxRecDepth 100000 in
theorem l3Copy_nil (c : Nat) (w : World) :
    Calls Tryz.prog 86 #[.slice none 0 c] w fun e w' => (∃ g cap, e = .returned (.slice (some ⟨g, 0, none⟩) 0 cap) ∧ w'.ownsRow w.heap.size 35 2 (.slice (some ⟨g, 0, none⟩) 0 cap) 0 []) ∧ Below w.heap.size w w' := by
  have o1 : (w.alloc (.cells #[] 35)).ownsRow w.heap.size 35 2 (.slice (some ⟨w.heap.size, 0, none⟩) 0 0) 0 [] := World.ownsRow_lit w #[] 0 (Nat.le_refl _) (by unfold maxLen; omega) rfl
  have B1 : Below w.heap.size w (w.alloc (.cells #[] 35)) := (Below.refl _ _).alloc (Nat.le_refl _) _
  go_enter Tryz.func86, Tryz.ntmps86
  go_wp2_with (show Oper.upon Tryz.prog _ _ _ _ (Result.ok (Next.value (.slice (some ⟨w.heap.size, 0, none⟩) 0 0)) (w.alloc (.cells #[] 35))))
  go_ret
  exact ⟨⟨_, _, rfl, o1⟩, B1⟩

/-- what l3Put answers, and where its pool lies -/
def PutEnd (w w' : World) (R : List PI × Int × Int) (e : Ending) : Prop := (∃ v, e = .returned (.tuple #[v, .int .i64 R.2.1, .int .i64 R.2.2]) ∧ w'.ownsRow w.heap.size 35 2 v R.1.length (cellsP R.1)) ∧ Below w.heap.size w w'

set_option maxHeartbeats 4000000 in
set_option maxRecDepth 100000 in
theorem l3Put_some (g c : Nat) (L : List PI) (s : ByteArray) (w : World) (hL : RdP w.heap.size w (some ⟨g, 0, none⟩) L) (hr : RiseP L) (hn : L.length ≤ 700) (hc : L.length ≤ c) (hs : s.size ≤ 1048576) :
    Calls Tryz.prog 54 #[.slice (some ⟨g, 0, none⟩) L.length c, .string s] w fun e w' => PutEnd w w' (putPool L (idOfN s.data.toList) s) e := by
  have HL : Hid (RdP w.heap.size w (some ⟨g, 0, none⟩) L) := hL
  obtain ⟨n, hid⟩ : ∃ n, idOfN s.data.toList = n := ⟨_, rfl⟩
  have hidc := idS s n w hs hid
  have hatc := l3At_any (some ⟨g, 0, none⟩) c L (n : Int)
  obtain ⟨h0, h1, h2⟩ := plP_low L (n : Int) hr
  rw [hid]
  obtain ⟨k, hk⟩ : ∃ k, plP L (n : Int) = k := ⟨_, rfl⟩
  have hfp := findP_k L (n : Int) k hk hr
  rw [hk] at h0 h1 h2 hatc
  obtain ⟨i0, hi, hz0, hz1, hz2⟩ := info_parts infoP
  have hkc : k ≤ c := by omega
  clear hL hid hk hr
  by_cases hlt : k < L.length
  · obtain ⟨b', o', e', hbl, c1, c2⟩ := HL.out k hlt
    simp only [Option.some.injEq, Addr.mk.injEq] at e'
    obtain ⟨rfl, rfl, _⟩ := e'
    rw [dif_pos hlt] at hfp
    obtain ⟨x, hx⟩ : ∃ x, L[k] = x := ⟨_, rfl⟩
    rw [hx] at c1 c2 hfp
    obtain ⟨m, t⟩ := x
    simp only at c1 c2 hfp
    by_cases hm : m = (n : Int)
    · rw [if_pos hm] at hfp
      subst hm
      by_cases ht : t = s
      · subst ht
        have HR : Hid (putPool L (n : Int) t = (L, (n : Int), 2)) := (show putPool L (n : Int) t = _ by unfold putPool; rw [hfp]; simp)
        have hbe : (t.toList == t.toList) = true := by simp
        clear hfp h1 h2 hx
        go_enter Tryz.func54, Tryz.ntmps54
        go_wp2_with (first
          | (go_at_call 55; refine hidc.mono ?_; rintro e w1 ⟨rfl, hb1⟩; have hs1 := hb1.size; have HL1 : Hid (RdP w1.heap.size w1 (some ⟨g, 0, none⟩) L) := HL.out.up hb1; have d1 := (hb1.cell (p := ⟨g, 0 + k * 2, none⟩) hbl).trans c1; have d2 := (hb1.cell (p := ⟨g, 0 + k * 2 + 1, none⟩) hbl).trans c2; rw [Nat.zero_add] at d1 d2; clear hidc)
          | (go_at_call 85; refine (hatc w1 HL1.out (by omega)).mono ?_; rintro e w' ⟨rfl, rfl⟩; clear hatc)
          | (go_at_call 86; refine (l3Copy_some g 0 c L.length L w1 HL1.out (by omega) rfl).mono ?_; rintro e w2 ⟨⟨g2, c2', rfl, o2⟩, hb2⟩; have HO : Hid (w2.ownsRow w1.heap.size 35 2 (.slice (some ⟨g2, 0, none⟩) L.length c2') L.length (cellsP L)) := o2; clear o2))
        go_ret3
        have e9 := HR.out
        unfold PutEnd
        rw [e9]
        exact ⟨⟨_, rfl, ownsUpP HO.out hs1⟩, hb1.trans (hb2.mono hs1)⟩
      · have HR : Hid (putPool L (n : Int) s = (L, 0, 3)) := (show putPool L (n : Int) s = _ by unfold putPool; rw [hfp]; simp [ht])
        have hbe := bytes_ne ht
        clear hfp h1 h2 hx
        go_enter Tryz.func54, Tryz.ntmps54
        go_wp2_with (first
          | (go_at_call 55; refine hidc.mono ?_; rintro e w1 ⟨rfl, hb1⟩; have hs1 := hb1.size; have HL1 : Hid (RdP w1.heap.size w1 (some ⟨g, 0, none⟩) L) := HL.out.up hb1; have d1 := (hb1.cell (p := ⟨g, 0 + k * 2, none⟩) hbl).trans c1; have d2 := (hb1.cell (p := ⟨g, 0 + k * 2 + 1, none⟩) hbl).trans c2; rw [Nat.zero_add] at d1 d2; clear hidc)
          | (go_at_call 85; refine (hatc w1 HL1.out (by omega)).mono ?_; rintro e w' ⟨rfl, rfl⟩; clear hatc)
          | (go_at_call 86; refine (l3Copy_some g 0 c L.length L w1 HL1.out (by omega) rfl).mono ?_; rintro e w2 ⟨⟨g2, c2', rfl, o2⟩, hb2⟩; have HO : Hid (w2.ownsRow w1.heap.size 35 2 (.slice (some ⟨g2, 0, none⟩) L.length c2') L.length (cellsP L)) := o2; clear o2))
        go_ret3
        have e9 := HR.out
        unfold PutEnd
        rw [e9]
        exact ⟨⟨_, rfl, ownsUpP HO.out hs1⟩, hb1.trans (hb2.mono hs1)⟩
    · rw [if_neg hm] at hfp
      have hmb : (m == (n : Int)) = false := by simpa using hm
      by_cases h7 : L.length = 700
      · have HR : Hid (putPool L (n : Int) s = (L, 0, 3)) := (show putPool L (n : Int) s = _ by unfold putPool; rw [hfp]; simp [h7])
        have h7b : ((L.length : Int) == 700) = true := by simp; omega
        clear hfp h1 h2 hx h7
        go_enter Tryz.func54, Tryz.ntmps54
        go_wp2_with (first
          | (go_at_call 55; refine hidc.mono ?_; rintro e w1 ⟨rfl, hb1⟩; have hs1 := hb1.size; have HL1 : Hid (RdP w1.heap.size w1 (some ⟨g, 0, none⟩) L) := HL.out.up hb1; have d1 := (hb1.cell (p := ⟨g, 0 + k * 2, none⟩) hbl).trans c1; have d2 := (hb1.cell (p := ⟨g, 0 + k * 2 + 1, none⟩) hbl).trans c2; rw [Nat.zero_add] at d1 d2; clear hidc)
          | (go_at_call 85; refine (hatc w1 HL1.out (by omega)).mono ?_; rintro e w' ⟨rfl, rfl⟩; clear hatc)
          | (go_at_call 86; refine (l3Copy_some g 0 c L.length L w1 HL1.out (by omega) rfl).mono ?_; rintro e w2 ⟨⟨g2, c2', rfl, o2⟩, hb2⟩; have HO : Hid (w2.ownsRow w1.heap.size 35 2 (.slice (some ⟨g2, 0, none⟩) L.length c2') L.length (cellsP L)) := o2; clear o2))
        go_ret3
        have e9 := HR.out
        unfold PutEnd
        rw [e9]
        exact ⟨⟨_, rfl, ownsUpP HO.out hs1⟩, hb1.trans (hb2.mono hs1)⟩
      · have HR : Hid (putPool L (n : Int) s = (insP L ⟨n, s⟩, (n : Int), 1)) := (show putPool L (n : Int) s = _ by unfold putPool; rw [hfp]; simp [h7])
        have HI : Hid (insP L ⟨n, s⟩ = (L.take k ++ [⟨n, s⟩]) ++ L.drop k) := insP_at L ⟨n, s⟩ k h0 h1 (fun h => h2 k h (Nat.le_refl _))
        have h7b : ((L.length : Int) == 700) = false := by simp; omega
        have hck : ¬ ((c : Nat) : Int) = k := by omega
        have LT : Hid (k = (L.take k).length) := (show k = (L.take k).length by simp; omega)
        have LD : Hid (L.length - k = (L.drop k).length) := (show L.length - k = (L.drop k).length by simp)
        clear hfp h1 h2 hx h7
        go_enter Tryz.func54, Tryz.ntmps54
        go_wp2_with (first
          | (go_at_call 55; refine hidc.mono ?_; rintro e w1 ⟨rfl, hb1⟩; have hs1 := hb1.size; have HL1 : Hid (RdP w1.heap.size w1 (some ⟨g, 0, none⟩) L) := HL.out.up hb1; have d1 := (hb1.cell (p := ⟨g, 0 + k * 2, none⟩) hbl).trans c1; have d2 := (hb1.cell (p := ⟨g, 0 + k * 2 + 1, none⟩) hbl).trans c2; rw [Nat.zero_add] at d1 d2; clear hidc)
          | (go_at_call 85; refine (hatc w1 HL1.out (by omega)).mono ?_; rintro e w' ⟨rfl, rfl⟩; clear hatc)
          | (go_at_call 86; refine (l3Copy_some g 0 _ k (L.take k) w1 (rdP_take HL1.out k) (by have := LT.out; omega) LT.out).mono ?_; rintro e w2 ⟨⟨g2, c2', rfl, o2⟩, hb2⟩; have hs2 := hb2.size)
          | (at_builtin; refine wpList_append_own _ rfl _ _ 23 rfl w1.heap.size 35 i0 (.agg #[.int .i64 0, .string ByteArray.empty]) 2 24 Tryz.underlying23 hi hz0 hz1 hz2 rfl (by decide) (.slice (some ⟨g2, 0, none⟩) k c2') k (cellsP (L.take k)) rfl (o2.alloc _) ⟨w2.heap.size, 0, none⟩ 1 1 [.int .i64 (n : Int), .string s] rfl rfl (cells_new w2 #[.int .i64 (n : Int), .string s] 35) (by simp [Value.oneCell']) (by unfold maxLen; omega) (by omega) (by simp; omega) ?_; intro v6 w6 o6 gr6 _; have HB6 : Below w1.heap.size w1 w6 := growOwn (hb2.alloc hs2 _) (by simp; omega) (o2.alloc _) gr6 (Nat.le_refl _); obtain ⟨g6, cap6, rfl⟩ : ∃ g cap, v6 = .slice (some ⟨g, 0, none⟩) (k + 1) cap := rowForm o6; clear gr6 o2)
          | (at_builtin; refine wpList_append_own _ rfl _ _ 23 rfl w1.heap.size 35 i0 (.agg #[.int .i64 0, .string ByteArray.empty]) 2 24 Tryz.underlying23 hi hz0 hz1 hz2 rfl (by decide) (.slice (some ⟨g6, 0, none⟩) (k + 1) cap6) (k + 1) (cellsP (L.take k) ++ [.int .i64 (n : Int), .string s]) rfl o6 ⟨g, k * 2, none⟩ (L.length - k) (c - k) (cellsP (L.drop k)) rfl (by rw [cellsP_length]; have := LD.out; omega) (rdP_cells ((show RdP w1.heap.size w1 (some ⟨g, k * 2, none⟩) (L.drop k) from by have := rdP_drop HL1.out k; rwa [Nat.zero_add] at this).below HB6 (Nat.le_refl _))) (cellsP_one _) (by unfold maxLen; omega) (by omega) (by exact HB6.size) ?_; intro v7 w7 o7 gr7 _; have HB7 : Below w1.heap.size w1 w7 := growOwn HB6 HB6.size o6 gr7 (Nat.le_refl _)))
        go_ret3
        have e9 := HR.out
        have eC : cellsP (L.take k) ++ [.int .i64 (n : Int), .string s] ++ cellsP (L.drop k) = cellsP (insP L ⟨n, s⟩) := by rw [HI.out, cellsP_append, cellsP_append]; rfl
        have eL : (insP L ⟨(n : Int), s⟩).length = k + 1 + (L.length - k) := by rw [len_insP]; omega
        unfold PutEnd
        rw [e9]
        rw [eC] at o7
        exact ⟨⟨_, rfl, by rw [eL]; exact ownsUpP o7 hs1⟩, hb1.trans (HB7.mono hs1)⟩
  · rw [dif_neg hlt] at hfp
    by_cases h7 : L.length = 700
    · have HR : Hid (putPool L (n : Int) s = (L, 0, 3)) := (show putPool L (n : Int) s = _ by unfold putPool; rw [hfp]; simp [h7])
      have h7b : ((L.length : Int) == 700) = true := by simp; omega
      clear hfp h1 h2 h7
      go_enter Tryz.func54, Tryz.ntmps54
      go_wp2_with (first
        | (go_at_call 55; refine hidc.mono ?_; rintro e w1 ⟨rfl, hb1⟩; have hs1 := hb1.size; have HL1 : Hid (RdP w1.heap.size w1 (some ⟨g, 0, none⟩) L) := HL.out.up hb1; clear hidc)
        | (go_at_call 85; refine (hatc w1 HL1.out (by omega)).mono ?_; rintro e w' ⟨rfl, rfl⟩; clear hatc)
        | (go_at_call 86; refine (l3Copy_some g 0 c L.length L w1 HL1.out (by omega) rfl).mono ?_; rintro e w2 ⟨⟨g2, c2', rfl, o2⟩, hb2⟩; have HO : Hid (w2.ownsRow w1.heap.size 35 2 (.slice (some ⟨g2, 0, none⟩) L.length c2') L.length (cellsP L)) := o2; clear o2))
      go_ret3
      have e9 := HR.out
      unfold PutEnd
      rw [e9]
      exact ⟨⟨_, rfl, ownsUpP HO.out hs1⟩, hb1.trans (hb2.mono hs1)⟩
    · have HR : Hid (putPool L (n : Int) s = (insP L ⟨n, s⟩, (n : Int), 1)) := (show putPool L (n : Int) s = _ by unfold putPool; rw [hfp]; simp [h7])
      have HI : Hid (insP L ⟨n, s⟩ = (L.take k ++ [⟨n, s⟩]) ++ L.drop k) := insP_at L ⟨n, s⟩ k h0 h1 (fun h => absurd h hlt)
      have h7b : ((L.length : Int) == 700) = false := by simp; omega
      have LT : Hid (k = (L.take k).length) := (show k = (L.take k).length by simp; omega)
      have LD : Hid (L.length - k = (L.drop k).length) := (show L.length - k = (L.drop k).length by simp)
      have HKL : Hid (k = L.length) := (show k = L.length by omega)
      by_cases hck0 : c = k
      · have hck1 : k = c := hck0.symm
        subst hck1
        clear hfp h1 h2 h7 hck0
        go_enter Tryz.func54, Tryz.ntmps54
        go_wp2_with (first
          | (go_at_call 55; refine hidc.mono ?_; rintro e w1 ⟨rfl, hb1⟩; have hs1 := hb1.size; have HL1 : Hid (RdP w1.heap.size w1 (some ⟨g, 0, none⟩) L) := HL.out.up hb1; clear hidc)
          | (go_at_call 85; refine (hatc w1 HL1.out (by omega)).mono ?_; rintro e w' ⟨rfl, rfl⟩; clear hatc)
          | (go_at_call 86; refine (l3Copy_some g 0 _ k (L.take k) w1 (rdP_take HL1.out k) (by have := LT.out; omega) LT.out).mono ?_; rintro e w2 ⟨⟨g2, c2', rfl, o2⟩, hb2⟩; have hs2 := hb2.size)
          | (at_builtin; refine wpList_append_own _ rfl _ _ 23 rfl w1.heap.size 35 i0 (.agg #[.int .i64 0, .string ByteArray.empty]) 2 24 Tryz.underlying23 hi hz0 hz1 hz2 rfl (by decide) (.slice (some ⟨g2, 0, none⟩) k c2') k (cellsP (L.take k)) rfl (o2.alloc _) ⟨w2.heap.size, 0, none⟩ 1 1 [.int .i64 (n : Int), .string s] rfl rfl (cells_new w2 #[.int .i64 (n : Int), .string s] 35) (by simp [Value.oneCell']) (by unfold maxLen; omega) (by omega) (by simp; omega) ?_; intro v6 w6 o6 gr6 _; have HB6 : Below w1.heap.size w1 w6 := growOwn (hb2.alloc hs2 _) (by simp; omega) (o2.alloc _) gr6 (Nat.le_refl _); obtain ⟨g6, cap6, rfl⟩ : ∃ g cap, v6 = .slice (some ⟨g, 0, none⟩) (k + 1) cap := rowForm o6; clear gr6 o2)
          | (at_builtin; refine wpList_append_own _ rfl _ _ 23 rfl w1.heap.size 35 i0 (.agg #[.int .i64 0, .string ByteArray.empty]) 2 24 Tryz.underlying23 hi hz0 hz1 hz2 rfl (by decide) (.slice (some ⟨g6, 0, none⟩) (k + 1) cap6) (k + 1) (cellsP (L.take k) ++ [.int .i64 (n : Int), .string s]) rfl o6 ⟨g, 0, none⟩ 0 0 (cellsP (L.drop k)) rfl (by rw [cellsP_length]; have := LD.out; have := HKL.out; omega) (rdP_cells ((show RdP w1.heap.size w1 (some ⟨g, 0, none⟩) (L.drop k) from fun j hj => by have := LD.out; have := HKL.out; omega).below HB6 (Nat.le_refl _))) (cellsP_one _) (by unfold maxLen; omega) (by omega) (by exact HB6.size) ?_; intro v7 w7 o7 gr7 _; have HB7 : Below w1.heap.size w1 w7 := growOwn HB6 HB6.size o6 gr7 (Nat.le_refl _)))
        go_ret3
        have e9 := HR.out
        have eC : cellsP (L.take k) ++ [.int .i64 (n : Int), .string s] ++ cellsP (L.drop k) = cellsP (insP L ⟨n, s⟩) := by rw [HI.out, cellsP_append, cellsP_append]; rfl
        have eL : (insP L ⟨(n : Int), s⟩).length = k + 1 + 0 := by have := HKL.out; rw [len_insP]; omega
        unfold PutEnd
        rw [e9]
        rw [eC] at o7
        exact ⟨⟨_, rfl, by rw [eL]; exact ownsUpP o7 hs1⟩, hb1.trans (HB7.mono hs1)⟩
      · have hck : ¬ ((c : Nat) : Int) = k := by omega
        clear hfp h1 h2 h7 hck0
        go_enter Tryz.func54, Tryz.ntmps54
        go_wp2_with (first
          | (go_at_call 55; refine hidc.mono ?_; rintro e w1 ⟨rfl, hb1⟩; have hs1 := hb1.size; have HL1 : Hid (RdP w1.heap.size w1 (some ⟨g, 0, none⟩) L) := HL.out.up hb1; clear hidc)
          | (go_at_call 85; refine (hatc w1 HL1.out (by omega)).mono ?_; rintro e w' ⟨rfl, rfl⟩; clear hatc)
          | (go_at_call 86; refine (l3Copy_some g 0 _ k (L.take k) w1 (rdP_take HL1.out k) (by have := LT.out; omega) LT.out).mono ?_; rintro e w2 ⟨⟨g2, c2', rfl, o2⟩, hb2⟩; have hs2 := hb2.size)
          | (at_builtin; refine wpList_append_own _ rfl _ _ 23 rfl w1.heap.size 35 i0 (.agg #[.int .i64 0, .string ByteArray.empty]) 2 24 Tryz.underlying23 hi hz0 hz1 hz2 rfl (by decide) (.slice (some ⟨g2, 0, none⟩) k c2') k (cellsP (L.take k)) rfl (o2.alloc _) ⟨w2.heap.size, 0, none⟩ 1 1 [.int .i64 (n : Int), .string s] rfl rfl (cells_new w2 #[.int .i64 (n : Int), .string s] 35) (by simp [Value.oneCell']) (by unfold maxLen; omega) (by omega) (by simp; omega) ?_; intro v6 w6 o6 gr6 _; have HB6 : Below w1.heap.size w1 w6 := growOwn (hb2.alloc hs2 _) (by simp; omega) (o2.alloc _) gr6 (Nat.le_refl _); obtain ⟨g6, cap6, rfl⟩ : ∃ g cap, v6 = .slice (some ⟨g, 0, none⟩) (k + 1) cap := rowForm o6; clear gr6 o2)
          | (at_builtin; refine wpList_append_own _ rfl _ _ 23 rfl w1.heap.size 35 i0 (.agg #[.int .i64 0, .string ByteArray.empty]) 2 24 Tryz.underlying23 hi hz0 hz1 hz2 rfl (by decide) (.slice (some ⟨g6, 0, none⟩) (k + 1) cap6) (k + 1) (cellsP (L.take k) ++ [.int .i64 (n : Int), .string s]) rfl o6 ⟨g, k * 2, none⟩ (L.length - k) (c - k) (cellsP (L.drop k)) rfl (by rw [cellsP_length]; have := LD.out; omega) (rdP_cells ((show RdP w1.heap.size w1 (some ⟨g, k * 2, none⟩) (L.drop k) from by have := rdP_drop HL1.out k; rwa [Nat.zero_add] at this).below HB6 (Nat.le_refl _))) (cellsP_one _) (by unfold maxLen; omega) (by omega) (by exact HB6.size) ?_; intro v7 w7 o7 gr7 _; have HB7 : Below w1.heap.size w1 w7 := growOwn HB6 HB6.size o6 gr7 (Nat.le_refl _)))
        go_ret3
        have e9 := HR.out
        have eC : cellsP (L.take k) ++ [.int .i64 (n : Int), .string s] ++ cellsP (L.drop k) = cellsP (insP L ⟨n, s⟩) := by rw [HI.out, cellsP_append, cellsP_append]; rfl
        have eL : (insP L ⟨(n : Int), s⟩).length = k + 1 + (L.length - k) := by have := HKL.out; rw [len_insP]; omega
        unfold PutEnd
        rw [e9]
        rw [eC] at o7
        exact ⟨⟨_, rfl, by rw [eL]; exact ownsUpP o7 hs1⟩, hb1.trans (HB7.mono hs1)⟩

set_option maxHeartbeats 4000000 in
set_option maxRecDepth 100000 in
theorem l3Put_nil (s : ByteArray) (w : World) (hs : s.size ≤ 1048576) :
    Calls Tryz.prog 54 #[.slice none 0 0, .string s] w fun e w' => PutEnd w w' (putPool [] (idOfN s.data.toList) s) e := by
  obtain ⟨n, hid⟩ : ∃ n, idOfN s.data.toList = n := ⟨_, rfl⟩
  have hidc := idS s n w hs hid
  have hatc := fun w => l3At_any none 0 [] (n : Int) w (fun j hj => by simp at hj) (by simp)
  have hk : plP [] (n : Int) = 0 := rfl
  rw [hk] at hatc
  rw [hid]
  have HR : Hid (putPool [] (n : Int) s = ([⟨n, s⟩], (n : Int), 1)) := (show putPool [] (n : Int) s = _ from rfl)
  obtain ⟨i0, hi, hz0, hz1, hz2⟩ := info_parts infoP
  clear hid hk
  go_enter Tryz.func54, Tryz.ntmps54
  go_wp2_with (first
    | (go_at_call 55; refine hidc.mono ?_; rintro e w1 ⟨rfl, hb1⟩; have hs1 := hb1.size; clear hidc)
    | (go_at_call 85; refine (hatc w1).mono ?_; rintro e w' ⟨rfl, rfl⟩; clear hatc)
    | (go_at_call 86; refine (l3Copy_nil _ w1).mono ?_; rintro e w2 ⟨⟨g2, c2', rfl, o2⟩, hb2⟩; have hs2 := hb2.size)
    | (at_builtin; refine wpList_append_own _ rfl _ _ 23 rfl w1.heap.size 35 i0 (.agg #[.int .i64 0, .string ByteArray.empty]) 2 24 Tryz.underlying23 hi hz0 hz1 hz2 rfl (by decide) (.slice (some ⟨g2, 0, none⟩) 0 c2') 0 [] rfl (o2.alloc _) ⟨w2.heap.size, 0, none⟩ 1 1 [.int .i64 (n : Int), .string s] rfl rfl (cells_new w2 #[.int .i64 (n : Int), .string s] 35) (by simp [Value.oneCell']) (by unfold maxLen; omega) (by omega) (by simp; omega) ?_; intro v6 w6 o6 gr6 _; have HB6 : Below w1.heap.size w1 w6 := growOwn (hb2.alloc hs2 _) (by simp; omega) (o2.alloc _) gr6 (Nat.le_refl _); obtain ⟨g6, cap6, rfl⟩ : ∃ g cap, v6 = .slice (some ⟨g, 0, none⟩) (0 + 1) cap := rowForm o6; have hcap : 1 ≤ cap6 := ownsCapP o6; clear gr6 o2))
  go_ret3
  have e9 := HR.out
  unfold PutEnd
  rw [e9]
  have o7 : w6.ownsRow w1.heap.size 35 2 (.slice (some ⟨g6, 0, none⟩) 1 cap6) 1 (cellsP [⟨(n : Int), s⟩]) := o6
  exact ⟨⟨_, rfl, ownsUpP o7 hs1⟩, hb1.trans (HB6.mono hs1)⟩

/-- what PolPut answers, and where its pool lies -/
theorem polPut_spec {b0 : Nat} {e0 : TypeId} (v : Value) (L : List PI) (s : ByteArray) (w : World) (h : w.ownsRow b0 e0 2 v L.length (cellsP L)) (hn : L.length ≤ 1048576) (ht : ∀ j (h : j < L.length), (L[j]).tx.size ≤ 1048576) (hs : s.size ≤ 1048576) :
    Calls Tryz.prog 11 #[v, .string s] w fun e w' => PutEnd w w' (putR L s) e := by
  obtain ⟨A, c, rfl, hR⟩ := rdP_of_own h
  have hok := polOk_spec A c L w hR hn ht
  have HO : Hid (w.ownsRow b0 e0 2 (.slice A L.length c) L.length (cellsP L)) := h
  clear hR h ht
  by_cases hk : okP L = true
  case neg =>
    have HD : Hid (putR L s = ([], 0, 4)) := (show putR L s = _ by unfold putR; rw [if_neg (fun h => hk h.1)])
    have hk' : okP L = false := by simpa using hk
    rw [hk'] at hok
    clear hk hk'
    go_enter Tryz.func11, Tryz.ntmps11
    go_wp2_with (go_at_call 13; refine hok.mono ?_; rintro e w1 ⟨rfl, hb1⟩; clear hok)
    go_ret3
    have e9 := HD.out
    unfold PutEnd
    rw [e9]
    exact ⟨⟨_, rfl, World.ownsRow_lit w1 #[] 0 hb1.size (by unfold maxLen; omega) rfl⟩, hb1.alloc hb1.size _⟩
  case pos =>
    obtain ⟨hr, h7, _⟩ := okP_rise L hk
    have HR : Hid (RiseP L) := hr
    have HOK : Hid (okP L = true) := hk
    rw [hk] at hok
    obtain ⟨m, hm⟩ : ∃ m, kd s = m := ⟨_, rfl⟩
    have hkd := fun w => kdS s m w hs hm
    by_cases hm0 : m = 0
    · have HD : Hid (putR L s = ([], 0, 4)) := (show putR L s = _ by unfold putR; rw [if_neg (fun h => h.2 (hm.trans hm0))])
      subst hm0
      clear hk hr hm
      go_enter Tryz.func11, Tryz.ntmps11
      go_wp2_with (first
        | (go_at_call 13; refine hok.mono ?_; rintro e w1 ⟨rfl, hb1⟩; clear hok)
        | (go_at_call 14; refine (hkd w1).mono ?_; rintro e w2 ⟨rfl, hb2⟩; clear hkd))
      go_ret3
      have e9 := HD.out
      have hb3 := hb1.trans (hb2.mono hb1.size)
      unfold PutEnd
      rw [e9]
      exact ⟨⟨_, rfl, World.ownsRow_lit w2 #[] 0 hb3.size (by unfold maxLen; omega) rfl⟩, hb3.alloc hb3.size _⟩
    · have HD : Hid (putR L s = putPool L (idOfN s.data.toList) s) := (show putR L s = _ by unfold putR; rw [if_pos ⟨hk, fun e => hm0 (hm.symm.trans e)⟩])
      have hmb : (((m : Nat) : Int) == 0) = false := by simp; omega
      clear hk hr hm
      have hput : ∀ W, Below w.heap.size w W → Calls Tryz.prog 54 #[.slice A L.length c, .string s] W fun e w' => PutEnd W w' (putPool L (idOfN s.data.toList) s) e := fun W hW => by
        have ho := ownsUnder HO.out hW (Nat.le_refl _)
        obtain ⟨A2, c2, e2, hR2⟩ := rdP_of_own ho
        rcases ho.2 with ⟨h1, h2⟩ | ⟨g, cap, cur, h1, _, _, h3, _⟩
        · have hl : L = [] := List.length_eq_zero_iff.1 h2
          subst hl
          rw [h1]
          exact l3Put_nil s W hs
        · cases h1; cases e2
          exact l3Put_some g _ L s W hR2 HR.out h7 h3 hs
      go_enter Tryz.func11, Tryz.ntmps11
      go_wp2_with (first
        | (go_at_call 13; refine hok.mono ?_; rintro e w1 ⟨rfl, hb1⟩; clear hok)
        | (go_at_call 14; refine (hkd w1).mono ?_; rintro e w2 ⟨rfl, hb2⟩; clear hkd; have hb3 := hb1.trans (hb2.mono hb1.size))
        | (go_at_call 54; refine (hput w2 hb3).mono ?_; rintro e w4 ⟨⟨v4, rfl, o4⟩, hb4⟩; clear hput))
      go_ret3
      have e9 := HD.out
      unfold PutEnd
      rw [e9]
      exact ⟨⟨_, rfl, ownsUpP o4 hb3.size⟩, hb3.trans (hb4.mono hb3.size)⟩
end Go.Proofs.YthfffpdkmoclbaaGreatDoor.W
namespace Go.Proofs.YthfffpdkmoclbaaGreatDoor.W
open Go.RowKit

def cellsI (L : List Int) : List Value := L.map fun x => .int .i64 x
theorem cellsI_get (L : List Int) (j : Nat) (h : j < L.length) : (cellsI L)[j]? = some (.int .i64 L[j]) := by simp [cellsI, h]
def RdI (B : Nat) (w : World) (A : Option Addr) (L : List Int) : Prop :=
  ∀ j (h : j < L.length), ∃ b o, A = some ⟨b, o, none⟩ ∧ b < B ∧ w.cell? ⟨b, o + j, none⟩ = some (.int .i64 (L[j]))
theorem RdI.below {B B' : Nat} {w w' : World} {A : Option Addr} {L : List Int} (h : RdI B w A L) (hb : Below B' w w') (hB : B ≤ B') : RdI B w' A L := fun j hj => by
  obtain ⟨b, o, e, hl, c1⟩ := h j hj
  exact ⟨b, o, e, hl, (hb.cell (p := ⟨b, _, none⟩) (by show b < B'; omega)).trans c1⟩
theorem RdI.mono {B B' : Nat} {w : World} {A : Option Addr} {L : List Int} (h : RdI B w A L) (hB : B ≤ B') : RdI B' w A L := fun j hj => by
  obtain ⟨b, o, e, hl, c⟩ := h j hj
  exact ⟨b, o, e, by omega, c⟩
theorem RdI.up {w w' : World} {A : Option Addr} {L : List Int} (h : RdI w.heap.size w A L) (hb : Below w.heap.size w w') : RdI w'.heap.size w' A L := (h.below hb (Nat.le_refl _)).mono hb.size
theorem rdI_of_own {w : World} {base : Nat} {e : TypeId} {v : Value} {L : List Int} (h : w.ownsRow base e 1 v L.length (cellsI L)) : ∃ A c, v = .slice A L.length c ∧ RdI w.heap.size w A L := by
  have hl := h.lt
  rcases h.2 with ⟨rfl, hn⟩ | ⟨g, cap, cur, rfl, _⟩
  · exact ⟨none, 0, by rw [hn], fun j hj => by omega⟩
  · refine ⟨some ⟨g, 0, none⟩, cap, rfl, fun j hj => ⟨g, 0, rfl, (hl g rfl).2, ?_⟩⟩
    rw [Nat.zero_add, h.cellAt j (by omega)]; exact cellsI_get L j hj

set_option maxHeartbeats 1000000 in
theorem eqIS_same (A A' : Option Addr) (c c' : Nat) (L : List Int) (w : World) (h1 : RdI w.heap.size w A L) (h2 : RdI w.heap.size w A' L) (hn : L.length ≤ 1048576) :
    Calls Tryz.prog 42 #[.slice A L.length c, .slice A' L.length c'] w fun e w' => e = .returned (.bool true) ∧ Below w.heap.size w w' := by
  have H1 : Hid (RdI w.heap.size w A L) := h1
  have H2 : Hid (RdI w.heap.size w A' L) := h2
  clear h1 h2
  go_enter Tryz.func42, Tryz.ntmps42
  go_wp2
  go_loopw [5] (fun iv wr => ∃ j : Nat, j ≤ L.length ∧ iv = .int .i64 j ∧ Below w.heap.size w wr) (fun i _ => L.length - (intOf i).toNat)
  case atStart => exact ⟨0, Nat.zero_le _, rfl, Below.refl _ _⟩
  case round =>
    obtain ⟨j, hj, rfl, hb⟩ := hrel
    have hsz := hb.size
    by_cases hlt : j < L.length
    · obtain ⟨b, o, rfl, hbl, c1⟩ := (H1.out.below hb (Nat.le_refl _)) j hlt
      obtain ⟨b', o', rfl, hbl', c1'⟩ := (H2.out.below hb (Nat.le_refl _)) j hlt
      generalize (L[j]) = i at *
      go_wp2
      go_quiet (fail)
      go_wp2
      go_roundw
      case rel => exact ⟨j + 1, by omega, by go_num, ⟨hb.os, hb.tape, hb.output, hb.size, hb.block⟩⟩
      case measure => simp [intOf]; omega
    · go_wp2
      go_ret
      exact ⟨rfl, hb⟩
theorem eqI_own {b b' : Nat} {e e' : TypeId} (v v' : Value) (L : List Int) (w : World) (h1 : w.ownsRow b e 1 v L.length (cellsI L)) (h2 : w.ownsRow b' e' 1 v' L.length (cellsI L)) (hn : L.length ≤ 1048576) :
    Calls Tryz.prog 42 #[v, v'] w fun e w' => e = .returned (.bool true) ∧ Below w.heap.size w w' := by
  obtain ⟨A, c, rfl, r1⟩ := rdI_of_own h1
  obtain ⟨A', c', rfl, r2⟩ := rdI_of_own h2
  exact eqIS_same A A' c c' L w r1 r2 hn

/-- numbers that rise by one, from k on -/
def mkI (k n : Nat) : List Int := (List.range n).map fun j => ((k + j : Nat) : Int)
theorem mkI_length (k n : Nat) : (mkI k n).length = n := by simp [mkI]
def markedI (L : List Int) (k j : Nat) : List Int := mkI k j ++ L.drop j
theorem markedI_zero (L : List Int) (k : Nat) : markedI L k 0 = L := by simp [markedI, mkI]
theorem markedI_all (L : List Int) (k : Nat) : markedI L k L.length = mkI k L.length := by simp [markedI]
theorem markedI_step (L : List Int) (k j : Nat) (h : j < L.length) : (markedI L k j).set j ((k + j : Nat) : Int) = markedI L k (j + 1) := by
  unfold markedI
  rw [List.set_append_right _ _ (by rw [mkI_length]; omega), mkI_length, Nat.sub_self, List.drop_eq_getElem_cons h, List.set_cons_zero]
  have e : mkI k (j + 1) = mkI k j ++ [((k + j : Nat) : Int)] := by
    unfold mkI; rw [List.range_succ, List.map_append]; rfl
  rw [e]; simp
theorem mkI_get (k n j : Nat) (h : j < (mkI k n).length) : (mkI k n)[j] = ((k + j : Nat) : Int) := by simp [mkI]
theorem grownBy_trans {w w' w'' : World} {r : Option Nat} (h : w.grownBy w' r) (k : w'.grownBy w'' r) : w.grownBy w'' r :=
  ⟨k.os.trans h.os, k.tape.trans h.tape, k.output.trans h.output, Nat.le_trans h.size k.size, fun i hi hn => (k.block i (Nat.lt_of_lt_of_le hi h.size) hn).trans (h.block i hi hn)⟩
theorem grownBy_set (w : World) (g j : Nat) (u : Value) : w.grownBy (w.setCell ⟨g, j, none⟩ u) (some g) :=
  ⟨rfl, rfl, rfl, by simp [World.setCell], fun k _ hn => Below.heap_setCell _ _ _ _ (fun e => hn (by rw [e]))⟩

set_option maxHeartbeats 1000000 in
theorem markIS_any (base g cap k : Nat) (L : List Int) (w : World) (hown : w.ownsRow base 3 1 (.slice (some ⟨g, 0, none⟩) L.length cap) L.length (cellsI L)) (h2 : k + L.length ≤ 10000000) :
    Calls Tryz.prog 45 #[.slice (some ⟨g, 0, none⟩) L.length cap, .int .i64 k] w fun e w' => e = .returned (.int .i64 ((k + L.length : Nat) : Int)) ∧ w'.ownsRow base 3 1 (.slice (some ⟨g, 0, none⟩) L.length cap) L.length (cellsI (mkI k L.length)) ∧ w.grownBy w' (some g) := by
  go_enter Tryz.func45, Tryz.ntmps45
  go_wp2
  go_loopw [1, 5] (fun kk i wr => ∃ j : Nat, j ≤ L.length ∧ i = .int .i64 j ∧ kk = .int .i64 ((k + j : Nat) : Int) ∧ wr.ownsRow base 3 1 (.slice (some ⟨g, 0, none⟩) L.length cap) L.length (cellsI (markedI L k j)) ∧ w.grownBy wr (some g)) (fun _ i _ => L.length - (intOf i).toNat)
  case atStart => exact ⟨0, Nat.zero_le _, rfl, rfl, by rw [markedI_zero]; exact hown, World.grownBy.refl _ _⟩
  case round =>
    obtain ⟨j, hj, rfl, rfl, hrow, hb⟩ := hrel
    by_cases hlt : j < L.length
    · obtain ⟨u1, hu1⟩ := ownsCell hrow j (by omega)
      have hf1 := hrow.frozenAt j
      have HR : Hid (wr.ownsRow base 3 1 (.slice (some ⟨g, 0, none⟩) L.length cap) L.length (cellsI (markedI L k j))) := hrow
      have HB : Hid (w.grownBy wr (some g)) := hb
      clear hrow hb
      go_wp2
      go_roundw
      case rel =>
        have hst := (HR.out.stored j (.int .i64 ((k + j : Nat) : Int))).1
        have est : (cellsI (markedI L k j)).set j (.int .i64 ((k + j : Nat) : Int)) = cellsI (markedI L k (j + 1)) := by
          rw [← markedI_step L k j hlt]; simp [cellsI, List.map_set]
        rw [est] at hst
        exact ⟨j + 1, by omega, by go_num, by go_num, hst, grownBy_trans HB.out (grownBy_set wr g j _)⟩
      case measure => simp [intOf]; omega
    · go_wp2
      go_ret
      obtain rfl : j = L.length := by omega
      rw [markedI_all] at hrow
      exact ⟨rfl, hrow, hb⟩
set_option maxHeartbeats 400000 in
theorem markIS_nil (k : Nat) (w : World) :
    Calls Tryz.prog 45 #[.slice none 0 0, .int .i64 k] w fun e w' => e = .returned (.int .i64 k) ∧ w = w' := by
  go_enter Tryz.func45, Tryz.ntmps45
  go_wp2
  refine wp_loop_rounds 1 ?_
  rw [rounds_succ]
  go_wp2
  go_ret
  exact ⟨rfl, rfl⟩
theorem markI_own {b : Nat} (v : Value) (L : List Int) (w : World) (h : w.ownsRow b 3 1 v L.length (cellsI L)) (hn : L.length ≤ 1048576) :
    Calls Tryz.prog 45 #[v, .int .i64 1] w fun e w' => e = .returned (.int .i64 ((1 + L.length : Nat) : Int)) ∧ w'.ownsRow b 3 1 v L.length (cellsI (mkI 1 L.length)) ∧ w.grownBy w' v.ownBlock := by
  rcases h.2 with ⟨rfl, hn0⟩ | ⟨g, cap, cur, rfl, _⟩
  · refine (markIS_nil 1 w).mono ?_
    rintro e w' ⟨rfl, rfl⟩
    rw [hn0]
    exact ⟨rfl, World.ownsRow_nil _ _ _ _, World.grownBy.refl _ _⟩
  · refine (markIS_any b g cap 1 L w h (by omega)).mono ?_
    rintro e w' ⟨rfl, h2, h3⟩
    exact ⟨rfl, h2, h3⟩

set_option maxHeartbeats 1000000 in
theorem heldIS_any (A : Option Addr) (c k n : Nat) (w : World) (hR : RdI w.heap.size w A (mkI k n)) (h2 : k + n ≤ 10000000) :
    Calls Tryz.prog 46 #[.slice A n c, .int .i64 k] w fun e w' => e = .returned (.int .i64 ((k + n : Nat) : Int)) ∧ Below w.heap.size w w' := by
  have HR : Hid (RdI w.heap.size w A (mkI k n)) := hR
  clear hR
  go_enter Tryz.func46, Tryz.ntmps46
  go_wp2
  go_loopw [1, 5] (fun kk i wr => ∃ j : Nat, j ≤ n ∧ i = .int .i64 j ∧ kk = .int .i64 ((k + j : Nat) : Int) ∧ Below w.heap.size w wr) (fun _ i _ => n - (intOf i).toNat)
  case atStart => exact ⟨0, Nat.zero_le _, rfl, rfl, Below.refl _ _⟩
  case round =>
    obtain ⟨j, hj, rfl, rfl, hb⟩ := hrel
    by_cases hlt : j < n
    · obtain ⟨b, o, rfl, hbl, c1⟩ := (HR.out.below hb (Nat.le_refl _)) j (by rw [mkI_length]; exact hlt)
      rw [mkI_get] at c1
      go_wp2
      go_roundw
      case rel => exact ⟨j + 1, by omega, by go_num, by go_num, hb⟩
      case measure => simp [intOf]; omega
    · go_wp2
      go_ret
      obtain rfl : j = n := by omega
      exact ⟨rfl, hb⟩
theorem heldI_own {b : Nat} {e : TypeId} (v : Value) (n : Nat) (w : World) (h : w.ownsRow b e 1 v n (cellsI (mkI 1 n))) (hn : n ≤ 1048576) :
    Calls Tryz.prog 46 #[v, .int .i64 1] w fun e w' => e = .returned (.int .i64 ((1 + n : Nat) : Int)) ∧ Below w.heap.size w w' := by
  have h' : w.ownsRow b e 1 v (mkI 1 n).length (cellsI (mkI 1 n)) := by rw [mkI_length]; exact h
  obtain ⟨A, c, rfl, r1⟩ := rdI_of_own h'
  rw [mkI_length]
  exact heldIS_any A c 1 n w r1 (by omega)
end Go.Proofs.YthfffpdkmoclbaaGreatDoor.W
namespace Go.Proofs.YthfffpdkmoclbaaGreatDoor.W
open Go.RowKit

def idsP (L : List PI) : List Int := L.map fun x => x.id
theorem idsP_take (L : List PI) (j : Nat) (h : j < L.length) : idsP (L.take (j + 1)) = idsP (L.take j) ++ [(L[j]).id] := by
  unfold idsP
  rw [List.take_succ_eq_append_getElem h, List.map_append]; rfl
theorem infoI : (Tryz.prog.info? 3).map (fun i => (i.zero, i.size, i.bytes)) = some (some (.int .i64 0), 1, 8) := by kernel_rfl

set_option maxHeartbeats 1000000 in
theorem polIds_spec (A : Option Addr) (c : Nat) (L : List PI) (w : World) (hL : RdP w.heap.size w A L) (hn : L.length ≤ 1048576) :
    Calls Tryz.prog 24 #[.slice A L.length c] w fun e w' => (∃ v, e = .returned v ∧ w'.ownsRow w.heap.size 3 1 v (idsP L).length (cellsI (idsP L))) ∧ Below w.heap.size w w' := by
  have HL : Hid (RdP w.heap.size w A L) := hL
  clear hL
  obtain ⟨i0, hi, hz0, hz1, hz2⟩ := info_parts infoI
  go_enter Tryz.func24, Tryz.ntmps24
  go_wp2
  go_loopw [3, 4] (fun v iv wr => ∃ (j : Nat) (M : List Int), j ≤ L.length ∧ iv = .int .i64 j ∧ Hid (M = idsP (L.take j)) ∧ M.length ≤ j ∧ wr.ownsRow w.heap.size 3 1 v M.length (cellsI M) ∧ Below w.heap.size w wr) (fun _ i _ => L.length - (intOf i).toNat)
  case atStart => exact ⟨0, [], Nat.zero_le _, rfl, rfl, Nat.le_refl _, World.ownsRow_lit w #[] 0 (Nat.le_refl _) (by unfold maxLen; omega) rfl, (Below.refl _ _).alloc (Nat.le_refl _) _⟩
  case round =>
    obtain ⟨j, M, hj, rfl, HM, hm, hown, hb⟩ := hrel
    have hsz := hb.size
    by_cases hlt : j < L.length
    · obtain ⟨b, o, rfl, hbl, c1, c2⟩ := (HL.out.below hb (Nat.le_refl _)) j hlt
      have est := idsP_take L j hlt
      rw [← HM.out] at est
      have HE : Hid (M ++ [(L[j]).id] = idsP (L.take (j + 1))) := est.symm
      generalize (L[j]).id = i at *
      generalize (L[j]).tx = t at *
      clear est HM
      go_wp2_with (at_builtin; refine wpList_append_own _ rfl _ _ 41 rfl w.heap.size 3 i0 (.int .i64 0) 1 8 Tryz.underlying41 hi hz0 hz1 hz2 rfl (by decide) _ _ _ rfl (hown.alloc _) ⟨wr.heap.size, 0, none⟩ 1 1 [.int .i64 i] rfl rfl (cells_new _ #[.int .i64 i] _) (fun u hu => by simp at hu; subst hu; rfl) (by unfold maxLen; omega) (by omega) (by simp; omega) ?_; intro v' w3 hown' hgrow3 hnil3)
      go_roundw
      case rel =>
        refine ⟨j + 1, M ++ [i], by omega, by go_num, HE, by simp; omega, ?_, ?_⟩
        · rw [List.length_append, show cellsI (M ++ [i]) = cellsI M ++ [.int .i64 i] by simp [cellsI]]; exact hown'
        · exact growOwn (hb.alloc (by omega) _) (by simp; omega) (hown.alloc _) hgrow3 (Nat.le_refl _)
      case measure => simp [intOf]; omega
    · go_wp2
      go_ret
      obtain rfl : j = L.length := by omega
      have e := HM.out
      rw [List.take_length] at e
      rw [e] at hown
      exact ⟨⟨_, rfl, hown⟩, hb⟩

set_option maxHeartbeats 1000000 in
theorem polIds_impl (A : Option Addr) (c : Nat) (L : List PI) (w : World) (hL : RdP w.heap.size w A L) (hn : L.length ≤ 1048576) :
    Calls Tryz.prog 23 #[.slice A L.length c] w fun e w' => (∃ v, e = .returned v ∧ w'.ownsRow w.heap.size 3 1 v (idsP L).length (cellsI (idsP L))) ∧ Below w.heap.size w w' := by
  have HL : Hid (RdP w.heap.size w A L) := hL
  clear hL
  obtain ⟨i0, hi, hz0, hz1, hz2⟩ := info_parts infoI
  go_enter Tryz.func23, Tryz.ntmps23
  go_wp2
  go_loopw [3, 8] (fun v iv wr => ∃ (j : Nat) (M : List Int), j ≤ L.length ∧ iv = .int .i64 j ∧ Hid (M = idsP (L.take j)) ∧ M.length ≤ j ∧ wr.ownsRow w.heap.size 3 1 v M.length (cellsI M) ∧ Below w.heap.size w wr) (fun _ i _ => L.length - (intOf i).toNat)
  case atStart => exact ⟨0, [], Nat.zero_le _, rfl, rfl, Nat.le_refl _, World.ownsRow_nil _ _ _ _, Below.refl _ _⟩
  case round =>
    obtain ⟨j, M, hj, rfl, HM, hm, hown, hb⟩ := hrel
    have hsz := hb.size
    by_cases hlt : j < L.length
    · obtain ⟨b, o, rfl, hbl, c1, c2⟩ := (HL.out.below hb (Nat.le_refl _)) j hlt
      have est := idsP_take L j hlt
      rw [← HM.out] at est
      have HE : Hid (M ++ [(L[j]).id] = idsP (L.take (j + 1))) := est.symm
      generalize (L[j]).id = i at *
      generalize (L[j]).tx = t at *
      clear est HM
      go_wp2_with (at_builtin; refine wpList_append_own _ rfl _ _ 41 rfl w.heap.size 3 i0 (.int .i64 0) 1 8 Tryz.underlying41 hi hz0 hz1 hz2 rfl (by decide) _ _ _ rfl ((hown.alloc _).alloc _) ⟨wr.heap.size + 1, 0, none⟩ 1 1 [.int .i64 i] rfl rfl (cells_new' _ #[.int .i64 i] _ _ (by simp)) (fun u hu => by simp at hu; subst hu; rfl) (by unfold maxLen; omega) (by omega) (by simp; omega) ?_; intro v' w3 hown' hgrow3 hnil3)
      go_roundw
      case rel =>
        refine ⟨j + 1, M ++ [i], by omega, by go_num, HE, by simp; omega, ?_, ?_⟩
        · rw [List.length_append, show cellsI (M ++ [i]) = cellsI M ++ [.int .i64 i] by simp [cellsI]]; exact hown'
        · exact growOwn ((hb.alloc (by omega) _).alloc (by simp; omega) _) (by simp; omega) ((hown.alloc _).alloc _) hgrow3 (Nat.le_refl _)
      case measure => simp [intOf]; omega
    · go_wp2
      go_ret
      obtain rfl : j = L.length := by omega
      have e := HM.out
      rw [List.take_length] at e
      rw [e] at hown
      exact ⟨⟨_, rfl, hown⟩, hb⟩
theorem polIds_own {b : Nat} {e : TypeId} (v : Value) (L : List PI) (w : World) (h : w.ownsRow b e 2 v L.length (cellsP L)) (hn : L.length ≤ 1048576) :
    Calls Tryz.prog 23 #[v] w fun e w' => (∃ v, e = .returned v ∧ w'.ownsRow w.heap.size 3 1 v (idsP L).length (cellsI (idsP L))) ∧ Below w.heap.size w w' := by
  obtain ⟨A, c, rfl, rd⟩ := rdP_of_own h
  exact polIds_impl A c L w rd hn
theorem polIdsS_own {b : Nat} {e : TypeId} (v : Value) (L : List PI) (w : World) (h : w.ownsRow b e 2 v L.length (cellsP L)) (hn : L.length ≤ 1048576) :
    Calls Tryz.prog 24 #[v] w fun e w' => (∃ v, e = .returned v ∧ w'.ownsRow w.heap.size 3 1 v (idsP L).length (cellsI (idsP L))) ∧ Below w.heap.size w w' := by
  obtain ⟨A, c, rfl, rd⟩ := rdP_of_own h
  exact polIds_spec A c L w rd hn
end Go.Proofs.YthfffpdkmoclbaaGreatDoor.W
