
/-
  The walks of the specification's l3Copy, l3Put and PolPut. Pools of at most 1048576 bytes.
-/
import Derived.Test.YtcmbcaipnjokjaaGreatDoorMathPPut
import Derived.Test.YtcmbcaipnjokjaaGreatDoorMathNew
import Derived.Test.YtcmbcaipnjokjaaGreatDoorMathTxt
import Derived.Test.YtcmbcaipnjokjaaGreatDoorMathOwn
import Derived.Test.YtcmbcaipnjokjaaGreatDoorWalkPolM
namespace Go.Proofs.YtcmbcaipnjokjaaGreatDoor.W
open Go.RowKit Go.Proofs.YtcmbcaipnjokjaaGreatDoor.M
set_option linter.unusedVariables false

theorem findP_k (L : List PI) (n : Int) (k : Nat) (hk : plP L n = k) (hr : RiseP L) : findP L n = if h : k < L.length then (if (L[k]).id = n then some (L[k]).tx else none) else none := by
  subst hk; exact findP_pl L n hr
theorem rdP_cells {B : Nat} {w : World} {b o : Nat} {L : List PI} (h : RdP B w (some ⟨b, o, none⟩) L) : ∀ j u, (cellsP L)[j]? = some u → w.cell? ((⟨b, o, none⟩ : Addr).add j) = some u := by
  intro j u hu
  have hj : j < (cellsP L).length := (List.getElem?_eq_some_iff.1 hu).1
  rw [cellsP_length] at hj
  have hi : j / 2 < L.length := by omega
  obtain ⟨b', o', e, hl, c1, c2⟩ := h (j / 2) hi
  simp only [Option.some.injEq, Addr.mk.injEq] at e
  obtain ⟨rfl, rfl, _⟩ := e
  obtain ⟨g1, g2⟩ := cellsP_get L (j / 2) hi
  have ea : (⟨b, o, none⟩ : Addr).add j = ⟨b, o + j, none⟩ := by unfold Addr.add; split <;> simp_all
  rw [ea]
  have hm : j % 2 = 0 ∨ j % 2 = 1 := by omega
  rcases hm with hm | hm
  · have e0 : j = j / 2 * 2 := by omega
    rw [← e0] at g1 c1
    rw [g1] at hu; rw [← hu]; exact c1
  · have e0 : j = j / 2 * 2 + 1 := by omega
    rw [← e0] at g2
    rw [Nat.add_assoc, ← e0] at c2
    rw [g2] at hu; rw [← hu]; exact c2
theorem cellsP_one (L : List PI) : ∀ u ∈ cellsP L, u.oneCell' = true := by
  intro u hu
  unfold cellsP at hu
  obtain ⟨x, _, hx⟩ := List.mem_flatMap.1 hu
  simp at hx
  rcases hx with rfl | rfl <;> rfl
theorem cellsP_append (A B : List PI) : cellsP (A ++ B) = cellsP A ++ cellsP B := by simp [cellsP]
theorem rdP_take {B : Nat} {w : World} {A : Option Addr} {L : List PI} (h : RdP B w A L) (k : Nat) : RdP B w A (L.take k) := fun j hj => by
  have hj' : j < L.length := by simp at hj; omega
  obtain ⟨b, o, e, hl, c1, c2⟩ := h j hj'
  have e1 : (L.take k)[j] = L[j] := by simp
  rw [e1]
  exact ⟨b, o, e, hl, c1, c2⟩
theorem rdP_drop {B : Nat} {w : World} {b o : Nat} {L : List PI} (h : RdP B w (some ⟨b, o, none⟩) L) (k : Nat) : RdP B w (some ⟨b, o + k * 2, none⟩) (L.drop k) := fun j hj => by
  have hj' : k + j < L.length := by simp at hj; omega
  obtain ⟨b', o', e, hl, c1, c2⟩ := h (k + j) hj'
  simp only [Option.some.injEq, Addr.mk.injEq] at e
  obtain ⟨rfl, rfl, _⟩ := e
  have e1 : (L.drop k)[j] = L[k + j] := by simp
  rw [e1]
  refine ⟨b, o + k * 2, rfl, hl, ?_, ?_⟩
  · rw [show o + k * 2 + j * 2 = o + (k + j) * 2 by omega]; exact c1
  · rw [show o + k * 2 + j * 2 + 1 = o + (k + j) * 2 + 1 by omega]; exact c2
theorem ownsCapP {w : World} {base : Nat} {e : TypeId} {z : Nat} {g : Nat} {n cap : Nat} {xs : List Value} (h : w.ownsRow base e z (.slice (some ⟨g, 0, none⟩) n cap) n xs) : n ≤ cap := by
  rcases h.2 with ⟨h1, _⟩ | ⟨_, _, _, h1, _, _, h2, _⟩
  · cases h1
  · cases h1; exact h2
theorem ownsUpP {w : World} {base base' n z : Nat} {e : TypeId} {v : Value} {xs : List Value} (h : w.ownsRow base e z v n xs) (hb : base' ≤ base) : w.ownsRow base' e z v n xs := by
  refine ⟨h.1, ?_⟩
  rcases h.2 with h1 | ⟨g, cap, cur, h1, h2, h3⟩
  · exact .inl h1
  · exact .inr ⟨g, cap, cur, h1, by omega, h3⟩

theorem rowForm {w : World} {base k z : Nat} {e : TypeId} {v : Value} {xs : List Value} (h : w.ownsRow base e z v (k + 1) xs) : ∃ g cap, v = .slice (some ⟨g, 0, none⟩) (k + 1) cap := by
  rcases h.2 with ⟨_, h0⟩ | ⟨g, cap, _, h1, _⟩
  · omega
  · exact ⟨g, cap, h1⟩
set_option maxHeartbeats 1000000 in
set_option maxRecDepth 100000 in
theorem l3Copy_some (b o c n : Nat) (L : List PI) (w : World) (hL : RdP w.heap.size w (some ⟨b, o, none⟩) L) (hn : L.length ≤ 1048576) (e : n = L.length) :
    Calls Tryz.prog 43 #[.slice (some ⟨b, o, none⟩) n c] w fun e w' => (∃ g cap, e = .returned (.slice (some ⟨g, 0, none⟩) n cap) ∧ w'.ownsRow w.heap.size 49 2 (.slice (some ⟨g, 0, none⟩) n cap) n (cellsP L)) ∧ Below w.heap.size w w' := by
  subst e
  have HL : Hid (RdP w.heap.size w (some ⟨b, o, none⟩) L) := hL
  clear hL
  obtain ⟨i0, hi, hz0, hz1, hz2⟩ := info_parts infoP
  go_enter Tryz.func43, Tryz.ntmps43
  have o1 : (w.alloc (.cells #[] 49)).ownsRow w.heap.size 49 2 (.slice (some ⟨w.heap.size, 0, none⟩) 0 0) 0 [] := World.ownsRow_lit w #[] 0 (Nat.le_refl _) (by unfold maxLen; omega) rfl
  have B1 : Below w.heap.size w (w.alloc (.cells #[] 49)) := (Below.refl _ _).alloc (Nat.le_refl _) _
  have z1 := B1.size
  go_wp2_with (at_builtin; refine wpList_append_own _ rfl _ _ 24 rfl w.heap.size 49 i0 (.agg #[.int .i64 0, .string ByteArray.empty]) 2 24 Tryz.underlying24 hi hz0 hz1 hz2 rfl (by decide) _ _ _ rfl o1 ⟨b, o, none⟩ L.length c (cellsP L) rfl (cellsP_length L) (rdP_cells (HL.out.below B1 (Nat.le_refl _))) (cellsP_one L) (by unfold maxLen; omega) (by omega) (by omega) ?_; intro v2 w2 o2 g2 hnil2; have HN2 : Hid (v2 ≠ .slice none 0 0) := (show v2 ≠ .slice none 0 0 from fun e => by have := (hnil2.1 e).1; cases this); clear hnil2; have B2' : Below w.heap.size w w2 := growOwn B1 z1 o1 g2 (Nat.le_refl _))
  go_ret
  have o3 : w2.ownsRow w.heap.size 49 2 v2 L.length (cellsP L) := by simpa only [Nat.zero_add, List.nil_append] using o2
  refine ⟨?_, B2'⟩
  rcases o3.2 with ⟨h1, _⟩ | ⟨g, cap, cur, h1, h3⟩
  · exact absurd h1 HN2.out
  · subst h1; exact ⟨g, cap, rfl, o3⟩
set_option maxHeartbeats 1000000 in
set_option maxRecDepth 100000 in
theorem l3Copy_nil (c : Nat) (w : World) :
    Calls Tryz.prog 43 #[.slice none 0 c] w fun e w' => (∃ g cap, e = .returned (.slice (some ⟨g, 0, none⟩) 0 cap) ∧ w'.ownsRow w.heap.size 49 2 (.slice (some ⟨g, 0, none⟩) 0 cap) 0 []) ∧ Below w.heap.size w w' := by
  have o1 : (w.alloc (.cells #[] 49)).ownsRow w.heap.size 49 2 (.slice (some ⟨w.heap.size, 0, none⟩) 0 0) 0 [] := World.ownsRow_lit w #[] 0 (Nat.le_refl _) (by unfold maxLen; omega) rfl
  have B1 : Below w.heap.size w (w.alloc (.cells #[] 49)) := (Below.refl _ _).alloc (Nat.le_refl _) _
  go_enter Tryz.func43, Tryz.ntmps43
  go_wp2_with (show Oper.upon Tryz.prog _ _ _ _ (Result.ok (Next.value (.slice (some ⟨w.heap.size, 0, none⟩) 0 0)) (w.alloc (.cells #[] 49))))
  go_ret
  exact ⟨⟨_, _, rfl, o1⟩, B1⟩

/-- what l3Put answers, and where its pool lies -/
def PutEnd (w w' : World) (R : List PI × Int × Int) (e : Ending) : Prop := (∃ v, e = .returned (.tuple #[v, .int .i64 R.2.1, .int .i64 R.2.2]) ∧ w'.ownsRow w.heap.size 49 2 v R.1.length (cellsP R.1)) ∧ Below w.heap.size w w'

set_option maxHeartbeats 4000000 in
set_option maxRecDepth 100000 in
theorem l3Put_some (g c : Nat) (L : List PI) (s : ByteArray) (w : World) (hL : RdP w.heap.size w (some ⟨g, 0, none⟩) L) (hr : RiseP L) (hn : L.length ≤ 700) (hc : L.length ≤ c) (hs : s.size ≤ 1048576) :
    Calls Tryz.prog 27 #[.slice (some ⟨g, 0, none⟩) L.length c, .string s] w fun e w' => PutEnd w w' (putPool L (idOfN s.data.toList) s) e := by
  have HL : Hid (RdP w.heap.size w (some ⟨g, 0, none⟩) L) := hL
  obtain ⟨n, hid⟩ : ∃ n, idOfN s.data.toList = n := ⟨_, rfl⟩
  have hidc := idS s n w hs hid
  have hatc := l3At_any (some ⟨g, 0, none⟩) c L (n : Int)
  obtain ⟨h0, h1, h2⟩ := plP_low L (n : Int) hr
  rw [hid]
  obtain ⟨k, hk⟩ : ∃ k, plP L (n : Int) = k := ⟨_, rfl⟩
  have hfp := findP_k L (n : Int) k hk hr
  rw [hk] at h0 h1 h2 hatc
  obtain ⟨i0, hi, hz0, hz1, hz2⟩ := info_parts infoP
  have hkc : k ≤ c := by omega
  clear hL hid hk hr
  by_cases hlt : k < L.length
  · obtain ⟨b', o', e', hbl, c1, c2⟩ := HL.out k hlt
    simp only [Option.some.injEq, Addr.mk.injEq] at e'
    obtain ⟨rfl, rfl, _⟩ := e'
    rw [dif_pos hlt] at hfp
    obtain ⟨x, hx⟩ : ∃ x, L[k] = x := ⟨_, rfl⟩
    rw [hx] at c1 c2 hfp
    obtain ⟨m, t⟩ := x
    simp only at c1 c2 hfp
    by_cases hm : m = (n : Int)
    · rw [if_pos hm] at hfp
      subst hm
      by_cases ht : t = s
      · subst ht
        have HR : Hid (putPool L (n : Int) t = (L, (n : Int), 2)) := (show putPool L (n : Int) t = _ by unfold putPool; rw [hfp]; simp)
        have hbe : (t.toList == t.toList) = true := by simp
        clear hfp h1 h2 hx
        go_enter Tryz.func27, Tryz.ntmps27
        go_wp2_with (first
          | (go_at_call 40; refine hidc.mono ?_; rintro e w1 ⟨rfl, hb1⟩; have hs1 := hb1.size; have HL1 : Hid (RdP w1.heap.size w1 (some ⟨g, 0, none⟩) L) := HL.out.up hb1; have d1 := (hb1.cell (p := ⟨g, 0 + k * 2, none⟩) hbl).trans c1; have d2 := (hb1.cell (p := ⟨g, 0 + k * 2 + 1, none⟩) hbl).trans c2; rw [Nat.zero_add] at d1 d2; clear hidc)
          | (go_at_call 42; refine (hatc w1 HL1.out (by omega)).mono ?_; rintro e w' ⟨rfl, rfl⟩; clear hatc)
          | (go_at_call 43; refine (l3Copy_some g 0 c L.length L w1 HL1.out (by omega) rfl).mono ?_; rintro e w2 ⟨⟨g2, c2', rfl, o2⟩, hb2⟩; have HO : Hid (w2.ownsRow w1.heap.size 49 2 (.slice (some ⟨g2, 0, none⟩) L.length c2') L.length (cellsP L)) := o2; clear o2))
        go_ret3
        have e9 := HR.out
        unfold PutEnd
        rw [e9]
        exact ⟨⟨_, rfl, ownsUpP HO.out hs1⟩, hb1.trans (hb2.mono hs1)⟩
      · have HR : Hid (putPool L (n : Int) s = (L, 0, 3)) := (show putPool L (n : Int) s = _ by unfold putPool; rw [hfp]; simp [ht])
        have hbe := bytes_ne ht
        clear hfp h1 h2 hx
        go_enter Tryz.func27, Tryz.ntmps27
        go_wp2_with (first
          | (go_at_call 40; refine hidc.mono ?_; rintro e w1 ⟨rfl, hb1⟩; have hs1 := hb1.size; have HL1 : Hid (RdP w1.heap.size w1 (some ⟨g, 0, none⟩) L) := HL.out.up hb1; have d1 := (hb1.cell (p := ⟨g, 0 + k * 2, none⟩) hbl).trans c1; have d2 := (hb1.cell (p := ⟨g, 0 + k * 2 + 1, none⟩) hbl).trans c2; rw [Nat.zero_add] at d1 d2; clear hidc)
          | (go_at_call 42; refine (hatc w1 HL1.out (by omega)).mono ?_; rintro e w' ⟨rfl, rfl⟩; clear hatc)
          | (go_at_call 43; refine (l3Copy_some g 0 c L.length L w1 HL1.out (by omega) rfl).mono ?_; rintro e w2 ⟨⟨g2, c2', rfl, o2⟩, hb2⟩; have HO : Hid (w2.ownsRow w1.heap.size 49 2 (.slice (some ⟨g2, 0, none⟩) L.length c2') L.length (cellsP L)) := o2; clear o2))
        go_ret3
        have e9 := HR.out
        unfold PutEnd
        rw [e9]
        exact ⟨⟨_, rfl, ownsUpP HO.out hs1⟩, hb1.trans (hb2.mono hs1)⟩
    · rw [if_neg hm] at hfp
      have hmb : (m == (n : Int)) = false := by simpa using hm
      by_cases h7 : L.length = 700
      · have HR : Hid (putPool L (n : Int) s = (L, 0, 3)) := (show putPool L (n : Int) s = _ by unfold putPool; rw [hfp]; simp [h7])
        have h7b : ((L.length : Int) == 700) = true := by simp; omega
        clear hfp h1 h2 hx h7
        go_enter Tryz.func27, Tryz.ntmps27
        go_wp2_with (first
          | (go_at_call 40; refine hidc.mono ?_; rintro e w1 ⟨rfl, hb1⟩; have hs1 := hb1.size; have HL1 : Hid (RdP w1.heap.size w1 (some ⟨g, 0, none⟩) L) := HL.out.up hb1; have d1 := (hb1.cell (p := ⟨g, 0 + k * 2, none⟩) hbl).trans c1; have d2 := (hb1.cell (p := ⟨g, 0 + k * 2 + 1, none⟩) hbl).trans c2; rw [Nat.zero_add] at d1 d2; clear hidc)
          | (go_at_call 42; refine (hatc w1 HL1.out (by omega)).mono ?_; rintro e w' ⟨rfl, rfl⟩; clear hatc)
          | (go_at_call 43; refine (l3Copy_some g 0 c L.length L w1 HL1.out (by omega) rfl).mono ?_; rintro e w2 ⟨⟨g2, c2', rfl, o2⟩, hb2⟩; have HO : Hid (w2.ownsRow w1.heap.size 49 2 (.slice (some ⟨g2, 0, none⟩) L.length c2') L.length (cellsP L)) := o2; clear o2))
        go_ret3
        have e9 := HR.out
        unfold PutEnd
        rw [e9]
        exact ⟨⟨_, rfl, ownsUpP HO.out hs1⟩, hb1.trans (hb2.mono hs1)⟩
      · have HR : Hid (putPool L (n : Int) s = (insP L ⟨n, s⟩, (n : Int), 1)) := (show putPool L (n : Int) s = _ by unfold putPool; rw [hfp]; simp [h7])
        have HI : Hid (insP L ⟨n, s⟩ = (L.take k ++ [⟨n, s⟩]) ++ L.drop k) := insP_at L ⟨n, s⟩ k h0 h1 (fun h => h2 k h (Nat.le_refl _))
        have h7b : ((L.length : Int) == 700) = false := by simp; omega
        have hck : ¬ ((c : Nat) : Int) = k := by omega
        have LT : Hid (k = (L.take k).length) := (show k = (L.take k).length by simp; omega)
        have LD : Hid (L.length - k = (L.drop k).length) := (show L.length - k = (L.drop k).length by simp)
        clear hfp h1 h2 hx h7
        go_enter Tryz.func27, Tryz.ntmps27
        go_wp2_with (first
          | (go_at_call 40; refine hidc.mono ?_; rintro e w1 ⟨rfl, hb1⟩; have hs1 := hb1.size; have HL1 : Hid (RdP w1.heap.size w1 (some ⟨g, 0, none⟩) L) := HL.out.up hb1; have d1 := (hb1.cell (p := ⟨g, 0 + k * 2, none⟩) hbl).trans c1; have d2 := (hb1.cell (p := ⟨g, 0 + k * 2 + 1, none⟩) hbl).trans c2; rw [Nat.zero_add] at d1 d2; clear hidc)
          | (go_at_call 42; refine (hatc w1 HL1.out (by omega)).mono ?_; rintro e w' ⟨rfl, rfl⟩; clear hatc)
          | (go_at_call 43; refine (l3Copy_some g 0 _ k (L.take k) w1 (rdP_take HL1.out k) (by have := LT.out; omega) LT.out).mono ?_; rintro e w2 ⟨⟨g2, c2', rfl, o2⟩, hb2⟩; have hs2 := hb2.size)
          | (at_builtin; refine wpList_append_own _ rfl _ _ 24 rfl w1.heap.size 49 i0 (.agg #[.int .i64 0, .string ByteArray.empty]) 2 24 Tryz.underlying24 hi hz0 hz1 hz2 rfl (by decide) (.slice (some ⟨g2, 0, none⟩) k c2') k (cellsP (L.take k)) rfl (o2.alloc _) ⟨w2.heap.size, 0, none⟩ 1 1 [.int .i64 (n : Int), .string s] rfl rfl (cells_new w2 #[.int .i64 (n : Int), .string s] 49) (by simp [Value.oneCell']) (by unfold maxLen; omega) (by omega) (by simp; omega) ?_; intro v6 w6 o6 gr6 _; have HB6 : Below w1.heap.size w1 w6 := growOwn (hb2.alloc hs2 _) (by simp; omega) (o2.alloc _) gr6 (Nat.le_refl _); obtain ⟨g6, cap6, rfl⟩ : ∃ g cap, v6 = .slice (some ⟨g, 0, none⟩) (k + 1) cap := rowForm o6; clear gr6 o2)
          | (at_builtin; refine wpList_append_own _ rfl _ _ 24 rfl w1.heap.size 49 i0 (.agg #[.int .i64 0, .string ByteArray.empty]) 2 24 Tryz.underlying24 hi hz0 hz1 hz2 rfl (by decide) (.slice (some ⟨g6, 0, none⟩) (k + 1) cap6) (k + 1) (cellsP (L.take k) ++ [.int .i64 (n : Int), .string s]) rfl o6 ⟨g, k * 2, none⟩ (L.length - k) (c - k) (cellsP (L.drop k)) rfl (by rw [cellsP_length]; have := LD.out; omega) (rdP_cells ((show RdP w1.heap.size w1 (some ⟨g, k * 2, none⟩) (L.drop k) from by have := rdP_drop HL1.out k; rwa [Nat.zero_add] at this).below HB6 (Nat.le_refl _))) (cellsP_one _) (by unfold maxLen; omega) (by omega) (by exact HB6.size) ?_; intro v7 w7 o7 gr7 _; have HB7 : Below w1.heap.size w1 w7 := growOwn HB6 HB6.size o6 gr7 (Nat.le_refl _)))
        go_ret3
        have e9 := HR.out
        have eC : cellsP (L.take k) ++ [.int .i64 (n : Int), .string s] ++ cellsP (L.drop k) = cellsP (insP L ⟨n, s⟩) := by rw [HI.out, cellsP_append, cellsP_append]; rfl
        have eL : (insP L ⟨(n : Int), s⟩).length = k + 1 + (L.length - k) := by rw [len_insP]; omega
        unfold PutEnd
        rw [e9]
        rw [eC] at o7
        exact ⟨⟨_, rfl, by rw [eL]; exact ownsUpP o7 hs1⟩, hb1.trans (HB7.mono hs1)⟩
  · rw [dif_neg hlt] at hfp
    by_cases h7 : L.length = 700
    · have HR : Hid (putPool L (n : Int) s = (L, 0, 3)) := (show putPool L (n : Int) s = _ by unfold putPool; rw [hfp]; simp [h7])
      have h7b : ((L.length : Int) == 700) = true := by simp; omega
      clear hfp h1 h2 h7
      go_enter Tryz.func27, Tryz.ntmps27
      go_wp2_with (first
        | (go_at_call 40; refine hidc.mono ?_; rintro e w1 ⟨rfl, hb1⟩; have hs1 := hb1.size; have HL1 : Hid (RdP w1.heap.size w1 (some ⟨g, 0, none⟩) L) := HL.out.up hb1; clear hidc)
        | (go_at_call 42; refine (hatc w1 HL1.out (by omega)).mono ?_; rintro e w' ⟨rfl, rfl⟩; clear hatc)
        | (go_at_call 43; refine (l3Copy_some g 0 c L.length L w1 HL1.out (by omega) rfl).mono ?_; rintro e w2 ⟨⟨g2, c2', rfl, o2⟩, hb2⟩; have HO : Hid (w2.ownsRow w1.heap.size 49 2 (.slice (some ⟨g2, 0, none⟩) L.length c2') L.length (cellsP L)) := o2; clear o2))
      go_ret3
      have e9 := HR.out
      unfold PutEnd
      rw [e9]
      exact ⟨⟨_, rfl, ownsUpP HO.out hs1⟩, hb1.trans (hb2.mono hs1)⟩
    · have HR : Hid (putPool L (n : Int) s = (insP L ⟨n, s⟩, (n : Int), 1)) := (show putPool L (n : Int) s = _ by unfold putPool; rw [hfp]; simp [h7])
      have HI : Hid (insP L ⟨n, s⟩ = (L.take k ++ [⟨n, s⟩]) ++ L.drop k) := insP_at L ⟨n, s⟩ k h0 h1 (fun h => absurd h hlt)
      have h7b : ((L.length : Int) == 700) = false := by simp; omega
      have LT : Hid (k = (L.take k).length) := (show k = (L.take k).length by simp; omega)
      have LD : Hid (L.length - k = (L.drop k).length) := (show L.length - k = (L.drop k).length by simp)
      have HKL : Hid (k = L.length) := (show k = L.length by omega)
      by_cases hck0 : c = k
      · have hck1 : k = c := hck0.symm
        subst hck1
        clear hfp h1 h2 h7 hck0
        go_enter Tryz.func27, Tryz.ntmps27
        go_wp2_with (first
          | (go_at_call 40; refine hidc.mono ?_; rintro e w1 ⟨rfl, hb1⟩; have hs1 := hb1.size; have HL1 : Hid (RdP w1.heap.size w1 (some ⟨g, 0, none⟩) L) := HL.out.up hb1; clear hidc)
          | (go_at_call 42; refine (hatc w1 HL1.out (by omega)).mono ?_; rintro e w' ⟨rfl, rfl⟩; clear hatc)
          | (go_at_call 43; refine (l3Copy_some g 0 _ k (L.take k) w1 (rdP_take HL1.out k) (by have := LT.out; omega) LT.out).mono ?_; rintro e w2 ⟨⟨g2, c2', rfl, o2⟩, hb2⟩; have hs2 := hb2.size)
          | (at_builtin; refine wpList_append_own _ rfl _ _ 24 rfl w1.heap.size 49 i0 (.agg #[.int .i64 0, .string ByteArray.empty]) 2 24 Tryz.underlying24 hi hz0 hz1 hz2 rfl (by decide) (.slice (some ⟨g2, 0, none⟩) k c2') k (cellsP (L.take k)) rfl (o2.alloc _) ⟨w2.heap.size, 0, none⟩ 1 1 [.int .i64 (n : Int), .string s] rfl rfl (cells_new w2 #[.int .i64 (n : Int), .string s] 49) (by simp [Value.oneCell']) (by unfold maxLen; omega) (by omega) (by simp; omega) ?_; intro v6 w6 o6 gr6 _; have HB6 : Below w1.heap.size w1 w6 := growOwn (hb2.alloc hs2 _) (by simp; omega) (o2.alloc _) gr6 (Nat.le_refl _); obtain ⟨g6, cap6, rfl⟩ : ∃ g cap, v6 = .slice (some ⟨g, 0, none⟩) (k + 1) cap := rowForm o6; clear gr6 o2)
          | (at_builtin; refine wpList_append_own _ rfl _ _ 24 rfl w1.heap.size 49 i0 (.agg #[.int .i64 0, .string ByteArray.empty]) 2 24 Tryz.underlying24 hi hz0 hz1 hz2 rfl (by decide) (.slice (some ⟨g6, 0, none⟩) (k + 1) cap6) (k + 1) (cellsP (L.take k) ++ [.int .i64 (n : Int), .string s]) rfl o6 ⟨g, 0, none⟩ 0 0 (cellsP (L.drop k)) rfl (by rw [cellsP_length]; have := LD.out; have := HKL.out; omega) (rdP_cells ((show RdP w1.heap.size w1 (some ⟨g, 0, none⟩) (L.drop k) from fun j hj => by have := LD.out; have := HKL.out; omega).below HB6 (Nat.le_refl _))) (cellsP_one _) (by unfold maxLen; omega) (by omega) (by exact HB6.size) ?_; intro v7 w7 o7 gr7 _; have HB7 : Below w1.heap.size w1 w7 := growOwn HB6 HB6.size o6 gr7 (Nat.le_refl _)))
        go_ret3
        have e9 := HR.out
        have eC : cellsP (L.take k) ++ [.int .i64 (n : Int), .string s] ++ cellsP (L.drop k) = cellsP (insP L ⟨n, s⟩) := by rw [HI.out, cellsP_append, cellsP_append]; rfl
        have eL : (insP L ⟨(n : Int), s⟩).length = k + 1 + 0 := by have := HKL.out; rw [len_insP]; omega
        unfold PutEnd
        rw [e9]
        rw [eC] at o7
        exact ⟨⟨_, rfl, by rw [eL]; exact ownsUpP o7 hs1⟩, hb1.trans (HB7.mono hs1)⟩
      · have hck : ¬ ((c : Nat) : Int) = k := by omega
        clear hfp h1 h2 h7 hck0
        go_enter Tryz.func27, Tryz.ntmps27
        go_wp2_with (first
          | (go_at_call 40; refine hidc.mono ?_; rintro e w1 ⟨rfl, hb1⟩; have hs1 := hb1.size; have HL1 : Hid (RdP w1.heap.size w1 (some ⟨g, 0, none⟩) L) := HL.out.up hb1; clear hidc)
          | (go_at_call 42; refine (hatc w1 HL1.out (by omega)).mono ?_; rintro e w' ⟨rfl, rfl⟩; clear hatc)
          | (go_at_call 43; refine (l3Copy_some g 0 _ k (L.take k) w1 (rdP_take HL1.out k) (by have := LT.out; omega) LT.out).mono ?_; rintro e w2 ⟨⟨g2, c2', rfl, o2⟩, hb2⟩; have hs2 := hb2.size)
          | (at_builtin; refine wpList_append_own _ rfl _ _ 24 rfl w1.heap.size 49 i0 (.agg #[.int .i64 0, .string ByteArray.empty]) 2 24 Tryz.underlying24 hi hz0 hz1 hz2 rfl (by decide) (.slice (some ⟨g2, 0, none⟩) k c2') k (cellsP (L.take k)) rfl (o2.alloc _) ⟨w2.heap.size, 0, none⟩ 1 1 [.int .i64 (n : Int), .string s] rfl rfl (cells_new w2 #[.int .i64 (n : Int), .string s] 49) (by simp [Value.oneCell']) (by unfold maxLen; omega) (by omega) (by simp; omega) ?_; intro v6 w6 o6 gr6 _; have HB6 : Below w1.heap.size w1 w6 := growOwn (hb2.alloc hs2 _) (by simp; omega) (o2.alloc _) gr6 (Nat.le_refl _); obtain ⟨g6, cap6, rfl⟩ : ∃ g cap, v6 = .slice (some ⟨g, 0, none⟩) (k + 1) cap := rowForm o6; clear gr6 o2)
          | (at_builtin; refine wpList_append_own _ rfl _ _ 24 rfl w1.heap.size 49 i0 (.agg #[.int .i64 0, .string ByteArray.empty]) 2 24 Tryz.underlying24 hi hz0 hz1 hz2 rfl (by decide) (.slice (some ⟨g6, 0, none⟩) (k + 1) cap6) (k + 1) (cellsP (L.take k) ++ [.int .i64 (n : Int), .string s]) rfl o6 ⟨g, k * 2, none⟩ (L.length - k) (c - k) (cellsP (L.drop k)) rfl (by rw [cellsP_length]; have := LD.out; omega) (rdP_cells ((show RdP w1.heap.size w1 (some ⟨g, k * 2, none⟩) (L.drop k) from by have := rdP_drop HL1.out k; rwa [Nat.zero_add] at this).below HB6 (Nat.le_refl _))) (cellsP_one _) (by unfold maxLen; omega) (by omega) (by exact HB6.size) ?_; intro v7 w7 o7 gr7 _; have HB7 : Below w1.heap.size w1 w7 := growOwn HB6 HB6.size o6 gr7 (Nat.le_refl _)))
        go_ret3
        have e9 := HR.out
        have eC : cellsP (L.take k) ++ [.int .i64 (n : Int), .string s] ++ cellsP (L.drop k) = cellsP (insP L ⟨n, s⟩) := by rw [HI.out, cellsP_append, cellsP_append]; rfl
        have eL : (insP L ⟨(n : Int), s⟩).length = k + 1 + (L.length - k) := by have := HKL.out; rw [len_insP]; omega
        unfold PutEnd
        rw [e9]
        rw [eC] at o7
        exact ⟨⟨_, rfl, by rw [eL]; exact ownsUpP o7 hs1⟩, hb1.trans (HB7.mono hs1)⟩

set_option maxHeartbeats 4000000 in
set_option maxRecDepth 100000 in
theorem l3Put_nil (s : ByteArray) (w : World) (hs : s.size ≤ 1048576) :
    Calls Tryz.prog 27 #[.slice none 0 0, .string s] w fun e w' => PutEnd w w' (putPool [] (idOfN s.data.toList) s) e := by
  obtain ⟨n, hid⟩ : ∃ n, idOfN s.data.toList = n := ⟨_, rfl⟩
  have hidc := idS s n w hs hid
  have hatc := fun w => l3At_any none 0 [] (n : Int) w (fun j hj => by simp at hj) (by simp)
  have hk : plP [] (n : Int) = 0 := rfl
  rw [hk] at hatc
  rw [hid]
  have HR : Hid (putPool [] (n : Int) s = ([⟨n, s⟩], (n : Int), 1)) := (show putPool [] (n : Int) s = _ from rfl)
  obtain ⟨i0, hi, hz0, hz1, hz2⟩ := info_parts infoP
  clear hid hk
  go_enter Tryz.func27, Tryz.ntmps27
  go_wp2_with (first
    | (go_at_call 40; refine hidc.mono ?_; rintro e w1 ⟨rfl, hb1⟩; have hs1 := hb1.size; clear hidc)
    | (go_at_call 42; refine (hatc w1).mono ?_; rintro e w' ⟨rfl, rfl⟩; clear hatc)
    | (go_at_call 43; refine (l3Copy_nil _ w1).mono ?_; rintro e w2 ⟨⟨g2, c2', rfl, o2⟩, hb2⟩; have hs2 := hb2.size)
    | (at_builtin; refine wpList_append_own _ rfl _ _ 24 rfl w1.heap.size 49 i0 (.agg #[.int .i64 0, .string ByteArray.empty]) 2 24 Tryz.underlying24 hi hz0 hz1 hz2 rfl (by decide) (.slice (some ⟨g2, 0, none⟩) 0 c2') 0 [] rfl (o2.alloc _) ⟨w2.heap.size, 0, none⟩ 1 1 [.int .i64 (n : Int), .string s] rfl rfl (cells_new w2 #[.int .i64 (n : Int), .string s] 49) (by simp [Value.oneCell']) (by unfold maxLen; omega) (by omega) (by simp; omega) ?_; intro v6 w6 o6 gr6 _; have HB6 : Below w1.heap.size w1 w6 := growOwn (hb2.alloc hs2 _) (by simp; omega) (o2.alloc _) gr6 (Nat.le_refl _); obtain ⟨g6, cap6, rfl⟩ : ∃ g cap, v6 = .slice (some ⟨g, 0, none⟩) (0 + 1) cap := rowForm o6; have hcap : 1 ≤ cap6 := ownsCapP o6; clear gr6 o2))
  go_ret3
  have e9 := HR.out
  unfold PutEnd
  rw [e9]
  have o7 : w6.ownsRow w1.heap.size 49 2 (.slice (some ⟨g6, 0, none⟩) 1 cap6) 1 (cellsP [⟨(n : Int), s⟩]) := o6
  exact ⟨⟨_, rfl, ownsUpP o7 hs1⟩, hb1.trans (HB6.mono hs1)⟩

/-- what PolPut answers, and where its pool lies -/
theorem polPut_spec {b0 : Nat} {e0 : TypeId} (v : Value) (L : List PI) (s : ByteArray) (w : World) (h : w.ownsRow b0 e0 2 v L.length (cellsP L)) (hn : L.length ≤ 1048576) (ht : ∀ j (h : j < L.length), (L[j]).tx.size ≤ 1048576) (hs : s.size ≤ 1048576) :
    Calls Tryz.prog 7 #[v, .string s] w fun e w' => PutEnd w w' (putR L s) e := by
  obtain ⟨A, c, rfl, hR⟩ := rdP_of_own h
  have hok := polOk_spec A c L w hR hn ht
  have HO : Hid (w.ownsRow b0 e0 2 (.slice A L.length c) L.length (cellsP L)) := h
  clear hR h ht
  by_cases hk : okP L = true
  case neg =>
    have HD : Hid (putR L s = ([], 0, 4)) := (show putR L s = _ by unfold putR; rw [if_neg (fun h => hk h.1)])
    have hk' : okP L = false := by simpa using hk
    rw [hk'] at hok
    clear hk hk'
    go_enter Tryz.func7, Tryz.ntmps7
    go_wp2_with (go_at_call 25; refine hok.mono ?_; rintro e w1 ⟨rfl, hb1⟩; clear hok)
    go_ret3
    have e9 := HD.out
    unfold PutEnd
    rw [e9]
    exact ⟨⟨_, rfl, World.ownsRow_lit w1 #[] 0 hb1.size (by unfold maxLen; omega) rfl⟩, hb1.alloc hb1.size _⟩
  case pos =>
    obtain ⟨hr, h7, _⟩ := okP_rise L hk
    have HR : Hid (RiseP L) := hr
    have HOK : Hid (okP L = true) := hk
    rw [hk] at hok
    obtain ⟨m, hm⟩ : ∃ m, kd s = m := ⟨_, rfl⟩
    have hkd := fun w => kdS s m w hs hm
    by_cases hm0 : m = 0
    · have HD : Hid (putR L s = ([], 0, 4)) := (show putR L s = _ by unfold putR; rw [if_neg (fun h => h.2 (hm.trans hm0))])
      subst hm0
      clear hk hr hm
      go_enter Tryz.func7, Tryz.ntmps7
      go_wp2_with (first
        | (go_at_call 25; refine hok.mono ?_; rintro e w1 ⟨rfl, hb1⟩; clear hok)
        | (go_at_call 26; refine (hkd w1).mono ?_; rintro e w2 ⟨rfl, hb2⟩; clear hkd))
      go_ret3
      have e9 := HD.out
      have hb3 := hb1.trans (hb2.mono hb1.size)
      unfold PutEnd
      rw [e9]
      exact ⟨⟨_, rfl, World.ownsRow_lit w2 #[] 0 hb3.size (by unfold maxLen; omega) rfl⟩, hb3.alloc hb3.size _⟩
    · have HD : Hid (putR L s = putPool L (idOfN s.data.toList) s) := (show putR L s = _ by unfold putR; rw [if_pos ⟨hk, fun e => hm0 (hm.symm.trans e)⟩])
      have hmb : (((m : Nat) : Int) == 0) = false := by simp; omega
      clear hk hr hm
      have hput : ∀ W, Below w.heap.size w W → Calls Tryz.prog 27 #[.slice A L.length c, .string s] W fun e w' => PutEnd W w' (putPool L (idOfN s.data.toList) s) e := fun W hW => by
        have ho := ownsUnder HO.out hW (Nat.le_refl _)
        obtain ⟨A2, c2, e2, hR2⟩ := rdP_of_own ho
        rcases ho.2 with ⟨h1, h2⟩ | ⟨g, cap, cur, h1, _, _, h3, _⟩
        · have hl : L = [] := List.length_eq_zero_iff.1 h2
          subst hl
          rw [h1]
          exact l3Put_nil s W hs
        · cases h1; cases e2
          exact l3Put_some g _ L s W hR2 HR.out h7 h3 hs
      go_enter Tryz.func7, Tryz.ntmps7
      go_wp2_with (first
        | (go_at_call 25; refine hok.mono ?_; rintro e w1 ⟨rfl, hb1⟩; clear hok)
        | (go_at_call 26; refine (hkd w1).mono ?_; rintro e w2 ⟨rfl, hb2⟩; clear hkd; have hb3 := hb1.trans (hb2.mono hb1.size))
        | (go_at_call 27; refine (hput w2 hb3).mono ?_; rintro e w4 ⟨⟨v4, rfl, o4⟩, hb4⟩; clear hput))
      go_ret3
      have e9 := HD.out
      unfold PutEnd
      rw [e9]
      exact ⟨⟨_, rfl, ownsUpP o4 hb3.size⟩, hb3.trans (hb4.mono hb3.size)⟩
end Go.Proofs.YtcmbcaipnjokjaaGreatDoor.W
