
/-
  RulRead, of the specification and of the program: the rule whose text it is, or nothing. Texts of at most 1048576 bytes; of the program: where variables of Go's library hold an int and two errors.
-/
import Derived.Test.YtkgfoimfhlpngaaDoorWalkRulJ
import Derived.Test.YtkgfoimfhlpngaaDoorWalkRulZ
namespace Go.Proofs.YtkgfoimfhlpngaaDoor.W
open Go.RowKit Go.Proofs.YtkgfoimfhlpngaaDoor.M

theorem list4 {α : Type} (l : List α) (h : l.length = 4) : ∃ a b c d, l = [a, b, c, d] := by
  match l, h with
  | [a, b, c, d], _ => exact ⟨a, b, c, d, rfl⟩
theorem words_le (s : ByteArray) (a b c d : List UInt8) (h : wds s.data.toList = [a, b, c, d]) (hs : s.size ≤ 200) : a.length ≤ 200 ∧ b.length ≤ 200 ∧ c.length ≤ 200 ∧ d.length ≤ 200 := by
  have e : s.data.toList.length = s.size := by rw [Array.length_toList]; rfl
  have m := wds_mem s.data.toList
  rw [h, e] at m
  exact ⟨by have := m a (by simp); omega, by have := m b (by simp); omega, by have := m c (by simp); omega, by have := m d (by simp); omega⟩
theorem noneB_le (b : List UInt8) (h : b.length ≤ 200) : (noneB ⟨b.toArray⟩).size ≤ 1048576 := by
  have h1 := noneB_size ⟨b.toArray⟩
  have h2 : (ByteArray.mk b.toArray).size = b.length := size_mk b
  exact Nat.le_trans h1 (by rw [h2]; omega)
theorem text_full (x : RR) (h : rulB x = true) : (textB x).toList.isEmpty = false := by
  refine nonempty_f _ fun e => ?_
  have h2 := (text_size x h).2
  have h3 : (textB x).data.toList.length = (textB x).size := by rw [Array.length_toList]; rfl
  rw [e] at h3
  simp at h3
  omega
theorem fit_of (x : RR) (h : rulB x = true) : x.ref.size ≤ 1048576 ∧ x.path.size ≤ 1048576 := by
  obtain ⟨_, h2, h3⟩ := rulB_parts x h
  have l3 := pth_le _ h3
  have e1 : x.ref.data.toList.length = x.ref.size := by rw [Array.length_toList]; rfl
  have e2 : x.path.data.toList.length = x.path.size := by rw [Array.length_toList]; rfl
  have l4 : x.ref.data.toList.length ≤ 3 := by
    rcases h2 with e | e
    · rw [e]; simp
    · exact namB_le _ e
  omega
theorem rulRead_spec_some (x : RR) (hb : rulB x = true) (w : World) :
    Calls Tryd.prog 5 #[.string (textB x)] w fun e w' => e = .returned (RuAns (some x)) ∧ Below w.heap.size w w' := by
  obtain ⟨n, hn, hu⟩ := (rulB_parts x hb).1
  have hs := (text_size x hb).1
  have hw := text_wds x hb
  obtain ⟨f1, f2⟩ := fit_of x hb
  refine rdS_same (textB x) _ _ _ _ w (by omega) x.user x.ref x.path x.write (none_dash _ (ref_in x hb)) (none_dash _ (path_in x hb)) (word_write x.write)
    (fun w => words4 (textB x) _ _ _ _ w (by omega) hw) (fun w => (number4 _ w (by simp)).mono ?_) (fun w => rulText_spec x w f1 f2) (text_full x hb)
  rintro e w' ⟨⟨n', rfl, _, _, h3⟩, rfl⟩
  refine ⟨⟨n', rfl, ?_⟩, rfl⟩
  have := h3 x.user.toNat (by omega) rfl
  omega
theorem rulRead_spec_none (s : ByteArray) (hs : s.size ≤ 1048576) (hno : ∀ x : RR, rulB x = true → textB x ≠ s) (w : World) :
    Calls Tryd.prog 5 #[.string s] w fun e w' => e = .returned (RuAns none) ∧ Below w.heap.size w w' := by
  by_cases h2 : 200 < s.size
  · exact rdS_few s w (fun w => wordsN s w hs (.inl h2))
  by_cases h4 : (wds s.data.toList).length = 4
  · obtain ⟨a, b, c, d, hw⟩ := list4 _ h4
    obtain ⟨la, lb, lc, ld⟩ := words_le s a b c d hw (by omega)
    have hpos := wds_four_pos s h4
    refine rdS_other s a b c d w (by omega) _ _ _ rfl rfl rfl (fun w => words4 s a b c d w (by omega) hw) (fun w => number4 a w (by omega)) (fun n _ => ⟨textB (candB n b c d), ?_, fun w => rulText_spec (candB n b c d) w (noneB_le b lb) (noneB_le c lc)⟩)
    cases he : (textB (candB n b c d)).toList.isEmpty
    · exact .inr ⟨rfl, bytes_ne (cand_other s hno hpos _)⟩
    · exact .inl rfl
  · exact rdS_few s w (fun w => wordsN s w hs (.inr h4))
theorem atoi_digit (n : Nat) (hn : n ≤ 4) : Lib.atoiAll [UInt8.ofNat (48 + n)] = .ok (n : Int) := by
  have : n = 0 ∨ n = 1 ∨ n = 2 ∨ n = 3 ∨ n = 4 := by omega
  rcases this with rfl | rfl | rfl | rfl | rfl <;> rfl
theorem rulRead_impl_some (x : RR) (hb : rulB x = true) (w : World) (G : Glo w) :
    Calls Tryd.prog 6 #[.string (textB x)] w fun e w' => e = .returned (RuAns (some x)) ∧ Below w.heap.size w w' := by
  obtain ⟨n, hn, hu⟩ := (rulB_parts x hb).1
  have hs := (text_size x hb).1
  have hw := text_wds x hb
  obtain ⟨f1, f2⟩ := fit_of x hb
  have ha := atoi_digit x.user.toNat (by omega)
  rcases atoi_cases ⟨[UInt8.ofNat (48 + x.user.toNat)].toArray⟩ (by rw [size_mk]; simp) with ⟨v, hv, HN⟩ | ⟨hv, _⟩
  · have hv' : Lib.atoiAll [UInt8.ofNat (48 + x.user.toNat)] = .ok v := hv
    rw [ha] at hv'
    obtain rfl : x.user = v := by
      cases hv'
      omega
    exact rdI_same (textB x) (textB x) _ _ _ _ w G (by omega) x.user x.ref x.path x.write (none_dash _ (ref_in x hb)) (none_dash _ (path_in x hb)) (word_write x.write)
      (fun w G => split4 (textB x) _ _ _ _ w G (by omega) hw) HN (fun w => rulText_impl x w f1 f2)
  · exact absurd ha (hv _)
theorem rulRead_impl_none (s : ByteArray) (hs : s.size ≤ 1048576) (hno : ∀ x : RR, rulB x = true → textB x ≠ s) (w : World) (G : Glo w) :
    Calls Tryd.prog 6 #[.string s] w fun e w' => e = .returned (RuAns none) ∧ Below w.heap.size w w' := by
  by_cases h2 : 200 < s.size
  · exact rdI_long s w h2 hs
  by_cases h4 : (wds s.data.toList).length = 4
  · obtain ⟨a, b, c, d, hw⟩ := list4 _ h4
    obtain ⟨la, lb, lc, ld⟩ := words_le s a b c d hw (by omega)
    have hpos := wds_four_pos s h4
    rcases atoi_cases ⟨a.toArray⟩ (by rw [size_mk]; omega) with ⟨v, hv, HN⟩ | ⟨_, HN⟩
    · exact rdI_other s (textB (candB v b c d)) a b c d w G (by omega) v _ _ _ rfl rfl rfl (fun w G => split4 s a b c d w G (by omega) hw) HN (fun w => rulText_impl (candB v b c d) w (noneB_le b lb) (noneB_le c lc)) (bytes_ne (cand_other s hno hpos _))
    · exact rdI_err s a b c d w G (by omega) (fun w G => split4 s a b c d w G (by omega) hw) HN
  · exact rdI_few s w G (by omega) (fun w G => splitN s w G (by omega) h4)
end Go.Proofs.YtkgfoimfhlpngaaDoor.W
