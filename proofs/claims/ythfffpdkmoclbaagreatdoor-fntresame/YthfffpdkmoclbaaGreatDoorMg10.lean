/-
  Plain mathematics of sheets: the specification's way of reading, and that both ways agree. No condition.
  The walk of the specification's 'l2Entry'; what it is that a row of entries lies at a block. Condition: names of at most 4194304 bytes.
  Plain mathematics of sheets, entry by entry: which entry makes the sheet empty, and what its text is if none does. No condition but 60 entries at most where it is said.
-/
import Derived.Test.YthfffpdkmoclbaaGreatDoorMg09
import Derived.Test.YthfffpdkmoclbaaGreatDoorMg01
import Derived.Test.YthfffpdkmoclbaaGreatDoorMg03
import Derived.Test.YthfffpdkmoclbaaGreatDoorMg08
import Derived.OwnWalk
import Derived.BigQuiet
import Derived.Deep.QuietTactic
import Derived.Deep.RegionWith
namespace Go.Proofs.YthfffpdkmoclbaaGreatDoor.M
open Go.RowKit

/-- the specification's reading: what is left, the name so far, the entries so far -/
def l2F : Nat → List UInt8 → List UInt8 → List En → List En × Bool
  | 0, _, _, _ => ([], false)
  | _ + 1, [], nm, out => (out, decide (nm = []))
  | f + 1, c :: r, nm, out =>
    if c = 61 ∨ c = 47 then
      (if r.length < 8 then ([], false) else if rdB (r.take 8) then l2F f (r.drop 8) [] (out ++ [⟨nm, decide (c = 47), ((rdN (r.take 8) : Nat) : Int)⟩]) else ([], false))
    else l2F f r (nm ++ [c]) out
theorem low_ne (c : UInt8) (h : low c = true) : ¬ (c = 61 ∨ c = 47) := by rintro (rfl | rfl) <;> exact absurd h (by decide)
theorem l2_name (r : List UInt8) (out : List En) : ∀ (x nm : List UInt8) (f : Nat), x.all low = true → l2F (f + x.length) (x ++ r) nm out = l2F f r (nm ++ x) out := by
  intro x
  induction x with
  | nil => intro nm f _; simp
  | cons a x ih =>
    intro nm f h
    simp at h
    have := ih (nm ++ [a]) f (by simpa using h.2)
    show l2F (f + x.length + 1) (a :: (x ++ r)) nm out = _
    simp only [l2F]
    rw [if_neg (low_ne a h.1), this]
    simp
theorem l2_one (e : En) (r : List UInt8) (out : List En) (f : Nat) (h : okE e = true) : l2F (f + 1 + e.nm.length) (encE e ++ r) [] out = l2F f r [] (out ++ [e]) := by
  obtain ⟨h1, h2, h3⟩ := okE_parts e h
  have hl := idHex_length e.id ⟨h2, h3⟩
  obtain ⟨hr, hb⟩ := idHex_rdN e.id ⟨h2, h3⟩
  have h8 : ((idHexB e.id).data.toList ++ r).take 8 = (idHexB e.id).data.toList := by rw [← hl, List.take_left]
  have h8d : ((idHexB e.id).data.toList ++ r).drop 8 = r := by rw [← hl, List.drop_left]
  unfold encE
  rw [List.append_assoc, l2_name _ _ e.nm [] (f + 1) (nam_low _ h1), List.cons_append, List.nil_append]
  simp only [l2F]
  rw [if_pos (mrk_is _), if_neg (by rw [List.length_append, hl]; omega), h8, if_pos hb, h8d, mrk_sh, hr]
theorem l2_enc (es : List En) : ∀ (f : Nat) (out : List En), (encL es).length < f → es.all okE = true → l2F f (encL es) [] out = (out ++ es, true) := by
  induction es with
  | nil => intro f out hf _; cases f with
    | zero => omega
    | succ f => simp [encL, l2F]
  | cons e es ih =>
    intro f out hf h
    simp at h
    have hle : (encE e).length + (encL es).length < f := by simpa [encL] using hf
    have hen : e.nm.length + 1 ≤ (encE e).length := by unfold encE; simp
    obtain ⟨g, rfl⟩ : ∃ g, f = g + 1 + e.nm.length := ⟨f - 1 - e.nm.length, by omega⟩
    show l2F _ (encE e ++ encL es) [] out = _
    rw [l2_one e _ out g h.1, ih g _ (by omega) (by simpa using h.2)]
    simp
theorem okL_parts (es : List En) (h : okL es = true) : es.length ≤ 60 ∧ es.all okE = true ∧ riseB es = true := by
  unfold okL at h; rw [Bool.and_eq_true, Bool.and_eq_true, decide_eq_true_iff] at h; exact h
theorem enc_len (es : List En) (h : es.all okE = true) : (encL es).length ≤ 12 * es.length := by
  induction es with
  | nil => simp [encL]
  | cons e es ih =>
    simp at h
    have := ih (by simpa using h.2)
    obtain ⟨h1, h2, h3⟩ := okE_parts e h.1
    have hl := idHex_length e.id ⟨h2, h3⟩
    have hn : e.nm.length ≤ 3 := by unfold namB at h1; simp at h1; omega
    simp [encL, encE]; simp at hl this; omega

theorem enc_ge (es : List En) : es.length ≤ (encL es).length := by
  induction es with
  | nil => simp
  | cons e es ih =>
    have : 1 ≤ (encE e).length := by unfold encE; simp; omega
    simp [encL]; omega
/-- the entries of the sheet whose text is 83 and l, if there is one -/
def sheetI (l : List UInt8) : Option (List En) := match parseF (l.length + 1) l with
  | none => none
  | some es => if okL es then some es else none
theorem sheetI_iff (l : List UInt8) (es : List En) : sheetI l = some es ↔ okL es = true ∧ encL es = l := by
  unfold sheetI
  constructor
  · intro h
    cases hp : parseF (l.length + 1) l with
    | none => rw [hp] at h; cases h
    | some es' =>
      rw [hp] at h
      simp only [] at h
      split at h
      · rename_i hk
        simp only [Option.some.injEq] at h; subst h
        exact ⟨hk, (enc_parse _ _ _ hp).1⟩
      · cases h
  · rintro ⟨hk, rfl⟩
    obtain ⟨_, h2, _⟩ := okL_parts es hk
    have hle := enc_ge es
    rw [parse_enc es _ (by omega) h2]
    simp only []
    rw [if_pos hk]
/-- the specification finds entries es, and they make the text, just if the program finds them -/
theorem spec_some (l : List UInt8) (es : List En) (h2 : sheetT es = 83 :: l) : sheetI l = some es := by
  rw [sheetI_iff]
  unfold sheetT at h2
  split at h2
  · rename_i hk
    simp at h2
    exact ⟨hk, h2⟩
  · cases h2
theorem spec_none (l : List UInt8) (es : List En) (b : Bool) (h : l2F (l.length + 1) l [] [] = (es, b)) (h2 : b = false ∨ sheetT es ≠ 83 :: l) : sheetI l = none := by
  cases hs : sheetI l with
  | none => rfl
  | some es' =>
    exfalso
    obtain ⟨hk, rfl⟩ := (sheetI_iff _ _).1 hs
    obtain ⟨_, ha, _⟩ := okL_parts es' hk
    rw [l2_enc es' _ [] (by omega) ha] at h
    simp at h
    obtain ⟨rfl, rfl⟩ := h
    rcases h2 with h2 | h2
    · cases h2
    · exact h2 (by unfold sheetT; rw [if_pos hk])
theorem spec_long (l : List UInt8) (h : 720 < l.length) : sheetI l = none := by
  cases hs : sheetI l with
  | none => rfl
  | some es =>
    exfalso
    obtain ⟨hk, rfl⟩ := (sheetI_iff _ _).1 hs
    obtain ⟨h1, ha, _⟩ := okL_parts es hk
    have := enc_len es ha
    omega
end Go.Proofs.YthfffpdkmoclbaaGreatDoor.M
namespace Go.Proofs.YthfffpdkmoclbaaGreatDoor.W
open Go.RowKit Go.Proofs.YthfffpdkmoclbaaGreatDoor.M

def enV (e : En) : Value := .agg #[.string ⟨e.nm.toArray⟩, .bool e.sh, .int .i64 e.id]
theorem size_of (l : List UInt8) : (ByteArray.mk l.toArray).size = l.length := by simp [ByteArray.size]

set_option maxHeartbeats 400000 in
theorem l2Entry_any (e : En) (w : World) (hn : e.nm.length ≤ 4194304) :
    Calls Tryz.prog 111 #[.agg #[.string ⟨e.nm.toArray⟩, .bool e.sh, .int .i64 e.id]] w fun ev w' => ev = .returned (.bool (okE e)) ∧ Below w.heap.size w w' := by
  have hm : (ByteArray.mk e.nm.toArray).size ≤ maxLen := by rw [size_of]; unfold maxLen; omega
  cases h1 : namB e.nm
  · have hk : okE e = false := by simp [okE, h1]
    rw [hk]
    have H1 : Hid (namB (ByteArray.mk e.nm.toArray).data.toList = false) := h1
    have hs : Calls Tryz.prog 106 #[.string ⟨e.nm.toArray⟩] (w.alloc (.cells #[.string ⟨e.nm.toArray⟩, .bool e.sh, .int .i64 e.id] 90)) fun ev w' => ev = .returned (.bool false) ∧ (w.alloc (.cells #[.string ⟨e.nm.toArray⟩, .bool e.sh, .int .i64 e.id] 90)) = w' := by
      have := nam_spec ⟨e.nm.toArray⟩ (w.alloc (.cells #[.string ⟨e.nm.toArray⟩, .bool e.sh, .int .i64 e.id] 90)) hm; rwa [H1.out] at this
    clear h1 hk
    go_enter Tryz.func111, Tryz.ntmps111
    go_wp2_with (go_at_call 106; refine hs.mono ?_; rintro e w' ⟨rfl, rfl⟩)
    go_ret
    exact ⟨rfl, (Below.refl _ _).alloc (Nat.le_refl _) _⟩
  · have hs : Calls Tryz.prog 106 #[.string ⟨e.nm.toArray⟩] (w.alloc (.cells #[.string ⟨e.nm.toArray⟩, .bool e.sh, .int .i64 e.id] 90)) fun ev w' => ev = .returned (.bool true) ∧ (w.alloc (.cells #[.string ⟨e.nm.toArray⟩, .bool e.sh, .int .i64 e.id] 90)) = w' := by
      have := nam_spec ⟨e.nm.toArray⟩ (w.alloc (.cells #[.string ⟨e.nm.toArray⟩, .bool e.sh, .int .i64 e.id] 90)) hm; rwa [show namB (ByteArray.mk e.nm.toArray).data.toList = true from h1] at this
    by_cases h2 : 1 ≤ e.id ∧ e.id ≤ 4294967295
    · have hk : okE e = true := by simp [okE, h1, h2]
      rw [hk]
      clear h1 hk
      go_enter Tryz.func111, Tryz.ntmps111
      go_wp2_with (first | (go_at_call 106; refine hs.mono ?_; rintro e w' ⟨rfl, rfl⟩) | (go_at_call 129; refine (l1In_true _ _ _ _ h2.1 h2.2).mono ?_; rintro e w' ⟨rfl, rfl⟩))
      go_ret
      exact ⟨rfl, (Below.refl _ _).alloc (Nat.le_refl _) _⟩
    · have hk : okE e = false := by simp [okE, h1]; omega
      rw [hk]
      clear h1 hk
      go_enter Tryz.func111, Tryz.ntmps111
      go_wp2_with (first | (go_at_call 106; refine hs.mono ?_; rintro e w' ⟨rfl, rfl⟩) | (go_at_call 129; refine (l1In_false _ _ _ _ (by omega)).mono ?_; rintro e w' ⟨rfl, rfl⟩))
      go_ret
      exact ⟨rfl, (Below.refl _ _).alloc (Nat.le_refl _) _⟩

/-- the cells of entries, from block g on -/
def RowE (w : World) (g : Nat) (es : List En) : Prop := ∀ j (h : j < es.length), w.cell? ⟨g, j * 3, none⟩ = some (.string ⟨(es[j]).nm.toArray⟩) ∧ w.cell? ⟨g, j * 3 + 1, none⟩ = some (.bool (es[j]).sh) ∧ w.cell? ⟨g, j * 3 + 2, none⟩ = some (.int .i64 (es[j]).id)
end Go.Proofs.YthfffpdkmoclbaaGreatDoor.W
namespace Go.Proofs.YthfffpdkmoclbaaGreatDoor.M
open Go.RowKit

theorem enc_snoc (xs : List En) (e : En) : encL (xs ++ [e]) = encL xs ++ encE e := by
  induction xs with
  | nil => simp [encL]
  | cons a r ih => simp [encL, ih]
theorem rise_at (es : List En) : riseB es = true → ∀ j (h : j + 1 < es.length), Op.bytesLess (es[j]).nm (es[j + 1]).nm = true := by
  induction es with
  | nil => intro _ j h; simp at h
  | cons a r ih =>
    intro hr j h
    cases r with
    | nil => simp at h
    | cons b r =>
      simp only [riseB, Bool.and_eq_true] at hr
      cases j with
      | zero => exact hr.1
      | succ j => exact ih hr.2 j (by simpa using h)
theorem rise_of (es : List En) : (∀ j (h : j + 1 < es.length), Op.bytesLess (es[j]).nm (es[j + 1]).nm = true) → riseB es = true := by
  induction es with
  | nil => intro _; rfl
  | cons a r ih =>
    intro h
    cases r with
    | nil => rfl
    | cons b r =>
      simp only [riseB, Bool.and_eq_true]
      exact ⟨h 0 (by simp), ih fun j hj => h (j + 1) (by simpa using hj)⟩
theorem bad_ok (es : List En) (j : Nat) (h : j < es.length) (h2 : okE es[j] = false) : sheetT es = [] := by
  have : es.all okE = false := by rw [Bool.eq_false_iff]; intro ha; have := List.all_eq_true.1 ha _ (List.getElem_mem h); rw [h2] at this; cases this
  unfold sheetT okL; rw [this]; simp
theorem bad_rise (es : List En) (j : Nat) (h : j + 1 < es.length) (h2 : Op.bytesLess (es[j]).nm (es[j + 1]).nm = false) : sheetT es = [] := by
  have : riseB es = false := by rw [Bool.eq_false_iff]; intro ha; have := rise_at es ha j h; rw [h2] at this; cases this
  unfold sheetT okL; rw [this]; simp
theorem good (es : List En) (hl : es.length ≤ 60) (h1 : ∀ j (h : j < es.length), okE es[j] = true) (h2 : ∀ j (h : j + 1 < es.length), Op.bytesLess (es[j]).nm (es[j + 1]).nm = true) : sheetT es = 83 :: encL es := by
  have a : es.all okE = true := by rw [List.all_eq_true]; intro x hx; obtain ⟨i, hi, rfl⟩ := List.getElem_of_mem hx; exact h1 i hi
  unfold sheetT okL; rw [a, rise_of es h2, decide_eq_true hl]; rfl
end Go.Proofs.YthfffpdkmoclbaaGreatDoor.M
