
/-
  What is read of an edit's text is the edit whose text it is, and no other. At most 1048576 bytes.
-/
import Derived.Test.YtpdedjjciajddaaWalkEdtW
import Derived.Test.YtpdedjjciajddaaMathRound
namespace Go.Proofs.Ytpdedjjciajddaa.W
open Go.RowKit Go.Proofs.Ytpdedjjciajddaa.M

theorem low_ne (c : UInt8) (h : low c = true) : c ≠ 61 ∧ c ≠ 33 := by
  constructor
  · rintro rfl; revert h; decide
  · rintro rfl; revert h; decide
/-- the signs of a path -/
theorem spl_mem (l : List UInt8) : ∀ c ∈ l, c = 47 ∨ ∃ n ∈ spl l, c ∈ n := by
  induction l with
  | nil => intro c hc; cases hc
  | cons c0 r ih =>
    intro c hc
    unfold spl
    by_cases h0 : c0 = 47
    · rw [if_pos h0]
      rcases List.mem_cons.1 hc with h | h
      · exact .inl (h.trans h0)
      · rcases ih c h with h | ⟨n, hn, hcn⟩
        · exact .inl h
        · exact .inr ⟨n, List.mem_cons_of_mem _ hn, hcn⟩
    · rw [if_neg h0]
      rcases List.mem_cons.1 hc with h | h
      · exact .inr ⟨_, List.mem_cons_self, by rw [h]; exact List.mem_cons_self⟩
      · rcases ih c h with h | ⟨n, hn, hcn⟩
        · exact .inl h
        · cases hs : spl r with
          | nil => rw [hs] at hn; cases hn
          | cons a t =>
            rw [hs] at hn
            rcases List.mem_cons.1 hn with e | e
            · exact .inr ⟨_, List.mem_cons_self, by subst e; exact List.mem_cons_of_mem _ hcn⟩
            · exact .inr ⟨n, List.mem_cons_of_mem _ e, hcn⟩
theorem pth_mem (l : List UInt8) (h : pthB l = true) : ∀ c ∈ l, c ≠ 61 ∧ c ≠ 33 := by
  intro c hc
  have hl : l ≠ [] := by rintro rfl; cases hc
  unfold pthB nms at h
  rw [if_neg hl, Bool.and_eq_true, List.all_eq_true] at h
  rcases spl_mem l c hc with rfl | ⟨n, hn, hcn⟩
  · decide
  · have := h.2 n hn
    unfold namB at this
    rw [Bool.and_eq_true, Bool.and_eq_true, List.all_eq_true] at this
    exact low_ne c (this.2.2 c hcn)
theorem two_hex (c : UInt8) : two (hexD (c.toNat / 16)) (hexD (c.toNat % 16)) = c := by
  have h1 : c.toNat < 256 := c.toNat_lt
  unfold two
  rw [hexV_hexD ⟨c.toNat / 16, by omega⟩, hexV_hexD ⟨c.toNat % 16, by omega⟩]
  simp only [Int.toNat_natCast]
  rw [show c.toNat / 16 * 16 + c.toNat % 16 = c.toNat by omega]
  simp
theorem dec_hx : ∀ l : List UInt8, dec (hxL l) = some l
  | [] => rfl
  | c :: r => by
    have h1 : c.toNat < 256 := c.toNat_lt
    have e : hxL (c :: r) = hexD (c.toNat / 16) :: hexD (c.toNat % 16) :: hxL r := by simp [hxL]
    rw [e, dec_good _ _ _ (by rw [hexV_hexD ⟨c.toNat / 16, by omega⟩, hexV_hexD ⟨c.toNat % 16, by omega⟩]; simp only; omega), dec_hx r, two_hex]
    rfl
theorem hx_ne (l : List UInt8) : hxL l ≠ [45] := by
  intro e
  have := hxL_length l
  rw [e] at this
  simp at this
  omega
theorem rb_hx (s : ByteArray) : rbB (dashB (hxB s)) = some s.data.toList := by
  by_cases h : s.data.toList = []
  · unfold rbB dashB hxB
    rw [h]; simp [hxL]
  · have hn : (hxL s.data.toList) ≠ [] := by
      intro e
      have h2 := hxL_length s.data.toList
      rw [e, List.length_nil] at h2
      exact h (List.length_eq_zero_iff.1 (by omega))
    have hd : dashB (hxB s) = hxB s := by
      unfold dashB
      exact if_neg (by simpa [hxB] using hn)
    rw [hd]
    unfold rbB
    rw [if_neg (by simpa [hxB] using hx_ne s.data.toList)]
    simpa [hxB] using dec_hx s.data.toList
theorem toB (a : ByteArray) : ByteArray.mk a.data.toList.toArray = a := by simp
theorem inv_no (s : ByteArray) (x : TE) (hx : edB x = true) (he : edtB x = s) (hno : ∀ j : Nat, s.data.toList[j]? ≠ some 61) : x.gone = true ∧ lastB s = true ∧ x = ⟨initB s, ⟨#[]⟩, true⟩ := by
  obtain ⟨pa, by_, g⟩ := x
  cases g with
  | false =>
    rw [edtB_lays _ hx rfl] at he
    exfalso
    refine hno pa.data.toList.length ?_
    rw [← he]
    simp
  | true =>
    rw [edtB_gone _ hx rfl] at he
    have hb : by_ = ⟨#[]⟩ := by
      by_cases h : by_.data.toList = []
      · exact (list_eq_iff _ _).1 h
      · rw [edB_g _ rfl h] at hx; cases hx
    subst he
    subst hb
    refine ⟨rfl, by simp [lastB, Lib.hasSuffix], ?_⟩
    have e : initB (pa ++ ⟨#[33]⟩) = pa := by
      have e1 : (pa ++ ⟨#[33]⟩).size - 1 = pa.data.toList.length := by
        rw [ByteArray.size_append]
        show pa.size + 1 - 1 = _
        simp
      have hd : (pa ++ ⟨#[33]⟩).data.toList = pa.data.toList ++ [33] := by simp
      unfold initB
      rw [extract_pre, e1, hd, List.take_left' rfl]
    rw [e]
theorem inv_at (s : ByteArray) (x : TE) (k : Nat) (hx : edB x = true) (he : edtB x = s) (hk : k < s.data.toList.length) (hat : s.data.toList[k]? = some 61) (hbf : ∀ j : Nat, j < k → s.data.toList[j]? ≠ some 61) :
    rbB (s.extract (k + 1) s.size) = some x.by_.data.toList ∧ x = ⟨s.extract 0 k, ⟨x.by_.data.toList.toArray⟩, false⟩ := by
  obtain ⟨pa, by_, g⟩ := x
  have hp : pthB pa.data.toList = true := by
    cases h : pthB pa.data.toList with
    | true => rfl
    | false => rw [edB_p _ h] at hx; cases hx
  have hm := pth_mem _ hp
  cases g with
  | true =>
    rw [edtB_gone _ hx rfl] at he
    exfalso
    subst he
    have := List.mem_of_getElem? hat
    simp at this
    exact (hm 61 (by simpa using this)).1 rfl
  | false =>
    rw [edtB_lays _ hx rfl] at he
    subst he
    have hd : (pa ++ ⟨#[61]⟩ ++ dashB (hxB by_)).data.toList = pa.data.toList ++ 61 :: (dashB (hxB by_)).data.toList := by simp
    rw [hd] at hat hbf
    have hk2 : k = pa.data.toList.length := by
      rcases Nat.lt_trichotomy k pa.data.toList.length with h | h | h
      · rw [List.getElem?_append_left h] at hat
        exact absurd rfl (hm 61 (List.mem_of_getElem? hat)).1
      · exact h
      · exact absurd (by simp) (hbf _ h)
    subst hk2
    rw [extract_suf, extract_pre, hd]
    refine ⟨?_, ?_⟩
    · have e : ByteArray.mk ((pa.data.toList ++ 61 :: (dashB (hxB by_)).data.toList).drop (pa.data.toList.length + 1)).toArray = dashB (hxB by_) := by
        rw [show pa.data.toList ++ 61 :: (dashB (hxB by_)).data.toList = (pa.data.toList ++ [61]) ++ (dashB (hxB by_)).data.toList by simp, List.drop_left' (by simp)]
      rw [e]; exact rb_hx by_
    · have e : ByteArray.mk ((pa.data.toList ++ 61 :: (dashB (hxB by_)).data.toList).take pa.data.toList.length).toArray = pa := by
        rw [List.take_left' rfl]
      rw [e, toB]
theorem edtRead_ans (s : ByteArray) (hs : s.size ≤ 1048576) : ∃ r : Option TE, (∀ x, r = some x → edtB x = s ∧ x.pa.size ≤ 1048576 ∧ x.by_.size ≤ 1048576) ∧ (∀ x, edB x = true → edtB x = s → r = some x) ∧ (∀ w, Calls Try.prog 7 #[.string s] w fun e w' => e = .returned (EdAns r) ∧ Below w.heap.size w w') ∧ (∀ w, Calls Try.prog 8 #[.string s] w fun e w' => e = .returned (EdAns r) ∧ Below w.heap.size w w') := by
  rcases idxc 61 s.data.toList with ⟨hi, hno⟩ | ⟨k, hi, hk0, hat, hbf⟩
  · have HN : Hid (∀ j (h : j < s.size), (((s[j]).toNat : Int) == 61) = false) := fun j hj => ne61 s j hj (hno j)
    have HC : Hid (∀ w, Calls Try.prog 17 #[.string s, .string ⟨#[61]⟩] w fun e w' => e = .returned (.tuple #[.string s, .string ⟨#[]⟩, .bool false]) ∧ Below w.heap.size w w') := fun w => cut61_no s w hi
    have HR : Hid (∀ w, Calls Try.prog 18 #[.string ⟨#[]⟩] w fun e w' => e = .returned (.tuple #[.string ⟨#[]⟩, .bool true]) ∧ Below w.heap.size w w') := fun w => rb_some ⟨#[]⟩ [] w (by decide) rb_nil
    have HZ : Hid (∀ w, Calls Try.prog 9 #[.agg #[.string ⟨#[]⟩, .string ⟨#[]⟩, .bool false]] w fun e w' => e = .returned (.string ⟨#[]⟩) ∧ Below w.heap.size w w') := fun w => edS _ _ _ _ w (by decide) (by decide) (edtB_no _ (edB_e _ rfl))
    cases hl : lastB s
    · refine ⟨none, fun _ h => (by cases h), fun x hx he => (by obtain ⟨_, h2⟩ := inv_no s x hx he hno; rw [hl] at h2; exact absurd h2.1 (by decide)), fun w => er_no_bad s s s ⟨#[]⟩ ⟨#[]⟩ s w hs HC HR (fun w => by have := suf_any s false w hs hl; simpa using this), fun w => ?_⟩
      by_cases h1 : 1 < s.size
      · exact sr_no_notlast s s w hs HN HZ h1 ((last_is s h1).trans hl)
      · exact sr_no_short s s w hs HN HZ h1
    · have hsp := suf_pos s hl
      have hip : (initB s).size ≤ 1048576 := ext_size s _ _ hs
      have HS : Hid (∀ w, Calls Try.prog 19 #[.string s, .string ⟨#[33]⟩] w fun e w' => e = .returned (.tuple #[.string (initB s), .bool true]) ∧ w = w') := fun w => by have := suf_any s true w hs hl; simpa using this
      by_cases hT : edtB ⟨initB s, ⟨#[]⟩, true⟩ = s
      · have h1 : 1 < s.size := by
          cases hb : edB ⟨initB s, ⟨#[]⟩, true⟩
          · rw [edtB_no _ hb] at hT; exact absurd hT.symm (size0 s hsp)
          · by_cases h1 : 1 < s.size
            · exact h1
            · have : initB s = ⟨#[]⟩ := by
                unfold initB
                rw [show s.size - 1 = 0 by omega, extract_pre]; rfl
              rw [this] at hb
              rw [edB_e _ rfl] at hb
              cases hb
        refine ⟨some ⟨initB s, ⟨#[]⟩, true⟩, fun x h => (by cases h; exact ⟨hT, hip, by show (ByteArray.mk #[]).size ≤ 1048576; decide⟩), fun x hx he => (by obtain ⟨_, h2⟩ := inv_no s x hx he hno; rw [← h2.2]), fun w => er_no_same s (initB s) s ⟨#[]⟩ ⟨#[]⟩ s w hs HC HR HS (fun w => edI _ _ _ _ w hip (by decide) hT), fun w => ?_⟩
        exact sr_last_same s s w hs HN (fun w => edS _ _ _ _ w hip (by decide) hT) h1 ((last_is s h1).trans hl) (empty_of s (size0 s hsp))
      · refine ⟨none, fun _ h => (by cases h), fun x hx he => (by obtain ⟨_, h2⟩ := inv_no s x hx he hno; rw [← h2.2] at hT; exact absurd he hT), fun w => er_no_other s (initB s) s ⟨#[]⟩ ⟨#[]⟩ _ w hs HC HR HS (fun w => edI _ _ _ _ w hip (by decide) rfl) (neq_of _ _ hT), fun w => ?_⟩
        by_cases h1 : 1 < s.size
        · by_cases h0 : edtB ⟨initB s, ⟨#[]⟩, true⟩ = ⟨#[]⟩
          · exact sr_last_empty s s w hs HN (fun w => edS _ _ _ _ w hip (by decide) h0) h1 ((last_is s h1).trans hl)
          · exact sr_last_other s _ w hs HN (fun w => edS _ _ _ _ w hip (by decide) rfl) h1 ((last_is s h1).trans hl) (empty_of _ h0) (neq_of _ _ hT)
        · exact sr_no_short s s w hs HN HZ h1
  · have hk : k < s.size := by simpa using hk0
    have HN : Hid (∀ j (h : j < s.size), j < k → (((s[j]).toNat : Int) == 61) = false) := fun j hj hl => ne61 s j hj (hbf j hl)
    have HE : Hid ((((s[k]).toNat : Int) == 61) = true) := eq61 s k hk hat
    have HC : Hid (∀ w, Calls Try.prog 17 #[.string s, .string ⟨#[61]⟩] w fun e w' => e = .returned (.tuple #[.string (s.extract 0 k), .string (s.extract (k + 1) s.size), .bool true]) ∧ Below w.heap.size w w') := fun w => cut61_at s k w hs hi hk
    have hd : (s.extract (k + 1) s.size).size ≤ 1048576 := ext_size s _ _ hs
    have hp : (s.extract 0 k).size ≤ 1048576 := ext_size s _ _ hs
    cases hr : rbB (s.extract (k + 1) s.size) with
    | none =>
      have hl : lbB (s.extract (k + 1) s.size) = none := by
        cases hl : lbB (s.extract (k + 1) s.size) with
        | none => rfl
        | some b => rw [lb_rb _ _ hl] at hr; cases hr
      exact ⟨none, fun _ h => (by cases h), fun x hx he => (by obtain ⟨h2, _⟩ := inv_at s x k hx he hk0 hat hbf; rw [h2] at hr; cases hr), fun w => er_at_bad s (s.extract 0 k) s (s.extract (k + 1) s.size) ⟨#[]⟩ s w hs HC (fun w => rb_none _ w hd hr), fun w => sr_at_bad s s ⟨#[]⟩ k w hs hk HN HE (fun w => lb_none _ w hd hl)⟩
    | some b =>
      have hq := dec_small _ b hr hd
      have HR : Hid (∀ w, Calls Try.prog 18 #[.string (s.extract (k + 1) s.size)] w fun e w' => e = .returned (.tuple #[.string ⟨b.toArray⟩, .bool true]) ∧ Below w.heap.size w w') := fun w => rb_some _ b w hd hr
      cases hl : lbB (s.extract (k + 1) s.size) with
      | none =>
        have hT := bad_ne s k b hk hl hr
        exact ⟨none, fun _ h => (by cases h), fun x hx he => (by obtain ⟨h2, h3⟩ := inv_at s x k hx he hk0 hat hbf; rw [hr] at h2; cases h2; rw [← h3] at hT; exact absurd he hT), fun w => er_at_other s (s.extract 0 k) s (s.extract (k + 1) s.size) ⟨b.toArray⟩ _ w hs HC HR (fun w => edI _ _ _ _ w hp hq rfl) (neq_of _ _ hT), fun w => sr_at_bad s s ⟨#[]⟩ k w hs hk HN HE (fun w => lb_none _ w hd hl)⟩
      | some b' =>
        have e := lb_rb _ _ hl
        rw [hr] at e
        cases e
        have HL : Hid (∀ w, Calls Try.prog 20 #[.string (s.extract (k + 1) s.size)] w fun e w' => e = .returned (.tuple #[.string ⟨b.toArray⟩, .bool true]) ∧ Below w.heap.size w w') := fun w => lb_some _ b w hd hl
        by_cases hT : edtB ⟨s.extract 0 k, ⟨b.toArray⟩, false⟩ = s
        · exact ⟨some ⟨s.extract 0 k, ⟨b.toArray⟩, false⟩, fun x h => (by cases h; exact ⟨hT, hp, hq⟩), fun x hx he => (by obtain ⟨h2, h3⟩ := inv_at s x k hx he hk0 hat hbf; rw [hr] at h2; cases h2; rw [← h3]), fun w => er_at_same s (s.extract 0 k) s (s.extract (k + 1) s.size) ⟨b.toArray⟩ s w hs HC HR (fun w => edI _ _ _ _ w hp hq hT), fun w => sr_at_same s s ⟨b.toArray⟩ k w hs hk HN HE HL (fun w => edS _ _ _ _ w hp hq hT) (empty_of s (size0 s (by omega)))⟩
        · refine ⟨none, fun _ h => (by cases h), fun x hx he => (by obtain ⟨h2, h3⟩ := inv_at s x k hx he hk0 hat hbf; rw [hr] at h2; cases h2; rw [← h3] at hT; exact absurd he hT), fun w => er_at_other s (s.extract 0 k) s (s.extract (k + 1) s.size) ⟨b.toArray⟩ _ w hs HC HR (fun w => edI _ _ _ _ w hp hq rfl) (neq_of _ _ hT), fun w => ?_⟩
          by_cases h0 : edtB ⟨s.extract 0 k, ⟨b.toArray⟩, false⟩ = ⟨#[]⟩
          · exact sr_at_empty s s ⟨b.toArray⟩ k w hs hk HN HE HL (fun w => edS _ _ _ _ w hp hq h0)
          · exact sr_at_other s _ ⟨b.toArray⟩ k w hs hk HN HE HL (fun w => edS _ _ _ _ w hp hq rfl) (empty_of _ h0) (neq_of _ _ hT)
/-- what is read of a text, by the program and the specification -/
theorem readPair (s : ByteArray) (hs : s.size ≤ 1048576) : ∃ (y : TE) (b : Bool), Hid (∀ w, Calls Try.prog 7 #[.string s] w fun e w' => e = .returned (.tuple #[.agg #[.string y.pa, .string y.by_, .bool y.gone], .bool b]) ∧ Below w.heap.size w w') ∧
    Hid (∀ w, Calls Try.prog 8 #[.string s] w fun e w' => e = .returned (.tuple #[.agg #[.string y.pa, .string y.by_, .bool y.gone], .bool b]) ∧ Below w.heap.size w w') ∧ Hid (b = true → edtB y = s) ∧ y.pa.size ≤ 1048576 ∧ y.by_.size ≤ 1048576 := by
  obtain ⟨r, h1, _, hI, hS⟩ := edtRead_ans s hs
  cases r with
  | none => exact ⟨⟨⟨#[]⟩, ⟨#[]⟩, false⟩, false, hI, hS, fun h => (by cases h), by show (ByteArray.mk #[]).size ≤ 1048576; decide, by show (ByteArray.mk #[]).size ≤ 1048576; decide⟩
  | some y => exact ⟨y, true, hI, hS, fun _ => (h1 y rfl).1, (h1 y rfl).2.1, (h1 y rfl).2.2⟩
/-- an edit that has a text is read from it -/
theorem readBack (x : TE) (hx : edB x = true) (hs : (edtB x).size ≤ 1048576) : Hid (∀ w, Calls Try.prog 7 #[.string (edtB x)] w fun e w' => e = .returned (.tuple #[.agg #[.string x.pa, .string x.by_, .bool x.gone], .bool true]) ∧ Below w.heap.size w w') := by
  obtain ⟨r, _, h2, hI, _⟩ := edtRead_ans (edtB x) hs
  have := h2 x hx rfl
  subst this
  exact hI
theorem edtB_a : edtB ⟨⟨#[97]⟩, ⟨#[]⟩, true⟩ = ⟨#[97, 33]⟩ := by
  rw [edtB_gone _ (by decide) rfl]
  rw [← list_eq_iff]
  simp
end Go.Proofs.Ytpdedjjciajddaa.W
