
/-
  EdtRead of the program and of the specification answer the same. Texts of at most 1048576 bytes.
-/
import Derived.Test.YtpdedjjciajddaaWalkEdtS
import Derived.Test.YtpdedjjciajddaaWalkEdtV
namespace Go.Proofs.Ytpdedjjciajddaa.W
open Go.RowKit Go.Proofs.Ytpdedjjciajddaa.M

theorem lb_some (d : ByteArray) (b : List UInt8) (w : World) (hs : d.size ≤ 1048576) (h : lbB d = some b) :
    Calls Try.prog 20 #[.string d] w fun e w' => e = .returned (.tuple #[.string ⟨b.toArray⟩, .bool true]) ∧ Below w.heap.size w w' := by
  have := l6Bytes_any d w hs
  rwa [h] at this
theorem lb_none (d : ByteArray) (w : World) (hs : d.size ≤ 1048576) (h : lbB d = none) :
    Calls Try.prog 20 #[.string d] w fun e w' => e = .returned (.tuple #[.string ⟨#[]⟩, .bool false]) ∧ Below w.heap.size w w' := by
  have := l6Bytes_any d w hs
  rwa [h] at this
theorem edI (p q T : ByteArray) (g : Bool) (w : World) (hp : p.size ≤ 1048576) (hq : q.size ≤ 1048576) (h : edtB ⟨p, q, g⟩ = T) :
    Calls Try.prog 5 #[.agg #[.string p, .string q, .bool g]] w fun e w' => e = .returned (.string T) ∧ Below w.heap.size w w' := by
  subst h; exact edtText_impl ⟨p, q, g⟩ w hp hq
theorem edS (p q T : ByteArray) (g : Bool) (w : World) (hp : p.size ≤ 1048576) (hq : q.size ≤ 1048576) (h : edtB ⟨p, q, g⟩ = T) :
    Calls Try.prog 9 #[.agg #[.string p, .string q, .bool g]] w fun e w' => e = .returned (.string T) ∧ Below w.heap.size w w' := by
  subst h; exact edtText_spec ⟨p, q, g⟩ w hp hq
theorem size0 (s : ByteArray) (h : 1 ≤ s.size) : s ≠ ⟨#[]⟩ := fun e => by rw [e] at h; exact absurd h (by decide)
theorem empty_of (T : ByteArray) (h : T ≠ ⟨#[]⟩) : T.toList.isEmpty = false := by
  refine nonempty_f T (fun e => h ?_)
  rw [whole T, e]
theorem neq_of (T s : ByteArray) (h : T ≠ s) : (T.toList == s.toList) = false := eq_f _ _ (fun e => h ((list_eq_iff _ _).1 e))
theorem last_is (s : ByteArray) (h : 1 < s.size) : (((s[s.size - 1]'(by omega)).toNat : Int) == 33) = lastB s := by
  have e0 : s.data.toList = s.data.toList.take (s.size - 1) ++ [s[s.size - 1]'(by omega)] := by
    have := take_at s (s.size - 1) (by omega)
    rw [show s.size - 1 + 1 = s.size by omega, List.take_of_length_le (by simp)] at this
    exact this
  have e1 : lastB s = decide ((s[s.size - 1]'(by omega)) = 33) := by
    unfold lastB Lib.hasSuffix
    rw [e0]
    by_cases hc : (s[s.size - 1]'(by omega)) = 33
    · rw [hc, decide_eq_true rfl]
      rw [List.isSuffixOf_iff_suffix]
      exact ⟨_, rfl⟩
    · rw [decide_eq_false hc]
      rw [Bool.eq_false_iff]
      intro hx
      rw [List.isSuffixOf_iff_suffix] at hx
      obtain ⟨t, ht⟩ := hx
      have := congrArg List.getLast? ht
      simp at this
      exact hc this.symm
  rw [e1]
  by_cases hc : (s[s.size - 1]'(by omega)) = 33
  · rw [hc]; rfl
  · rw [decide_eq_false hc, beq_eq_false_iff_ne]
    intro e
    exact hc (UInt8.toNat.inj (by have : (33 : UInt8).toNat = 33 := rfl; omega))
theorem dec_small (d : ByteArray) (b : List UInt8) (h : rbB d = some b) (hs : d.size ≤ 1048576) : (ByteArray.mk b.toArray).size ≤ 1048576 := by
  rw [size_mk]
  unfold rbB at h
  split at h
  · cases h; simp
  · have := dec_len _ _ _ (Nat.le_refl _) h
    have e : d.data.toList.length = d.size := by simp
    omega
theorem bad_ne (s : ByteArray) (k : Nat) (b : List UInt8) (hk : k < s.size) (h : lbB (s.extract (k + 1) s.size) = none) (h2 : rbB (s.extract (k + 1) s.size) = some b) : edtB ⟨s.extract 0 k, ⟨b.toArray⟩, false⟩ ≠ s := by
  have hne := size0 s (by omega)
  intro e
  cases hb : edB ⟨s.extract 0 k, ⟨b.toArray⟩, false⟩
  · rw [edtB_no _ hb] at e; exact hne e.symm
  · rcases lb_no _ _ h h2 with ⟨h0, rfl⟩ | h6
    · rw [edtB_lays _ hb rfl] at e
      have hsz := congrArg ByteArray.size e
      rw [ByteArray.size_append, ByteArray.size_append, ByteArray.size_extract] at hsz
      have hd : (dashB (hxB ⟨#[]⟩)).size = 1 := by decide
      have h1 : (ByteArray.mk #[61]).size = 1 := by decide
      rw [ByteArray.size_extract] at h0
      have hd' : (dashB (hxB ⟨([] : List UInt8).toArray⟩)).size = 1 := hd
      simp only at hsz
      rw [hd', h1] at hsz
      omega
    · have := edB_short _ hb
      simp only at this
      rw [size_mk] at this
      omega
theorem rb_nil : rbB ⟨#[]⟩ = some [] := by simp [rbB, dec]

theorem edtRead_both (s : ByteArray) (hs : s.size ≤ 1048576) : ∃ r : Option TE, (∀ w, Calls Try.prog 7 #[.string s] w fun e w' => e = .returned (EdAns r) ∧ Below w.heap.size w w') ∧ (∀ w, Calls Try.prog 8 #[.string s] w fun e w' => e = .returned (EdAns r) ∧ Below w.heap.size w w') := by
  rcases idxc 61 s.data.toList with ⟨hi, hno⟩ | ⟨k, hi, hk0, hat, hbf⟩
  · have HN : Hid (∀ j (h : j < s.size), (((s[j]).toNat : Int) == 61) = false) := fun j hj => ne61 s j hj (hno j)
    have HC : Hid (∀ w, Calls Try.prog 17 #[.string s, .string ⟨#[61]⟩] w fun e w' => e = .returned (.tuple #[.string s, .string ⟨#[]⟩, .bool false]) ∧ Below w.heap.size w w') := fun w => cut61_no s w hi
    have HR : Hid (∀ w, Calls Try.prog 18 #[.string ⟨#[]⟩] w fun e w' => e = .returned (.tuple #[.string ⟨#[]⟩, .bool true]) ∧ Below w.heap.size w w') := fun w => rb_some ⟨#[]⟩ [] w (by decide) rb_nil
    have HZ : Hid (∀ w, Calls Try.prog 9 #[.agg #[.string ⟨#[]⟩, .string ⟨#[]⟩, .bool false]] w fun e w' => e = .returned (.string ⟨#[]⟩) ∧ Below w.heap.size w w') := fun w => edS _ _ _ _ w (by decide) (by decide) (edtB_no _ (edB_e _ rfl))
    cases hl : lastB s
    · refine ⟨none, fun w => er_no_bad s s s ⟨#[]⟩ ⟨#[]⟩ s w hs HC HR (fun w => by have := suf_any s false w hs hl; simpa using this), fun w => ?_⟩
      by_cases h1 : 1 < s.size
      · exact sr_no_notlast s s w hs HN HZ h1 ((last_is s h1).trans hl)
      · exact sr_no_short s s w hs HN HZ h1
    · have hsp := suf_pos s hl
      have hip : (initB s).size ≤ 1048576 := ext_size s _ _ hs
      have HS : Hid (∀ w, Calls Try.prog 19 #[.string s, .string ⟨#[33]⟩] w fun e w' => e = .returned (.tuple #[.string (initB s), .bool true]) ∧ w = w') := fun w => by have := suf_any s true w hs hl; simpa using this
      by_cases hT : edtB ⟨initB s, ⟨#[]⟩, true⟩ = s
      · have h1 : 1 < s.size := by
          cases hb : edB ⟨initB s, ⟨#[]⟩, true⟩
          · rw [edtB_no _ hb] at hT; exact absurd hT.symm (size0 s hsp)
          · by_cases h1 : 1 < s.size
            · exact h1
            · have : initB s = ⟨#[]⟩ := by
                unfold initB
                rw [show s.size - 1 = 0 by omega, extract_pre]; rfl
              rw [this] at hb
              rw [edB_e _ rfl] at hb
              cases hb
        refine ⟨some ⟨initB s, ⟨#[]⟩, true⟩, fun w => er_no_same s (initB s) s ⟨#[]⟩ ⟨#[]⟩ s w hs HC HR HS (fun w => edI _ _ _ _ w hip (by decide) hT), fun w => ?_⟩
        exact sr_last_same s s w hs HN (fun w => edS _ _ _ _ w hip (by decide) hT) h1 ((last_is s h1).trans hl) (empty_of s (size0 s hsp))
      · refine ⟨none, fun w => er_no_other s (initB s) s ⟨#[]⟩ ⟨#[]⟩ _ w hs HC HR HS (fun w => edI _ _ _ _ w hip (by decide) rfl) (neq_of _ _ hT), fun w => ?_⟩
        by_cases h1 : 1 < s.size
        · by_cases h0 : edtB ⟨initB s, ⟨#[]⟩, true⟩ = ⟨#[]⟩
          · exact sr_last_empty s s w hs HN (fun w => edS _ _ _ _ w hip (by decide) h0) h1 ((last_is s h1).trans hl)
          · exact sr_last_other s _ w hs HN (fun w => edS _ _ _ _ w hip (by decide) rfl) h1 ((last_is s h1).trans hl) (empty_of _ h0) (neq_of _ _ hT)
        · exact sr_no_short s s w hs HN HZ h1
  · have hk : k < s.size := by simpa using hk0
    have HN : Hid (∀ j (h : j < s.size), j < k → (((s[j]).toNat : Int) == 61) = false) := fun j hj hl => ne61 s j hj (hbf j hl)
    have HE : Hid ((((s[k]).toNat : Int) == 61) = true) := eq61 s k hk hat
    have HC : Hid (∀ w, Calls Try.prog 17 #[.string s, .string ⟨#[61]⟩] w fun e w' => e = .returned (.tuple #[.string (s.extract 0 k), .string (s.extract (k + 1) s.size), .bool true]) ∧ Below w.heap.size w w') := fun w => cut61_at s k w hs hi hk
    have hd : (s.extract (k + 1) s.size).size ≤ 1048576 := ext_size s _ _ hs
    have hp : (s.extract 0 k).size ≤ 1048576 := ext_size s _ _ hs
    cases hr : rbB (s.extract (k + 1) s.size) with
    | none =>
      have hl : lbB (s.extract (k + 1) s.size) = none := by
        cases hl : lbB (s.extract (k + 1) s.size) with
        | none => rfl
        | some b => rw [lb_rb _ _ hl] at hr; cases hr
      exact ⟨none, fun w => er_at_bad s (s.extract 0 k) s (s.extract (k + 1) s.size) ⟨#[]⟩ s w hs HC (fun w => rb_none _ w hd hr), fun w => sr_at_bad s s ⟨#[]⟩ k w hs hk HN HE (fun w => lb_none _ w hd hl)⟩
    | some b =>
      have hq := dec_small _ b hr hd
      have HR : Hid (∀ w, Calls Try.prog 18 #[.string (s.extract (k + 1) s.size)] w fun e w' => e = .returned (.tuple #[.string ⟨b.toArray⟩, .bool true]) ∧ Below w.heap.size w w') := fun w => rb_some _ b w hd hr
      cases hl : lbB (s.extract (k + 1) s.size) with
      | none =>
        have hT := bad_ne s k b hk hl hr
        exact ⟨none, fun w => er_at_other s (s.extract 0 k) s (s.extract (k + 1) s.size) ⟨b.toArray⟩ _ w hs HC HR (fun w => edI _ _ _ _ w hp hq rfl) (neq_of _ _ hT), fun w => sr_at_bad s s ⟨#[]⟩ k w hs hk HN HE (fun w => lb_none _ w hd hl)⟩
      | some b' =>
        have e := lb_rb _ _ hl
        rw [hr] at e
        cases e
        have HL : Hid (∀ w, Calls Try.prog 20 #[.string (s.extract (k + 1) s.size)] w fun e w' => e = .returned (.tuple #[.string ⟨b.toArray⟩, .bool true]) ∧ Below w.heap.size w w') := fun w => lb_some _ b w hd hl
        by_cases hT : edtB ⟨s.extract 0 k, ⟨b.toArray⟩, false⟩ = s
        · exact ⟨some ⟨s.extract 0 k, ⟨b.toArray⟩, false⟩, fun w => er_at_same s (s.extract 0 k) s (s.extract (k + 1) s.size) ⟨b.toArray⟩ s w hs HC HR (fun w => edI _ _ _ _ w hp hq hT), fun w => sr_at_same s s ⟨b.toArray⟩ k w hs hk HN HE HL (fun w => edS _ _ _ _ w hp hq hT) (empty_of s (size0 s (by omega)))⟩
        · refine ⟨none, fun w => er_at_other s (s.extract 0 k) s (s.extract (k + 1) s.size) ⟨b.toArray⟩ _ w hs HC HR (fun w => edI _ _ _ _ w hp hq rfl) (neq_of _ _ hT), fun w => ?_⟩
          by_cases h0 : edtB ⟨s.extract 0 k, ⟨b.toArray⟩, false⟩ = ⟨#[]⟩
          · exact sr_at_empty s s ⟨b.toArray⟩ k w hs hk HN HE HL (fun w => edS _ _ _ _ w hp hq h0)
          · exact sr_at_other s _ ⟨b.toArray⟩ k w hs hk HN HE HL (fun w => edS _ _ _ _ w hp hq rfl) (empty_of _ h0) (neq_of _ _ hT)
end Go.Proofs.Ytpdedjjciajddaa.W
