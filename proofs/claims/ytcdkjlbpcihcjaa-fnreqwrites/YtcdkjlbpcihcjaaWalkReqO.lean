/-
  What ReqOk asks of a request's numbers, names and edits: the program's helpers and the specification's. Texts of at most 1048576 bytes.
  ReqOk of the program and of the specification. Texts of at most 1048576 bytes.
-/
import Derived.Test.YtcdkjlbpcihcjaaRowQ
import Derived.Test.YtcdkjlbpcihcjaaWalkRul
import Derived.Test.YtcdkjlbpcihcjaaWalkEdt
namespace Go.Proofs.Ytcdkjlbpcihcjaa.W
open Go.RowKit Go.Proofs.Ytcdkjlbpcihcjaa.M

def inB (n a b : Int) : Bool := decide (a ≤ n ∧ n ≤ b)
theorem inB_yes {n a b : Int} (h : inB n a b = true) : a ≤ n ∧ n ≤ b := of_decide_eq_true h
theorem inB_no {n a b : Int} (h : inB n a b = false) : n < a ∨ b < n := by
  have := of_decide_eq_false h
  omega
theorem in_spec (n a b : Int) (k : Bool) (w : World) (h : inB n a b = k) :
    Calls Try.prog 16 #[.int .i64 n, .int .i64 a, .int .i64 b] w fun e w' => e = .returned (.bool k) ∧ w = w' := by
  cases k
  · exact l1In_false n a b w (inB_no h)
  · exact l1In_true n a b w (inB_yes h).1 (inB_yes h).2
theorem in_impl (n b : Int) (k : Bool) (w : World) (h : inB n 0 b = k) :
    Calls Try.prog 26 #[.int .i64 n, .int .i64 b] w fun e w' => e = .returned (.bool k) ∧ w = w' := by
  by_cases h1 : 0 ≤ n
  · by_cases h2 : n ≤ b
    · obtain rfl : k = true := by rw [← h]; exact decide_eq_true ⟨h1, h2⟩
      go_enter Try.func26, Try.ntmps26
      go_wp2
      go_ret
      exact ⟨rfl, rfl⟩
    · obtain rfl : k = false := by rw [← h]; exact decide_eq_false (fun q => h2 q.2)
      go_enter Try.func26, Try.ntmps26
      go_wp2
      go_ret
      exact ⟨rfl, rfl⟩
  · obtain rfl : k = false := by rw [← h]; exact decide_eq_false (fun q => h1 q.1)
    go_enter Try.func26, Try.ntmps26
    go_wp2
    go_ret
    exact ⟨rfl, rfl⟩
def emB (s : ByteArray) : Bool := decide (s.data.toList = []) || namB s.data.toList
theorem emB_e (s : ByteArray) (h : s.data.toList = []) : emB s = true := by simp [emB, h]
theorem emB_n (s : ByteArray) (h : s.data.toList ≠ []) : emB s = namB s.data.toList := by simp [emB, h]
theorem em_impl (s : ByteArray) (k : Bool) (w : World) (h : emB s = k) :
    Calls Try.prog 12 #[.string s] w fun e w' => e = .returned (.bool k) ∧ w = w' := by
  subst h
  by_cases h1 : s.data.toList = []
  · rw [emB_e s h1]
    have z1 : s.toList.isEmpty = true := empty_t _ h1
    go_enter Try.func12, Try.ntmps12
    go_wp2
    go_ret
    exact ⟨rfl, rfl⟩
  · rw [emB_n s h1]
    have z1 : s.toList.isEmpty = false := nonempty_f _ h1
    generalize hk : namB s.data.toList = k
    have HK : Hid (namB s.data.toList = k) := hk
    clear hk
    go_enter Try.func12, Try.ntmps12
    go_wp2_with (go_at_call 27; refine (nam_all s _).mono ?_; rw [HK.out]; rintro e w' ⟨rfl, rfl⟩)
    go_ret
    exact ⟨rfl, rfl⟩
end Go.Proofs.Ytcdkjlbpcihcjaa.W
namespace Go.Proofs.Ytcdkjlbpcihcjaa.W
open Go.RowKit Go.Proofs.Ytcdkjlbpcihcjaa.M

def numB (x : RQ) : Bool := inB x.user 0 99 && (inB x.repo 0 99 && (inB x.old 0 99 && (inB x.back 0 99 && (inB x.from_ 0 99 && (inB x.key 0 9999 && (decide (1 ≤ x.kind) && decide (x.kind ≤ 11)))))))
theorem numB_eq (x : RQ) : numB x = (inB x.user 0 99 && (inB x.repo 0 99 && (inB x.old 0 99 && (inB x.back 0 99 && (inB x.from_ 0 99 && (inB x.key 0 9999 && (inB x.kind 1 11))))))) := by
  unfold numB
  have : (decide (1 ≤ x.kind) && decide (x.kind ≤ 11)) = inB x.kind 1 11 := by unfold inB; simp [Bool.decide_and]
  rw [this]
/-- a request that is ok -/
def okQ (x : RQ) : Bool := numB x && (emB x.ref && (emB x.other && (pthB x.path.data.toList && (rulB x.rule && edsB x.edits))))

set_option maxRecDepth 100000 in
set_option maxHeartbeats 4000000 in
theorem numbers_impl (x : RQ) (v : Value) (k : Bool) (w : World) (h : numB x = k) :
    Calls Try.prog 11 #[.agg (x.at_ v)] w fun e w' => e = .returned (.bool k) ∧ Below w.heap.size w w' := by
  subst h
  obtain ⟨w0, hw0, D, B0⟩ : ∃ w0, w.alloc (.cells (x.at_ v) 27) = w0 ∧ AtQ w0 w.heap.size x v ∧ Below w.heap.size w w0 := ⟨_, rfl, atQ_new w x _ _, (Below.refl _ w).alloc (Nat.le_refl _) _⟩
  obtain ⟨d0, d1, d2, d3, d4, d5, d6, d7, d8, d9, d10, d11, d12, d13, d14⟩ := D.all
  clear D
  simp only [RQ.at_] at hw0 ⊢
  unfold numB
  cases k1 : inB x.user 0 99
  rotate_left
  cases k2 : inB x.repo 0 99
  rotate_left
  cases k3 : inB x.old 0 99
  rotate_left
  cases k4 : inB x.back 0 99
  rotate_left
  cases k5 : inB x.from_ 0 99
  rotate_left
  cases k6 : inB x.key 0 9999
  rotate_left
  by_cases k7 : 1 ≤ x.kind
  by_cases k8 : x.kind ≤ 11
  · have e7 : decide (1 ≤ x.kind) = true := decide_eq_true k7
    have e8 : decide (x.kind ≤ 11) = true := decide_eq_true k8
    rw [e7, e8]
    clear e7 e8
    go_enter Try.func11, Try.ntmps11
    go_wp2_with (go_at_call 26; refine (in_impl _ _ _ _ (by assumption)).mono ?_; rintro e w' ⟨rfl, rfl⟩)
    go_ret
    exact ⟨rfl, B0⟩
  · have e7 : decide (1 ≤ x.kind) = true := decide_eq_true k7
    have e8 : decide (x.kind ≤ 11) = false := decide_eq_false k8
    rw [e7, e8]
    clear e7 e8
    go_enter Try.func11, Try.ntmps11
    go_wp2_with (go_at_call 26; refine (in_impl _ _ _ _ (by assumption)).mono ?_; rintro e w' ⟨rfl, rfl⟩)
    go_ret
    exact ⟨ret_bool (by simp; omega), B0⟩
  · have e7 : decide (1 ≤ x.kind) = false := decide_eq_false k7
    rw [e7]
    clear e7
    go_enter Try.func11, Try.ntmps11
    go_wp2_with (go_at_call 26; refine (in_impl _ _ _ _ (by assumption)).mono ?_; rintro e w' ⟨rfl, rfl⟩)
    go_ret
    exact ⟨rfl, B0⟩
  all_goals
    go_enter Try.func11, Try.ntmps11
    go_wp2_with (go_at_call 26; refine (in_impl _ _ _ _ (by assumption)).mono ?_; rintro e w' ⟨rfl, rfl⟩)
    go_ret
    exact ⟨rfl, B0⟩
theorem szQ_each (x : RQ) (h : szQ x ≤ 1048576) : x.ref.size ≤ 1048576 ∧ x.path.size ≤ 1048576 ∧ x.other.size ≤ 1048576 ∧ x.rule.ref.size ≤ 1048576 ∧ x.rule.path.size ≤ 1048576 ∧ x.edits.length ≤ 1048576 ∧ ∀ j (h : j < x.edits.length), (x.edits[j]).pa.size ≤ 1048576 ∧ (x.edits[j]).by_.size ≤ 1048576 := by
  unfold szQ at h
  refine ⟨by omega, by omega, by omega, by omega, by omega, by omega, fun j hj => ?_⟩
  have h1 := szE_snoc x.edits j hj
  have h2 := szE_le x.edits (j + 1)
  omega
theorem pth_is (s : ByteArray) (k : Bool) (w : World) (hs : s.size ≤ 1048576) (h : pthB s.data.toList = k) :
    Calls Try.prog 13 #[.string s] w fun e w' => e = .returned (.bool k) ∧ Below w.heap.size w w' := by
  subst h; exact pthOk_impl s w (by omega)
theorem rul_is (x : RR) (k : Bool) (w : World) (hr : x.ref.size ≤ 1048576) (hp : x.path.size ≤ 1048576) (h : rulB x = k) :
    Calls Try.prog 14 #[.agg #[.int .i64 x.user, .string x.ref, .string x.path, .bool x.write]] w fun e w' => e = .returned (.bool k) ∧ Below w.heap.size w w' := by
  subst h; exact rulOk_impl x w hr hp

set_option maxRecDepth 100000 in
set_option maxHeartbeats 8000000 in
theorem reqOk_impl (x : RQ) (A : Option Addr) (c : Nat) (w : World) (hL : RdE w.heap.size w A x.edits) (hz : szQ x ≤ 1048576) :
    Calls Try.prog 7 #[.agg (x.at_ (.slice A x.edits.length c))] w fun e w' => e = .returned (.bool (okQ x)) ∧ Below w.heap.size w w' := by
  obtain ⟨s1, s2, s3, s4, s5, s6, s7⟩ := szQ_each x hz
  have HT : Hid (∀ j (h : j < x.edits.length), (x.edits[j]).pa.size ≤ 1048576 ∧ (x.edits[j]).by_.size ≤ 1048576) := s7
  clear s7 hz
  obtain ⟨w0, hw0, D, B⟩ : ∃ w0, w.alloc (.cells (x.at_ (.slice A x.edits.length c)) 27) = w0 ∧ AtQ w0 w.heap.size x (.slice A x.edits.length c) ∧ Below w.heap.size w w0 := ⟨_, rfl, atQ_new w x _ _, (Below.refl _ w).alloc (Nat.le_refl _) _⟩
  have HL : Hid (RdE w.heap.size w A x.edits) := hL
  clear hL
  obtain ⟨d0, d1, d2, d3, d4, d5, d6, d7, d8, d9, d10, d11, d12, d13, d14⟩ := D.all
  simp only [RQ.at_] at hw0 ⊢
  unfold okQ
  cases k1 : numB x
  rotate_left
  cases k2 : emB x.ref
  rotate_left
  cases k3 : emB x.other
  rotate_left
  cases k4 : pthB x.path.data.toList
  rotate_left
  cases k5 : rulB x.rule
  rotate_left
  · simp only [Bool.true_and]
    generalize hk : edsB x.edits = k
    have HK : Hid (edsB x.edits = k) := hk
    clear hk
    have q4 : 4 < x.edits.length ∨ x.edits.length ≤ 4 := by omega
    have NL : Hid (4 < x.edits.length → k = false) := fun h => by rw [← HK.out]; exact edsB_l _ h
    rcases q4 with q4 | q4
    · have e := NL.out q4
      subst e
      go_enter Try.func7, Try.ntmps7
      go_wp2_with (first
        | (go_at_call 11; refine (numbers_impl x (.slice A x.edits.length c) _ _ (by assumption)).mono ?_; rintro e w1 ⟨rfl, hb⟩; clear d0 d1 d2 d3 d4 d5 d6 d7 d8 d9 d10 d11 d12 d13 d14; replace D := D.up hb; replace B := B.trans (hb.mono B.size); clear hb; obtain ⟨d0, d1, d2, d3, d4, d5, d6, d7, d8, d9, d10, d11, d12, d13, d14⟩ := D.all)
        | (go_at_call 12; refine (em_impl _ _ _ (by assumption)).mono ?_; rintro e w2 ⟨rfl, rfl⟩)
        | (go_at_call 13; refine (pth_is x.path _ _ s2 (by assumption)).mono ?_; rintro e w3 ⟨rfl, hb⟩; clear d0 d1 d2 d3 d4 d5 d6 d7 d8 d9 d10 d11 d12 d13 d14; replace D := D.up hb; replace B := B.trans (hb.mono B.size); clear hb; obtain ⟨d0, d1, d2, d3, d4, d5, d6, d7, d8, d9, d10, d11, d12, d13, d14⟩ := D.all)
        | (go_at_call 14; refine (rul_is x.rule _ _ s4 s5 (by assumption)).mono ?_; rintro e w4 ⟨rfl, hb⟩; clear d0 d1 d2 d3 d4 d5 d6 d7 d8 d9 d10 d11 d12 d13 d14; replace D := D.up hb; replace B := B.trans (hb.mono B.size); clear hb; obtain ⟨d0, d1, d2, d3, d4, d5, d6, d7, d8, d9, d10, d11, d12, d13, d14⟩ := D.all))
      go_ret
      exact ⟨rfl, B⟩
    · clear NL
      go_enter Try.func7, Try.ntmps7
      go_wp2_with (first
        | (go_at_call 11; refine (numbers_impl x (.slice A x.edits.length c) _ _ (by assumption)).mono ?_; rintro e w1 ⟨rfl, hb⟩; clear d0 d1 d2 d3 d4 d5 d6 d7 d8 d9 d10 d11 d12 d13 d14; replace D := D.up hb; replace B := B.trans (hb.mono B.size); clear hb; obtain ⟨d0, d1, d2, d3, d4, d5, d6, d7, d8, d9, d10, d11, d12, d13, d14⟩ := D.all)
        | (go_at_call 12; refine (em_impl _ _ _ (by assumption)).mono ?_; rintro e w2 ⟨rfl, rfl⟩)
        | (go_at_call 13; refine (pth_is x.path _ _ s2 (by assumption)).mono ?_; rintro e w3 ⟨rfl, hb⟩; clear d0 d1 d2 d3 d4 d5 d6 d7 d8 d9 d10 d11 d12 d13 d14; replace D := D.up hb; replace B := B.trans (hb.mono B.size); clear hb; obtain ⟨d0, d1, d2, d3, d4, d5, d6, d7, d8, d9, d10, d11, d12, d13, d14⟩ := D.all)
        | (go_at_call 14; refine (rul_is x.rule _ _ s4 s5 (by assumption)).mono ?_; rintro e w4 ⟨rfl, hb⟩; clear d0 d1 d2 d3 d4 d5 d6 d7 d8 d9 d10 d11 d12 d13 d14; replace D := D.up hb; replace B := B.trans (hb.mono B.size); clear hb; obtain ⟨d0, d1, d2, d3, d4, d5, d6, d7, d8, d9, d10, d11, d12, d13, d14⟩ := D.all))
      clear d0 d1 d2 d3 d4 d5 d6 d7 d8 d9 d10 d11 d12 d13 d14 D
      go_loopw [39] (fun iv wr => ∃ j : Nat, j ≤ x.edits.length ∧ iv = .int .i64 j ∧ Hid (∀ i (h : i < x.edits.length), i < j → edB x.edits[i] = true) ∧ Below w.heap.size w wr) (fun i _ => x.edits.length - (intOf i).toNat)
      case atStart => exact ⟨0, Nat.zero_le _, rfl, fun i _ h => by omega, B⟩
      case round =>
        clear B
        obtain ⟨j, hj, rfl, HG, hb⟩ := hrel
        have hsz := hb.size
        by_cases hlt : j < x.edits.length
        · obtain ⟨b, o, rfl, hbl, c1, c2, c3⟩ := (HL.out.below hb (Nat.le_refl _)) j hlt
          obtain ⟨m1, m2⟩ := HT.out j hlt
          have NO : Hid (edB (x.edits[j]) = false → k = false) := fun h => by rw [← HK.out]; exact edsB_n x.edits j hlt h
          have YES : Hid (edB (x.edits[j]) = true → ∀ i (h : i < x.edits.length), i < j + 1 → edB x.edits[i] = true) := fun h i hi hl => by
            by_cases e : i = j
            · subst e; exact h
            · exact HG.out i hi (by omega)
          generalize x.edits[j] = y at *
          obtain ⟨p, t, g⟩ := y
          simp only at *
          cases ke : edB ⟨p, t, g⟩
          · have e := NO.out ke
            subst e
            go_wp2_with (go_at_call 15; refine (edit_impl ⟨p, t, g⟩ _ _ m1 m2 ke).mono ?_; rintro e w5 ⟨rfl, hb1⟩)
            go_ret
            exact ⟨rfl, (hb.alloc hsz _).trans (hb1.mono (by simp; omega))⟩
          · have HY : Hid (∀ i (h : i < x.edits.length), i < j + 1 → edB x.edits[i] = true) := YES.out ke
            go_wp2_with (go_at_call 15; refine (edit_impl ⟨p, t, g⟩ _ _ m1 m2 ke).mono ?_; rintro e w5 ⟨rfl, hb1⟩)
            go_roundw
            case rel => exact ⟨j + 1, by omega, by go_num, HY, (hb.alloc hsz _).trans (hb1.mono (by simp; omega))⟩
            case measure => simp [intOf]; omega
        · obtain rfl : j = x.edits.length := by omega
          have e : k = true := by rw [← HK.out]; exact edsB_y x.edits q4 (fun i hi => HG.out i hi hi)
          subst e
          go_wp2
          go_ret
          exact ⟨rfl, hb⟩
  all_goals
    go_enter Try.func7, Try.ntmps7
    go_wp2_with (first
      | (go_at_call 11; refine (numbers_impl x (.slice A x.edits.length c) _ _ (by assumption)).mono ?_; rintro e w1 ⟨rfl, hb⟩; clear d0 d1 d2 d3 d4 d5 d6 d7 d8 d9 d10 d11 d12 d13 d14; replace D := D.up hb; replace B := B.trans (hb.mono B.size); clear hb; obtain ⟨d0, d1, d2, d3, d4, d5, d6, d7, d8, d9, d10, d11, d12, d13, d14⟩ := D.all)
      | (go_at_call 12; refine (em_impl _ _ _ (by assumption)).mono ?_; rintro e w2 ⟨rfl, rfl⟩)
      | (go_at_call 13; refine (pth_is x.path _ _ s2 (by assumption)).mono ?_; rintro e w3 ⟨rfl, hb⟩; clear d0 d1 d2 d3 d4 d5 d6 d7 d8 d9 d10 d11 d12 d13 d14; replace D := D.up hb; replace B := B.trans (hb.mono B.size); clear hb; obtain ⟨d0, d1, d2, d3, d4, d5, d6, d7, d8, d9, d10, d11, d12, d13, d14⟩ := D.all)
      | (go_at_call 14; refine (rul_is x.rule _ _ s4 s5 (by assumption)).mono ?_; rintro e w4 ⟨rfl, hb⟩; clear d0 d1 d2 d3 d4 d5 d6 d7 d8 d9 d10 d11 d12 d13 d14; replace D := D.up hb; replace B := B.trans (hb.mono B.size); clear hb; obtain ⟨d0, d1, d2, d3, d4, d5, d6, d7, d8, d9, d10, d11, d12, d13, d14⟩ := D.all))
    go_ret
    exact ⟨rfl, B⟩
end Go.Proofs.Ytcdkjlbpcihcjaa.W
