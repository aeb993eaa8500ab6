
/-
  ReqOk of the specification. Texts of at most 1048576 bytes.
-/
import Derived.Test.YtcdkjlbpcihcjaaWalkReqO
namespace Go.Proofs.Ytcdkjlbpcihcjaa.W
open Go.RowKit Go.Proofs.Ytcdkjlbpcihcjaa.M

theorem pths_is (s : ByteArray) (k : Bool) (w : World) (hs : s.size ≤ 1048576) (h : pthB s.data.toList = k) :
    Calls Try.prog 20 #[.string s] w fun e w' => e = .returned (.bool k) ∧ Below w.heap.size w w' := by
  subst h; exact pthOk_spec s w (by omega)
theorem nams_eq (s : ByteArray) (k : Bool) (w : World) (hs : s.size ≤ 1048576) (h : namB s.data.toList = k) :
    Calls Try.prog 19 #[.string s] w fun e w' => e = .returned (.bool k) ∧ w = w' := by
  subst h; exact nam_spec s w (by unfold maxLen; omega)
theorem ruls_is (x : RR) (k : Bool) (w : World) (hr : x.ref.size ≤ 1048576) (hp : x.path.size ≤ 1048576) (h : rulB x = k) :
    Calls Try.prog 18 #[.agg #[.int .i64 x.user, .string x.ref, .string x.path, .bool x.write]] w fun e w' => e = .returned (.bool k) ∧ Below w.heap.size w w' := by
  subst h; exact rulOk_spec x w hr hp
theorem okQ_eq (x : RQ) : okQ x = (inB x.user 0 99 && (inB x.key 0 9999 && (inB x.repo 0 99 && (inB x.kind 1 11 && (edsB x.edits && (rulB x.rule && (emB x.ref && (pthB x.path.data.toList && (inB x.old 0 99 && (inB x.back 0 99 && (inB x.from_ 0 99 && emB x.other))))))))))) := by
  unfold okQ
  rw [numB_eq]
  cases inB x.user 0 99 <;> cases inB x.key 0 9999 <;> cases inB x.repo 0 99 <;> cases inB x.kind 1 11 <;> cases edsB x.edits <;> cases rulB x.rule <;> cases emB x.ref <;> cases pthB x.path.data.toList <;> simp [Bool.and_assoc]
set_option maxRecDepth 100000 in
set_option maxHeartbeats 8000000 in
theorem reqOk_spec (x : RQ) (A : Option Addr) (c : Nat) (w : World) (hL : RdE w.heap.size w A x.edits) (hz : szQ x ≤ 1048576) :
    Calls Try.prog 8 #[.agg (x.at_ (.slice A x.edits.length c))] w fun e w' => e = .returned (.bool (okQ x)) ∧ Below w.heap.size w w' := by
  obtain ⟨s1, s2, s3, s4, s5, s6, s7⟩ := szQ_each x hz
  have HT : Hid (∀ j (h : j < x.edits.length), (x.edits[j]).pa.size ≤ 1048576 ∧ (x.edits[j]).by_.size ≤ 1048576) := s7
  clear s7 hz
  obtain ⟨w0, hw0, D, B⟩ : ∃ w0, w.alloc (.cells (x.at_ (.slice A x.edits.length c)) 27) = w0 ∧ AtQ w0 w.heap.size x (.slice A x.edits.length c) ∧ Below w.heap.size w w0 := ⟨_, rfl, atQ_new w x _ _, (Below.refl _ w).alloc (Nat.le_refl _) _⟩
  have HL : Hid (RdE w.heap.size w A x.edits) := hL
  clear hL
  obtain ⟨d0, d1, d2, d3, d4, d5, d6, d7, d8, d9, d10, d11, d12, d13, d14⟩ := D.all
  simp only [RQ.at_] at hw0 ⊢
  rw [okQ_eq]
  have HR : Hid (namB x.ref.data.toList = namB x.ref.data.toList) := rfl
  have HO : Hid (namB x.other.data.toList = namB x.other.data.toList) := rfl
  cases k0 : inB x.user 0 99
  rotate_left
  cases k1 : inB x.key 0 9999
  rotate_left
  cases k2 : inB x.repo 0 99
  rotate_left
  cases k3 : inB x.kind 1 11
  rotate_left
  cases k4 : edsB x.edits
  rotate_left
  cases k5 : rulB x.rule
  rotate_left
  · by_cases hr : x.ref.data.toList = []
    · rw [emB_e _ hr]
      have z1 : x.ref.toList.isEmpty = true := empty_t _ hr
      cases k10 : pthB x.path.data.toList
      rotate_left
      cases k11 : inB x.old 0 99
      rotate_left
      cases k12 : inB x.back 0 99
      rotate_left
      cases k13 : inB x.from_ 0 99
      rotate_left
      by_cases ho : x.other.data.toList = []
      · rw [emB_e _ ho]
        have z2 : x.other.toList.isEmpty = true := empty_t _ ho
        go_enter Try.func8, Try.ntmps8
        go_wp2_with (first
      | (go_at_call 16; refine (in_spec _ _ _ _ _ (by assumption)).mono ?_; rintro e w' ⟨rfl, rfl⟩)
      | (go_at_call 17; refine (edits_spec A c x.edits _ _ (HL.out.up B) s6 HT.out (by assumption)).mono ?_; rintro e w1 ⟨rfl, hb⟩; clear d0 d1 d2 d3 d4 d5 d6 d7 d8 d9 d10 d11 d12 d13 d14; replace D := D.up hb; replace B := B.trans (hb.mono B.size); clear hb; obtain ⟨d0, d1, d2, d3, d4, d5, d6, d7, d8, d9, d10, d11, d12, d13, d14⟩ := D.all)
      | (go_at_call 18; refine (ruls_is x.rule _ _ s4 s5 (by assumption)).mono ?_; rintro e w2 ⟨rfl, hb⟩; clear d0 d1 d2 d3 d4 d5 d6 d7 d8 d9 d10 d11 d12 d13 d14; replace D := D.up hb; replace B := B.trans (hb.mono B.size); clear hb; obtain ⟨d0, d1, d2, d3, d4, d5, d6, d7, d8, d9, d10, d11, d12, d13, d14⟩ := D.all)
      | (go_at_call_of 19 x.ref; refine (nams_eq x.ref _ _ s1 HR.out).mono ?_; rintro e w3 ⟨rfl, rfl⟩)
      | (go_at_call_of 19 x.other; refine (nams_eq x.other _ _ s3 HO.out).mono ?_; rintro e w3 ⟨rfl, rfl⟩)
      | (go_at_call 20; refine (pths_is x.path _ _ s2 (by assumption)).mono ?_; rintro e w4 ⟨rfl, hb⟩; clear d0 d1 d2 d3 d4 d5 d6 d7 d8 d9 d10 d11 d12 d13 d14; replace D := D.up hb; replace B := B.trans (hb.mono B.size); clear hb; obtain ⟨d0, d1, d2, d3, d4, d5, d6, d7, d8, d9, d10, d11, d12, d13, d14⟩ := D.all))
        go_ret
        exact ⟨rfl, B⟩
      · rw [emB_n _ ho]
        have z2 : x.other.toList.isEmpty = false := nonempty_f _ ho
        cases ko : namB x.other.data.toList
        all_goals
          replace HO : Hid (namB x.other.data.toList = _) := ko
          clear ko
          go_enter Try.func8, Try.ntmps8
          go_wp2_with (first
      | (go_at_call 16; refine (in_spec _ _ _ _ _ (by assumption)).mono ?_; rintro e w' ⟨rfl, rfl⟩)
      | (go_at_call 17; refine (edits_spec A c x.edits _ _ (HL.out.up B) s6 HT.out (by assumption)).mono ?_; rintro e w1 ⟨rfl, hb⟩; clear d0 d1 d2 d3 d4 d5 d6 d7 d8 d9 d10 d11 d12 d13 d14; replace D := D.up hb; replace B := B.trans (hb.mono B.size); clear hb; obtain ⟨d0, d1, d2, d3, d4, d5, d6, d7, d8, d9, d10, d11, d12, d13, d14⟩ := D.all)
      | (go_at_call 18; refine (ruls_is x.rule _ _ s4 s5 (by assumption)).mono ?_; rintro e w2 ⟨rfl, hb⟩; clear d0 d1 d2 d3 d4 d5 d6 d7 d8 d9 d10 d11 d12 d13 d14; replace D := D.up hb; replace B := B.trans (hb.mono B.size); clear hb; obtain ⟨d0, d1, d2, d3, d4, d5, d6, d7, d8, d9, d10, d11, d12, d13, d14⟩ := D.all)
      | (go_at_call_of 19 x.ref; refine (nams_eq x.ref _ _ s1 HR.out).mono ?_; rintro e w3 ⟨rfl, rfl⟩)
      | (go_at_call_of 19 x.other; refine (nams_eq x.other _ _ s3 HO.out).mono ?_; rintro e w3 ⟨rfl, rfl⟩)
      | (go_at_call 20; refine (pths_is x.path _ _ s2 (by assumption)).mono ?_; rintro e w4 ⟨rfl, hb⟩; clear d0 d1 d2 d3 d4 d5 d6 d7 d8 d9 d10 d11 d12 d13 d14; replace D := D.up hb; replace B := B.trans (hb.mono B.size); clear hb; obtain ⟨d0, d1, d2, d3, d4, d5, d6, d7, d8, d9, d10, d11, d12, d13, d14⟩ := D.all))
          go_ret
          exact ⟨rfl, B⟩
      all_goals
        go_enter Try.func8, Try.ntmps8
        go_wp2_with (first
      | (go_at_call 16; refine (in_spec _ _ _ _ _ (by assumption)).mono ?_; rintro e w' ⟨rfl, rfl⟩)
      | (go_at_call 17; refine (edits_spec A c x.edits _ _ (HL.out.up B) s6 HT.out (by assumption)).mono ?_; rintro e w1 ⟨rfl, hb⟩; clear d0 d1 d2 d3 d4 d5 d6 d7 d8 d9 d10 d11 d12 d13 d14; replace D := D.up hb; replace B := B.trans (hb.mono B.size); clear hb; obtain ⟨d0, d1, d2, d3, d4, d5, d6, d7, d8, d9, d10, d11, d12, d13, d14⟩ := D.all)
      | (go_at_call 18; refine (ruls_is x.rule _ _ s4 s5 (by assumption)).mono ?_; rintro e w2 ⟨rfl, hb⟩; clear d0 d1 d2 d3 d4 d5 d6 d7 d8 d9 d10 d11 d12 d13 d14; replace D := D.up hb; replace B := B.trans (hb.mono B.size); clear hb; obtain ⟨d0, d1, d2, d3, d4, d5, d6, d7, d8, d9, d10, d11, d12, d13, d14⟩ := D.all)
      | (go_at_call_of 19 x.ref; refine (nams_eq x.ref _ _ s1 HR.out).mono ?_; rintro e w3 ⟨rfl, rfl⟩)
      | (go_at_call_of 19 x.other; refine (nams_eq x.other _ _ s3 HO.out).mono ?_; rintro e w3 ⟨rfl, rfl⟩)
      | (go_at_call 20; refine (pths_is x.path _ _ s2 (by assumption)).mono ?_; rintro e w4 ⟨rfl, hb⟩; clear d0 d1 d2 d3 d4 d5 d6 d7 d8 d9 d10 d11 d12 d13 d14; replace D := D.up hb; replace B := B.trans (hb.mono B.size); clear hb; obtain ⟨d0, d1, d2, d3, d4, d5, d6, d7, d8, d9, d10, d11, d12, d13, d14⟩ := D.all))
        go_ret
        exact ⟨rfl, B⟩
    · rw [emB_n _ hr]
      have z1 : x.ref.toList.isEmpty = false := nonempty_f _ hr
      cases kr : namB x.ref.data.toList
      · replace HR : Hid (namB x.ref.data.toList = false) := kr
        clear kr
        go_enter Try.func8, Try.ntmps8
        go_wp2_with (first
      | (go_at_call 16; refine (in_spec _ _ _ _ _ (by assumption)).mono ?_; rintro e w' ⟨rfl, rfl⟩)
      | (go_at_call 17; refine (edits_spec A c x.edits _ _ (HL.out.up B) s6 HT.out (by assumption)).mono ?_; rintro e w1 ⟨rfl, hb⟩; clear d0 d1 d2 d3 d4 d5 d6 d7 d8 d9 d10 d11 d12 d13 d14; replace D := D.up hb; replace B := B.trans (hb.mono B.size); clear hb; obtain ⟨d0, d1, d2, d3, d4, d5, d6, d7, d8, d9, d10, d11, d12, d13, d14⟩ := D.all)
      | (go_at_call 18; refine (ruls_is x.rule _ _ s4 s5 (by assumption)).mono ?_; rintro e w2 ⟨rfl, hb⟩; clear d0 d1 d2 d3 d4 d5 d6 d7 d8 d9 d10 d11 d12 d13 d14; replace D := D.up hb; replace B := B.trans (hb.mono B.size); clear hb; obtain ⟨d0, d1, d2, d3, d4, d5, d6, d7, d8, d9, d10, d11, d12, d13, d14⟩ := D.all)
      | (go_at_call_of 19 x.ref; refine (nams_eq x.ref _ _ s1 HR.out).mono ?_; rintro e w3 ⟨rfl, rfl⟩)
      | (go_at_call_of 19 x.other; refine (nams_eq x.other _ _ s3 HO.out).mono ?_; rintro e w3 ⟨rfl, rfl⟩)
      | (go_at_call 20; refine (pths_is x.path _ _ s2 (by assumption)).mono ?_; rintro e w4 ⟨rfl, hb⟩; clear d0 d1 d2 d3 d4 d5 d6 d7 d8 d9 d10 d11 d12 d13 d14; replace D := D.up hb; replace B := B.trans (hb.mono B.size); clear hb; obtain ⟨d0, d1, d2, d3, d4, d5, d6, d7, d8, d9, d10, d11, d12, d13, d14⟩ := D.all))
        go_ret
        exact ⟨rfl, B⟩
      · replace HR : Hid (namB x.ref.data.toList = true) := kr
        clear kr
        cases k10 : pthB x.path.data.toList
        rotate_left
        cases k11 : inB x.old 0 99
        rotate_left
        cases k12 : inB x.back 0 99
        rotate_left
        cases k13 : inB x.from_ 0 99
        rotate_left
        by_cases ho : x.other.data.toList = []
        · rw [emB_e _ ho]
          have z2 : x.other.toList.isEmpty = true := empty_t _ ho
          go_enter Try.func8, Try.ntmps8
          go_wp2_with (first
      | (go_at_call 16; refine (in_spec _ _ _ _ _ (by assumption)).mono ?_; rintro e w' ⟨rfl, rfl⟩)
      | (go_at_call 17; refine (edits_spec A c x.edits _ _ (HL.out.up B) s6 HT.out (by assumption)).mono ?_; rintro e w1 ⟨rfl, hb⟩; clear d0 d1 d2 d3 d4 d5 d6 d7 d8 d9 d10 d11 d12 d13 d14; replace D := D.up hb; replace B := B.trans (hb.mono B.size); clear hb; obtain ⟨d0, d1, d2, d3, d4, d5, d6, d7, d8, d9, d10, d11, d12, d13, d14⟩ := D.all)
      | (go_at_call 18; refine (ruls_is x.rule _ _ s4 s5 (by assumption)).mono ?_; rintro e w2 ⟨rfl, hb⟩; clear d0 d1 d2 d3 d4 d5 d6 d7 d8 d9 d10 d11 d12 d13 d14; replace D := D.up hb; replace B := B.trans (hb.mono B.size); clear hb; obtain ⟨d0, d1, d2, d3, d4, d5, d6, d7, d8, d9, d10, d11, d12, d13, d14⟩ := D.all)
      | (go_at_call_of 19 x.ref; refine (nams_eq x.ref _ _ s1 HR.out).mono ?_; rintro e w3 ⟨rfl, rfl⟩)
      | (go_at_call_of 19 x.other; refine (nams_eq x.other _ _ s3 HO.out).mono ?_; rintro e w3 ⟨rfl, rfl⟩)
      | (go_at_call 20; refine (pths_is x.path _ _ s2 (by assumption)).mono ?_; rintro e w4 ⟨rfl, hb⟩; clear d0 d1 d2 d3 d4 d5 d6 d7 d8 d9 d10 d11 d12 d13 d14; replace D := D.up hb; replace B := B.trans (hb.mono B.size); clear hb; obtain ⟨d0, d1, d2, d3, d4, d5, d6, d7, d8, d9, d10, d11, d12, d13, d14⟩ := D.all))
          go_ret
          exact ⟨rfl, B⟩
        · rw [emB_n _ ho]
          have z2 : x.other.toList.isEmpty = false := nonempty_f _ ho
          cases ko : namB x.other.data.toList
          all_goals
            replace HO : Hid (namB x.other.data.toList = _) := ko
            clear ko
            go_enter Try.func8, Try.ntmps8
            go_wp2_with (first
      | (go_at_call 16; refine (in_spec _ _ _ _ _ (by assumption)).mono ?_; rintro e w' ⟨rfl, rfl⟩)
      | (go_at_call 17; refine (edits_spec A c x.edits _ _ (HL.out.up B) s6 HT.out (by assumption)).mono ?_; rintro e w1 ⟨rfl, hb⟩; clear d0 d1 d2 d3 d4 d5 d6 d7 d8 d9 d10 d11 d12 d13 d14; replace D := D.up hb; replace B := B.trans (hb.mono B.size); clear hb; obtain ⟨d0, d1, d2, d3, d4, d5, d6, d7, d8, d9, d10, d11, d12, d13, d14⟩ := D.all)
      | (go_at_call 18; refine (ruls_is x.rule _ _ s4 s5 (by assumption)).mono ?_; rintro e w2 ⟨rfl, hb⟩; clear d0 d1 d2 d3 d4 d5 d6 d7 d8 d9 d10 d11 d12 d13 d14; replace D := D.up hb; replace B := B.trans (hb.mono B.size); clear hb; obtain ⟨d0, d1, d2, d3, d4, d5, d6, d7, d8, d9, d10, d11, d12, d13, d14⟩ := D.all)
      | (go_at_call_of 19 x.ref; refine (nams_eq x.ref _ _ s1 HR.out).mono ?_; rintro e w3 ⟨rfl, rfl⟩)
      | (go_at_call_of 19 x.other; refine (nams_eq x.other _ _ s3 HO.out).mono ?_; rintro e w3 ⟨rfl, rfl⟩)
      | (go_at_call 20; refine (pths_is x.path _ _ s2 (by assumption)).mono ?_; rintro e w4 ⟨rfl, hb⟩; clear d0 d1 d2 d3 d4 d5 d6 d7 d8 d9 d10 d11 d12 d13 d14; replace D := D.up hb; replace B := B.trans (hb.mono B.size); clear hb; obtain ⟨d0, d1, d2, d3, d4, d5, d6, d7, d8, d9, d10, d11, d12, d13, d14⟩ := D.all))
            go_ret
            exact ⟨rfl, B⟩
        all_goals
          go_enter Try.func8, Try.ntmps8
          go_wp2_with (first
      | (go_at_call 16; refine (in_spec _ _ _ _ _ (by assumption)).mono ?_; rintro e w' ⟨rfl, rfl⟩)
      | (go_at_call 17; refine (edits_spec A c x.edits _ _ (HL.out.up B) s6 HT.out (by assumption)).mono ?_; rintro e w1 ⟨rfl, hb⟩; clear d0 d1 d2 d3 d4 d5 d6 d7 d8 d9 d10 d11 d12 d13 d14; replace D := D.up hb; replace B := B.trans (hb.mono B.size); clear hb; obtain ⟨d0, d1, d2, d3, d4, d5, d6, d7, d8, d9, d10, d11, d12, d13, d14⟩ := D.all)
      | (go_at_call 18; refine (ruls_is x.rule _ _ s4 s5 (by assumption)).mono ?_; rintro e w2 ⟨rfl, hb⟩; clear d0 d1 d2 d3 d4 d5 d6 d7 d8 d9 d10 d11 d12 d13 d14; replace D := D.up hb; replace B := B.trans (hb.mono B.size); clear hb; obtain ⟨d0, d1, d2, d3, d4, d5, d6, d7, d8, d9, d10, d11, d12, d13, d14⟩ := D.all)
      | (go_at_call_of 19 x.ref; refine (nams_eq x.ref _ _ s1 HR.out).mono ?_; rintro e w3 ⟨rfl, rfl⟩)
      | (go_at_call_of 19 x.other; refine (nams_eq x.other _ _ s3 HO.out).mono ?_; rintro e w3 ⟨rfl, rfl⟩)
      | (go_at_call 20; refine (pths_is x.path _ _ s2 (by assumption)).mono ?_; rintro e w4 ⟨rfl, hb⟩; clear d0 d1 d2 d3 d4 d5 d6 d7 d8 d9 d10 d11 d12 d13 d14; replace D := D.up hb; replace B := B.trans (hb.mono B.size); clear hb; obtain ⟨d0, d1, d2, d3, d4, d5, d6, d7, d8, d9, d10, d11, d12, d13, d14⟩ := D.all))
          go_ret
          exact ⟨rfl, B⟩
  all_goals
    go_enter Try.func8, Try.ntmps8
    go_wp2_with (first
      | (go_at_call 16; refine (in_spec _ _ _ _ _ (by assumption)).mono ?_; rintro e w' ⟨rfl, rfl⟩)
      | (go_at_call 17; refine (edits_spec A c x.edits _ _ (HL.out.up B) s6 HT.out (by assumption)).mono ?_; rintro e w1 ⟨rfl, hb⟩; clear d0 d1 d2 d3 d4 d5 d6 d7 d8 d9 d10 d11 d12 d13 d14; replace D := D.up hb; replace B := B.trans (hb.mono B.size); clear hb; obtain ⟨d0, d1, d2, d3, d4, d5, d6, d7, d8, d9, d10, d11, d12, d13, d14⟩ := D.all)
      | (go_at_call 18; refine (ruls_is x.rule _ _ s4 s5 (by assumption)).mono ?_; rintro e w2 ⟨rfl, hb⟩; clear d0 d1 d2 d3 d4 d5 d6 d7 d8 d9 d10 d11 d12 d13 d14; replace D := D.up hb; replace B := B.trans (hb.mono B.size); clear hb; obtain ⟨d0, d1, d2, d3, d4, d5, d6, d7, d8, d9, d10, d11, d12, d13, d14⟩ := D.all)
      | (go_at_call_of 19 x.ref; refine (nams_eq x.ref _ _ s1 HR.out).mono ?_; rintro e w3 ⟨rfl, rfl⟩)
      | (go_at_call_of 19 x.other; refine (nams_eq x.other _ _ s3 HO.out).mono ?_; rintro e w3 ⟨rfl, rfl⟩)
      | (go_at_call 20; refine (pths_is x.path _ _ s2 (by assumption)).mono ?_; rintro e w4 ⟨rfl, hb⟩; clear d0 d1 d2 d3 d4 d5 d6 d7 d8 d9 d10 d11 d12 d13 d14; replace D := D.up hb; replace B := B.trans (hb.mono B.size); clear hb; obtain ⟨d0, d1, d2, d3, d4, d5, d6, d7, d8, d9, d10, d11, d12, d13, d14⟩ := D.all))
    go_ret
    exact ⟨rfl, B⟩
end Go.Proofs.Ytcdkjlbpcihcjaa.W
