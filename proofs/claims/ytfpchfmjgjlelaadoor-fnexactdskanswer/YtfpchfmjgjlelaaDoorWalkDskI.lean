
/-
  DskAnswer of the program. Texts of at most 1048576 bytes, as many files and names; the library's table of powers of ten holds what the program's text lays.
-/
import Derived.Test.YtfpchfmjgjlelaaDoorWalkDskF
namespace Go.Proofs.YtfpchfmjgjlelaaDoor.W
open Go.RowKit Go.Proofs.YtfpchfmjgjlelaaDoor.M

theorem within_is (n m : Int) (k : Bool) (w : World) (h : (decide (0 ≤ n) && decide (n ≤ m)) = k) : Calls Tryd.prog 20 #[.int .i64 n, .int .i64 m] w fun e w' => e = .returned (.bool k) ∧ w = w' := by
  by_cases h1 : 0 ≤ n
  · rw [decide_eq_true h1, Bool.true_and] at h
    have HK : Hid (decide (n ≤ m) = k) := h
    clear h
    go_enter Tryd.func20, Tryd.ntmps20
    go_wp2
    go_ret
    exact ⟨ret_bool HK.out, rfl⟩
  · rw [decide_eq_false h1, Bool.false_and] at h
    have HK : Hid (false = k) := h
    clear h
    go_enter Tryd.func20, Tryd.ntmps20
    go_wp2
    go_ret
    exact ⟨ret_bool HK.out, rfl⟩
theorem row0_lit (w3 : World) (base : Nat) (h : base ≤ w3.heap.size) (cn nn : Nat) : (w3.alloc (.cells #[.string (((⟨#[99, 111, 100, 101, 32]⟩ ++ decB cn) ++ ⟨#[32, 110, 117, 109, 98, 101, 114, 32]⟩) ++ decB nn)] 9)).ownsRow base 9 1 (.slice (some ⟨w3.heap.size, 0, none⟩) 1 1) 1 (strs [(line0 cn nn).data.toList]) := by
  have e : strs [(line0 cn nn).data.toList] = [.string (line0 cn nn)] := by
    show [Value.string ⟨(line0 cn nn).data.toList.toArray⟩] = _
    rw [asL]
  rw [e]
  have o := World.ownsRow_lit (base := base) (e := 9) (size := 1) w3 #[.string (line0 cn nn)] 1 h (by unfold maxLen; omega) rfl
  exact o
set_option maxRecDepth 100000 in
set_option maxHeartbeats 8000000 in
theorem dskI_bad (x : AN) (v u : Value) (w : World) (hk : okA x = false) :
    Calls Tryd.prog 7 #[.agg (x.at_ v u)] w fun e w' => (∃ v, e = .returned v ∧ w'.ownsRow w.heap.size 9 1 v 0 []) ∧ Below w.heap.size w w' := by
  obtain ⟨w0, hw0, D, B0, hs0⟩ : ∃ w0, w.alloc (.cells (x.at_ v u) 30) = w0 ∧ AtA w0 w.heap.size x v u ∧ Below w.heap.size w w0 ∧ w0.heap.size = w.heap.size + 1 := ⟨_, rfl, atA_new w x _ _ _, (Below.refl _ w).alloc (Nat.le_refl _) _, by simp⟩
  have hk' : x.code < 1 ∨ (¬ x.code < 1 ∧ 11 < x.code) ∨ (1 ≤ x.code ∧ x.code ≤ 11 ∧ (decide (0 ≤ x.n) && decide (x.n ≤ 9999)) = false) := by
    unfold okA at hk
    by_cases h1 : x.code < 1
    · exact .inl h1
    · by_cases h2 : 11 < x.code
      · exact .inr (.inl ⟨h1, h2⟩)
      · refine .inr (.inr ⟨by omega, by omega, ?_⟩)
        rwa [decide_eq_true (show 1 ≤ x.code by omega), decide_eq_true (show x.code ≤ 11 by omega), Bool.true_and, Bool.true_and] at hk
  simp only [AN.at_] at hw0 ⊢
  obtain ⟨d0, _, _, d3⟩ := D.all
  clear hs0 hk
  rcases hk' with h1 | ⟨h1, h2⟩ | ⟨h1, h2, h3⟩
  · go_enter Tryd.func7, Tryd.ntmps7
    go_wp2
    go_ret
    exact ⟨⟨_, rfl, World.ownsRow_nil _ _ _ _⟩, B0⟩
  · go_enter Tryd.func7, Tryd.ntmps7
    go_wp2
    go_ret
    exact ⟨⟨_, rfl, World.ownsRow_nil _ _ _ _⟩, B0⟩
  · have H3 : Hid ((decide (0 ≤ x.n) && decide (x.n ≤ 9999)) = false) := h3
    clear h3
    go_enter Tryd.func7, Tryd.ntmps7
    go_wp2_with (go_at_call 20; refine (within_is x.n 9999 _ _ H3.out).mono ?_; rintro e w1 ⟨rfl, rfl⟩)
    go_ret
    exact ⟨⟨_, rfl, World.ownsRow_nil _ _ _ _⟩, B0⟩
set_option maxRecDepth 100000 in
set_option maxHeartbeats 16000000 in
theorem dskI_good (x : AN) (A B : Option Addr) (c d : Nat) (w : World) (hT : Tab w) (hk : okA x = true) (hF : RdF w.heap.size w A x.files) (hN : RdS w.heap.size w B x.names) (hn : x.files.length ≤ 1048576) (hm : x.names.length ≤ 1048576) (ht : ∀ j (h : j < x.files.length), (x.files[j]).pa.size ≤ 1048576 ∧ (x.files[j]).by_.size ≤ 1048576) (hts : ∀ j (h : j < x.names.length), (x.names[j]).length ≤ 1048576) :
    Calls Tryd.prog 7 #[.agg (x.at_ (.slice A x.files.length c) (.slice B x.names.length d))] w fun e w' => (∃ v, e = .returned v ∧ w'.ownsRow w.heap.size 9 1 v (linesA x x.files.length x.names.length).length (strs (linesA x x.files.length x.names.length))) ∧ Below w.heap.size w w' := by
  obtain ⟨i0, hi, hz0, hz1, hz2⟩ := info_parts infoS9
  obtain ⟨w0, hw0, D, B0, hs0⟩ : ∃ w0, w.alloc (.cells (x.at_ (.slice A x.files.length c) (.slice B x.names.length d)) 30) = w0 ∧ AtA w0 w.heap.size x (.slice A x.files.length c) (.slice B x.names.length d) ∧ Below w.heap.size w w0 ∧ w0.heap.size = w.heap.size + 1 := ⟨_, rfl, atA_new w x _ _ _, (Below.refl _ w).alloc (Nat.le_refl _) _, by simp⟩
  have HF : Hid (RdF w0.heap.size w0 A x.files) := (hF.below B0 (Nat.le_refl _)).mono (by omega)
  have HN : Hid (RdS w0.heap.size w0 B x.names) := (hN.below B0 (Nat.le_refl _)).mono (by omega)
  have HT : Hid (∀ j (h : j < x.files.length), (x.files[j]).pa.size ≤ 1048576 ∧ (x.files[j]).by_.size ≤ 1048576) := ht
  have HS : Hid (∀ j (h : j < x.names.length), (x.names[j]).length ≤ 1048576) := hts
  have HD : Hid (AtA w0 w.heap.size x (.slice A x.files.length c) (.slice B x.names.length d)) := D
  have HTab : Hid (Tab w0) := hT.up B0
  have HLn : Hid (∀ i j, (linesA x i j).length ≤ 1 + x.files.length + x.names.length) := linesA_len x
  obtain ⟨k1, k2, k3, k4⟩ : 1 ≤ x.code ∧ x.code ≤ 11 ∧ 0 ≤ x.n ∧ x.n ≤ 9999 := by
    unfold okA at hk
    simpa only [Bool.and_eq_true, decide_eq_true_eq] using hk
  obtain ⟨cn, hcn⟩ := Int.eq_ofNat_of_zero_le (show 0 ≤ x.code by omega)
  obtain ⟨nn, hnn⟩ := Int.eq_ofNat_of_zero_le k3
  have hc9 : cn ≤ 9999 := by omega
  have hn9 : nn ≤ 9999 := by omega
  have H00 : Hid ([(line0 cn nn).data.toList] = linesA x 0 0) := (show _ = _ by unfold linesA; rw [hcn, hnn]; simp)
  obtain ⟨d0, d1, d2, d3⟩ := D.all
  have hwl : w.heap.size < w0.heap.size := by omega
  have k1' : ¬ ((cn : Int) < 1) := by omega
  have k2' : ¬ (11 < (cn : Int)) := by omega
  have hwi : (decide ((0 : Int) ≤ (nn : Int)) && decide ((nn : Int) ≤ 9999)) = true := by simp; omega
  have HW : Hid ((decide ((0 : Int) ≤ (nn : Int)) && decide ((nn : Int) ≤ 9999)) = true) := hwi
  have t2 : True := trivial
  simp only [AN.at_] at hw0 ⊢
  rw [hcn] at hw0 d0 ⊢
  rw [hnn] at hw0 d3 ⊢
  have hsz1 := decB_size cn hc9
  have hsz2 := decB_size nn hn9
  clear hk k1 k2 k3 k4 hF hN ht hts D hs0 hwi hT
  go_enter Tryd.func7, Tryd.ntmps7
  go_wp2_with (first
    | (go_at_call 20; refine (within_is (nn : Int) 9999 _ _ HW.out).mono ?_; rintro e w1 ⟨rfl, hw1⟩; subst hw1))
  go_cut [1, 3] from 4 (fun s1 s3 wx => s1 = .pointer (some ⟨w.heap.size, 0, none⟩) ∧ ∃ g cap : Nat, s3 = .slice (some ⟨g, 0, none⟩) 1 cap ∧ wx.ownsRow w0.heap.size 9 1 (.slice (some ⟨g, 0, none⟩) 1 cap) 1 (strs (linesA x 0 0)) ∧ Below w0.heap.size w0 wx)
  case first =>
    go_region_held_law (fun w' => w'.cell? ⟨w.heap.size, 0, none⟩ = some (.int .i64 cn) ∧ w'.cell? ⟨w.heap.size, 3, none⟩ = some (.int .i64 nn)) (first | exact ⟨d0, d3⟩ | exact SS3 | exact SS | exact ⟨(World.cell?_alloc_lt _ _ _ hbl3).trans SS3.1, (World.cell?_alloc_lt _ _ _ hbl3).trans SS3.2⟩ | go_keep)
      (first
        | (go_at_call 21; have _t := t2; refine (itoa_on cn w0 _ (by first | exact Below.refl _ _ | exact (Below.refl _ _).drew) hc9 HTab.out).mono ?_; rintro e w2 ⟨rfl, HB2⟩; have hs2 := HB2.size; have SS : w2.cell? ⟨w.heap.size, 0, none⟩ = some (.int .i64 cn) ∧ w2.cell? ⟨w.heap.size, 3, none⟩ = some (.int .i64 nn) := ⟨(HB2.cell (p := ⟨w.heap.size, 0, none⟩) hwl).trans d0, (HB2.cell (p := ⟨w.heap.size, 3, none⟩) hwl).trans d3⟩; clear _t t2)
        | (go_at_call 21; refine (itoa_on nn w0 _ (by first | exact HB2 | exact HB2.drew) hn9 HTab.out).mono ?_; rintro e w3 ⟨rfl, HB3⟩; have hs3 := HB3.size; have SS3 : w3.cell? ⟨w.heap.size, 0, none⟩ = some (.int .i64 cn) ∧ w3.cell? ⟨w.heap.size, 3, none⟩ = some (.int .i64 nn) := ⟨(HB3.cell (p := ⟨w.heap.size, 0, none⟩) hwl).trans d0, (HB3.cell (p := ⟨w.heap.size, 3, none⟩) hwl).trans d3⟩; have hbl3 : w.heap.size < w3.heap.size := Nat.lt_of_lt_of_le hwl hs3))
    all_goals
      go_wp2
      go_meet
      refine ⟨rfl, w3.heap.size, 1, rfl, ?_, ?_⟩
      · rw [← H00.out]
        first
          | exact row0_lit w3 _ hs3 cn nn
          | exact ownsUnder (row0_lit w3 _ hs3 cn nn) ((Below.refl _ _).drew) (Nat.le_refl _)
      · first
          | exact HB3.alloc hs3 _
          | exact (HB3.alloc hs3 _).drew
  case rest =>
    clear d0 d3 k1' k2'
    obtain ⟨rfl, g1, cap1, rfl, o1, B1⟩ := hcut
    have D1 := HD.out.below B1 hwl
    obtain ⟨_, e1, _, _⟩ := D1.all
    go_wp2
    clear e1 D1
    go_loopw [3, 35] (fun v iv wr => ∃ (j : Nat) (M : List (List UInt8)), j ≤ x.files.length ∧ iv = .int .i64 j ∧ Hid (M = linesA x j 0) ∧ M.length ≤ 2097153 ∧ wr.ownsRow w0.heap.size 9 1 v M.length (strs M) ∧ Below w0.heap.size w0 wr) (fun _ i _ => x.files.length - (intOf i).toNat)
    case atStart => exact ⟨0, linesA x 0 0, Nat.zero_le _, rfl, rfl, by have := HLn.out 0 0; omega, o1, B1⟩
    case round =>
      obtain ⟨j, M, hj, rfl, HM, hM, hown, hb⟩ := hrel
      have hsz := hb.size
      clear o1 B1
      by_cases hlt : j < x.files.length
      · obtain ⟨b, o, hA, hbl, c1, c2⟩ := (HF.out.below hb (Nat.le_refl _)) j hlt
        obtain ⟨s1, s2⟩ := HT.out j hlt
        have est := linesA_file x j hlt
        rw [← HM.out] at est
        have ele := HLn.out (j + 1) 0
        rw [est, List.length_append] at ele
        obtain ⟨y, hy⟩ : ∃ y, x.files[j] = y := ⟨_, rfl⟩
        rw [hy] at c1 c2 s1 s2 est ele
        obtain ⟨q, t⟩ := y
        simp only at c1 c2 s1 s2
        have hM1 : M.length + 1 ≤ 2097153 := by simp at ele; omega
        obtain ⟨ln, hln⟩ : ∃ ln, lineF ⟨q, t⟩ = ln := ⟨_, rfl⟩
        have HLF : Hid (lineF ⟨q, t⟩ = ln) := hln
        have HE : Hid (M ++ [ln.data.toList] = linesA x (j + 1) 0) := (show _ = _ from by rw [est, ← hln])
        clear est ele hy HM hln
        subst hA
        go_wp2_with (first
          | (go_at_call 22; refine (fileLine_any q t _ s1 s2).mono ?_; rw [HLF.out]; rintro e w2 ⟨rfl, hb2⟩; have hba : Below w0.heap.size w0 w2 := (hb.alloc hsz _).trans (hb2.mono (by simp; omega)); replace hown := ownsUnder (hown.alloc _) hb2 (Nat.le_refl _); have hs2 := hba.size; clear hb2)
          | (at_builtin; refine wpList_append_own _ rfl _ _ 23 rfl w0.heap.size 9 i0 (.string ByteArray.empty) 1 16 Tryd.underlying23 hi hz0 hz1 hz2 rfl (by decide) _ _ _ rfl (hown.alloc _) ⟨w2.heap.size, 0, none⟩ 1 1 [.string ln] rfl rfl (cells_new w2 #[.string ln] 9) (by simp [Value.oneCell']) (by unfold maxLen; omega) (by omega) (by simp; omega) ?_; intro v8 w8 Q8 g8 _))
        go_roundw
        case rel =>
          refine ⟨j + 1, M ++ [ln.data.toList], by omega, by go_num, HE, by rw [List.length_append]; exact hM1, ?_, growOwn (hba.alloc (by omega) _) (by simp; omega) (hown.alloc _) g8 (Nat.le_refl _)⟩
          rw [strs_snocB, List.length_append]
          exact Q8
        case measure => simp [intOf]; omega
      · obtain rfl : j = x.files.length := by omega
        have D1 := HD.out.below hb hwl
        obtain ⟨_, _, e2, _⟩ := D1.all
        go_wp2
        clear e2 D1
        go_loopw [3, 48] (fun v iv w2 => ∃ (i : Nat) (M : List (List UInt8)), i ≤ x.names.length ∧ iv = .int .i64 i ∧ Hid (M = linesA x x.files.length i) ∧ M.length ≤ 2097153 ∧ w2.ownsRow w0.heap.size 9 1 v M.length (strs M) ∧ Below w0.heap.size w0 w2) (fun _ i _ => x.names.length - (intOf i).toNat)
        case atStart => exact ⟨0, M, Nat.zero_le _, rfl, HM, hM, hown, hb⟩
        case round =>
          clear hb hown HM hM hsz hlt hj
          obtain ⟨i, M, hi9, rfl, HM, hM, hown, hb⟩ := hrel
          have hsz := hb.size
          by_cases hlt : i < x.names.length
          · obtain ⟨b, o, hA, hbl, c1⟩ := (HN.out.below hb (Nat.le_refl _)) i hlt
            have s1 := HS.out i hlt
            have est := linesA_name x x.files.length i hlt
            rw [← HM.out] at est
            have ele := HLn.out x.files.length (i + 1)
            rw [est, List.length_append] at ele
            obtain ⟨q, hq⟩ : ∃ q, ByteArray.mk (x.names[i]).toArray = q := ⟨_, rfl⟩
            have hq9 : q.size ≤ 1048576 := by rw [← hq, size_mk]; exact s1
            have HE : Hid (M ++ [(⟨#[114, 101, 102, 32]⟩ ++ q : ByteArray).data.toList] = linesA x x.files.length (i + 1)) := (show _ = _ from by rw [est, ← hq]; rfl)
            rw [hq] at c1
            have hM1 : M.length + 1 ≤ 2097153 := by simp at ele; omega
            clear est ele hq HM
            subst hA
            go_wp2_with (at_builtin; refine wpList_append_own _ rfl _ _ 23 rfl w0.heap.size 9 i0 (.string ByteArray.empty) 1 16 Tryd.underlying23 hi hz0 hz1 hz2 rfl (by decide) _ _ _ rfl (hown.alloc _) ⟨wr.heap.size, 0, none⟩ 1 1 [.string (⟨#[114, 101, 102, 32]⟩ ++ q)] rfl rfl (cells_new wr #[.string (⟨#[114, 101, 102, 32]⟩ ++ q)] 9) (by simp [Value.oneCell']) (by unfold maxLen; omega) (by omega) (by simp; omega) ?_; intro v8 w8 Q8 g8 _)
            go_roundw
            case rel =>
              refine ⟨i + 1, M ++ [(⟨#[114, 101, 102, 32]⟩ ++ q : ByteArray).data.toList], by omega, by go_num, HE, by rw [List.length_append]; exact hM1, ?_, growOwn (hb.alloc (by omega) _) (by simp; omega) (hown.alloc _) g8 (Nat.le_refl _)⟩
              rw [strs_snocB, List.length_append]
              exact Q8
            case measure => simp [intOf]; omega
          · obtain rfl : i = x.names.length := by omega
            have hM9 := HM.out
            go_wp2
            go_ret
            subst hM9
            exact ⟨⟨_, rfl, ownsUpA (base := w0.heap.size) hown (Nat.le_of_lt hwl)⟩, B0.trans (hb.mono (Nat.le_of_lt hwl))⟩
end Go.Proofs.YtfpchfmjgjlelaaDoor.W
