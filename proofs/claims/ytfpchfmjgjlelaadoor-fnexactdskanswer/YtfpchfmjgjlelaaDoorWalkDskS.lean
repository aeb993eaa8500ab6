
/-
  An answer's lines; DskAnswer of the specification. Texts of at most 1048576 bytes, as many files and names.
-/
import Derived.Test.YtfpchfmjgjlelaaDoorRowA
import Derived.Test.YtfpchfmjgjlelaaDoorWalkDig
import Derived.Test.YtfpchfmjgjlelaaDoorWalkEdtI
import Derived.Test.YtfpchfmjgjlelaaDoorMathApp
import Derived.Deep.Cut
namespace Go.Proofs.YtfpchfmjgjlelaaDoor.W
open Go.RowKit Go.Proofs.YtfpchfmjgjlelaaDoor.M

def line0 (c n : Nat) : ByteArray := (((⟨#[99, 111, 100, 101, 32]⟩ ++ decB c) ++ ⟨#[32, 110, 117, 109, 98, 101, 114, 32]⟩) ++ decB n)
def lineF (x : TF) : ByteArray := ((⟨#[102, 105, 108, 101, 32]⟩ ++ x.pa) ++ ⟨#[32]⟩) ++ dashB (hxB x.by_)
def lineN (s : List UInt8) : ByteArray := ⟨#[114, 101, 102, 32]⟩ ++ ⟨s.toArray⟩
/-- an answer that has lines -/
def okA (x : AN) : Bool := decide (1 ≤ x.code) && (decide (x.code ≤ 11) && (decide (0 ≤ x.n) && decide (x.n ≤ 9999)))
def linesA (x : AN) (i j : Nat) : List (List UInt8) := (line0 x.code.toNat x.n.toNat).data.toList :: ((x.files.take i).map fun y => (lineF y).data.toList) ++ (x.names.take j).map fun s => (lineN s).data.toList
def ansL (x : AN) : List (List UInt8) := if okA x = true then linesA x x.files.length x.names.length else []
theorem linesA_len (x : AN) (i j : Nat) : (linesA x i j).length ≤ 1 + x.files.length + x.names.length := by
  simp only [linesA, List.length_append, List.length_cons, List.length_map, List.length_take]
  omega
theorem linesA_file (x : AN) (i : Nat) (h : i < x.files.length) : linesA x (i + 1) 0 = linesA x i 0 ++ [(lineF x.files[i]).data.toList] := by
  unfold linesA
  rw [List.take_succ_eq_append_getElem h, List.map_append, List.take_zero, List.map_nil, List.append_nil, List.append_nil]
  rfl
theorem linesA_name (x : AN) (i j : Nat) (h : j < x.names.length) : linesA x i (j + 1) = linesA x i j ++ [(lineN x.names[j]).data.toList] := by
  unfold linesA
  rw [List.take_succ_eq_append_getElem h, List.map_append, ← List.append_assoc]
  rfl
theorem ansL_len (x : AN) : (ansL x).length ≤ 1 + x.files.length + x.names.length := by
  unfold ansL
  split
  · exact linesA_len x _ _
  · simp
theorem l6Hex_on (s : ByteArray) (v W : World) (HB : Below v.heap.size v W) (hs : s.size ≤ 1048576) :
    Calls Tryd.prog 17 #[.string s] W fun e w' => e = .returned (.string (dashB (hxB s))) ∧ Below v.heap.size v w' :=
  (l6Hex_big s W hs).mono fun _ _ ⟨h1, h2⟩ => ⟨h1, HB.trans (h2.mono HB.size)⟩
theorem digits_on (n : Nat) (v W : World) (HB : Below v.heap.size v W) (hn : n ≤ 9999) :
    Calls Tryd.prog 16 #[.int .i64 n] W fun e w' => e = .returned (.string (decB n)) ∧ Below v.heap.size v w' :=
  (l5Digits_dec n W hn).mono fun _ _ ⟨h1, h2⟩ => ⟨h1, HB.trans (h2.mono HB.size)⟩
theorem infoS9 : (Tryd.prog.info? 9).map (fun i => (i.zero, i.size, i.bytes)) = some (some (.string ByteArray.empty), 1, 16) := by kernel_rfl
theorem asL (s : ByteArray) : (Value.string ⟨s.data.toList.toArray⟩) = .string s := by cases s; rfl
theorem strs_snocB (M : List (List UInt8)) (s : ByteArray) : strs (M ++ [s.data.toList]) = strs M ++ [.string s] := by rw [strs_snoc, asL]

set_option maxRecDepth 100000 in
set_option maxHeartbeats 8000000 in
theorem dsk_bad (x : AN) (v u : Value) (w : World) (hk : okA x = false) :
    Calls Tryd.prog 5 #[.agg (x.at_ v u)] w fun e w' => (∃ v, e = .returned v ∧ w'.ownsRow w.heap.size 9 1 v 0 []) ∧ Below w.heap.size w w' := by
  obtain ⟨w0, hw0, D, B0, hs0⟩ : ∃ w0, w.alloc (.cells (x.at_ v u) 30) = w0 ∧ AtA w0 w.heap.size x v u ∧ Below w.heap.size w w0 ∧ w0.heap.size = w.heap.size + 1 := ⟨_, rfl, atA_new w x _ _ _, (Below.refl _ w).alloc (Nat.le_refl _) _, by simp⟩
  have O0 : (w0.alloc (.cells #[] 9)).ownsRow w0.heap.size 9 1 (.slice (some ⟨w0.heap.size, 0, none⟩) 0 0) 0 [] := World.ownsRow_lit w0 #[] 0 (Nat.le_refl _) (by unfold maxLen; omega) rfl
  have hk' : (x.code < 1 ∨ 11 < x.code) ∨ (1 ≤ x.code ∧ x.code ≤ 11 ∧ (x.n < 0 ∨ 9999 < x.n)) := by
    unfold okA at hk
    simp only [Bool.and_eq_false_iff, decide_eq_false_iff_not] at hk
    omega
  have HS0 : Hid (w0.heap.size = w.heap.size + 1) := hs0
  have hwl : w.heap.size < w0.heap.size := by omega
  simp only [AN.at_] at hw0 ⊢
  obtain ⟨d0, _, _, d3⟩ := D.all
  clear hs0
  rcases hk' with h1 | ⟨h1, h2, h3⟩
  · have H1 : Hid (x.code < 1 ∨ 11 < x.code) := h1
    clear h1 hk
    go_enter Tryd.func5, Tryd.ntmps5
    go_wp2_with (go_at_call 15; refine (l1In_false x.code 1 11 _ H1.out).mono ?_; rintro e w1 ⟨rfl, rfl⟩)
    go_ret
    exact ⟨⟨_, rfl, ownsUpA (base := w0.heap.size) O0 (Nat.le_of_lt hwl)⟩, B0.alloc B0.size _⟩
  · have H3 : Hid (x.n < 0 ∨ 9999 < x.n) := h3
    have t1 : True := trivial
    have d3' : (w0.alloc (.cells #[] 9)).cell? ⟨w.heap.size, 3, none⟩ = some (.int .i64 x.n) := (World.cell?_alloc_lt _ _ _ (by show w.heap.size < _; omega)).trans d3
    clear h3 hk
    go_enter Tryd.func5, Tryd.ntmps5
    go_wp2_with (first
      | (go_at_call 15; have _t := t1; refine (l1In_true x.code 1 11 _ h1 h2).mono ?_; rintro e w1 ⟨rfl, rfl⟩; clear _t t1)
      | (go_at_call 15; refine (l1In_false x.n 0 9999 _ H3.out).mono ?_; rintro e w2 ⟨rfl, rfl⟩))
    go_ret
    exact ⟨⟨_, rfl, ownsUpA (base := w0.heap.size) O0 (Nat.le_of_lt hwl)⟩, B0.alloc B0.size _⟩
set_option maxRecDepth 100000 in
set_option maxHeartbeats 16000000 in
theorem dsk_good (x : AN) (A B : Option Addr) (c d : Nat) (w : World) (hk : okA x = true) (hF : RdF w.heap.size w A x.files) (hN : RdS w.heap.size w B x.names) (hn : x.files.length ≤ 1048576) (hm : x.names.length ≤ 1048576) (ht : ∀ j (h : j < x.files.length), (x.files[j]).pa.size ≤ 1048576 ∧ (x.files[j]).by_.size ≤ 1048576) (hts : ∀ j (h : j < x.names.length), (x.names[j]).length ≤ 1048576) :
    Calls Tryd.prog 5 #[.agg (x.at_ (.slice A x.files.length c) (.slice B x.names.length d))] w fun e w' => (∃ v, e = .returned v ∧ w'.ownsRow w.heap.size 9 1 v (linesA x x.files.length x.names.length).length (strs (linesA x x.files.length x.names.length))) ∧ Below w.heap.size w w' := by
  obtain ⟨i0, hi, hz0, hz1, hz2⟩ := info_parts infoS9
  obtain ⟨w0, hw0, D, B0, hs0⟩ : ∃ w0, w.alloc (.cells (x.at_ (.slice A x.files.length c) (.slice B x.names.length d)) 30) = w0 ∧ AtA w0 w.heap.size x (.slice A x.files.length c) (.slice B x.names.length d) ∧ Below w.heap.size w w0 ∧ w0.heap.size = w.heap.size + 1 := ⟨_, rfl, atA_new w x _ _ _, (Below.refl _ w).alloc (Nat.le_refl _) _, by simp⟩
  have HF : Hid (RdF w0.heap.size w0 A x.files) := (hF.below B0 (Nat.le_refl _)).mono (by omega)
  have HN : Hid (RdS w0.heap.size w0 B x.names) := (hN.below B0 (Nat.le_refl _)).mono (by omega)
  have HT : Hid (∀ j (h : j < x.files.length), (x.files[j]).pa.size ≤ 1048576 ∧ (x.files[j]).by_.size ≤ 1048576) := ht
  have HS : Hid (∀ j (h : j < x.names.length), (x.names[j]).length ≤ 1048576) := hts
  have HD : Hid (AtA w0 w.heap.size x (.slice A x.files.length c) (.slice B x.names.length d)) := D
  have HLn : Hid (∀ i j, (linesA x i j).length ≤ 1 + x.files.length + x.names.length) := linesA_len x
  obtain ⟨k1, k2, k3, k4⟩ : 1 ≤ x.code ∧ x.code ≤ 11 ∧ 0 ≤ x.n ∧ x.n ≤ 9999 := by
    unfold okA at hk
    simpa only [Bool.and_eq_true, decide_eq_true_eq] using hk
  obtain ⟨cn, hcn⟩ := Int.eq_ofNat_of_zero_le (show 0 ≤ x.code by omega)
  obtain ⟨nn, hnn⟩ := Int.eq_ofNat_of_zero_le k3
  have hc9 : cn ≤ 9999 := by omega
  have hn9 : nn ≤ 9999 := by omega
  have H00 : Hid ([(line0 cn nn).data.toList] = linesA x 0 0) := (show _ = _ by unfold linesA; rw [hcn, hnn]; simp)
  obtain ⟨d0, _, _, d3⟩ := D.all
  have W1 : Below w0.heap.size w0 (w0.alloc (.cells #[] 9)) := (Below.refl _ _).alloc (Nat.le_refl _) _
  have O0 : (w0.alloc (.cells #[] 9)).ownsRow w0.heap.size 9 1 (.slice (some ⟨w0.heap.size, 0, none⟩) 0 0) 0 [] := World.ownsRow_lit w0 #[] 0 (Nat.le_refl _) (by unfold maxLen; omega) rfl
  have hwl : w.heap.size < w0.heap.size := by omega
  have k1' : (1 : Int) ≤ (cn : Int) := by omega
  have k2' : (cn : Int) ≤ 11 := by omega
  have k3' : (0 : Int) ≤ (nn : Int) := by omega
  have k4' : (nn : Int) ≤ 9999 := by omega
  have t1 : True := trivial
  have t2 : True := trivial
  simp only [AN.at_] at hw0 ⊢
  rw [hcn] at hw0 d0 ⊢
  rw [hnn] at hw0 d3 ⊢
  have hsz1 := decB_size cn hc9
  have hsz2 := decB_size nn hn9
  clear hk k1 k2 k3 k4 hF hN ht hts D hs0
  go_enter Tryd.func5, Tryd.ntmps5
  go_wp2_with (first
    | (go_at_call 15; have _t := t1; refine (l1In_true (cn : Int) 1 11 _ k1' k2').mono ?_; rintro e w1 ⟨rfl, hw1⟩; subst hw1; have d3' : (w0.alloc (.cells #[] 9)).cell? ⟨w.heap.size, 3, none⟩ = some (.int .i64 nn) := (World.cell?_alloc_lt _ _ _ (by show w.heap.size < _; omega)).trans d3; clear _t t1)
    | (go_at_call 15; refine (l1In_true (nn : Int) 0 9999 _ k3' k4').mono ?_; rintro e w2 ⟨rfl, hw2⟩; subst hw2))
  have d0' : (w0.alloc (.cells #[] 9)).cell? ⟨w.heap.size, 0, none⟩ = some (.int .i64 cn) := (World.cell?_alloc_lt _ _ _ (by show w.heap.size < _; omega)).trans d0
  have hs1 : w0.heap.size ≤ (w0.alloc (.cells #[] 9)).heap.size := by simp
  obtain ⟨w1, hw1⟩ : ∃ w1, w1 = w0.alloc (.cells #[] 9) := ⟨_, rfl⟩
  rw [← hw1] at O0 d0' d3' W1 hs1 ⊢
  have D0 : Hid (w0.cell? ⟨w.heap.size, 0, none⟩ = some (.int .i64 cn)) := d0
  have D3 : Hid (w0.cell? ⟨w.heap.size, 3, none⟩ = some (.int .i64 nn)) := d3
  clear hw1 d0 d3
  have hbl : w.heap.size < w1.heap.size := by omega
  go_cut [1, 3] from 4 (fun s1 s3 wx => s1 = .pointer (some ⟨w.heap.size, 0, none⟩) ∧ ∃ g cap : Nat, s3 = .slice (some ⟨g, 0, none⟩) 1 cap ∧ wx.ownsRow w0.heap.size 9 1 (.slice (some ⟨g, 0, none⟩) 1 cap) 1 (strs (linesA x 0 0)) ∧ Below w0.heap.size w0 wx)
  case first =>
    go_region_held_law (fun w' => w'.cell? ⟨w.heap.size, 0, none⟩ = some (.int .i64 cn) ∧ w'.cell? ⟨w.heap.size, 3, none⟩ = some (.int .i64 nn)) (first | exact ⟨d0', d3'⟩ | exact SS6 | exact SS3 | exact SS | exact ⟨(World.cell?_alloc_lt _ _ _ hbl3).trans SS3.1, (World.cell?_alloc_lt _ _ _ hbl3).trans SS3.2⟩ | go_keep)
      (first
        | (go_at_call 16; have _t := t2; refine (digits_on cn w1 _ (by first | exact Below.refl _ _ | exact (Below.refl _ _).drew) hc9).mono ?_; rintro e w2 ⟨rfl, HB2⟩; have hs2 := HB2.size; have SS : w2.cell? ⟨w.heap.size, 0, none⟩ = some (.int .i64 cn) ∧ w2.cell? ⟨w.heap.size, 3, none⟩ = some (.int .i64 nn) := ⟨(HB2.cell (p := ⟨w.heap.size, 0, none⟩) hbl).trans d0', (HB2.cell (p := ⟨w.heap.size, 3, none⟩) hbl).trans d3'⟩; clear _t t2)
        | (go_at_call 16; refine (digits_on nn w1 _ (by first | exact HB2 | exact HB2.drew) hn9).mono ?_; rintro e w3 ⟨rfl, HB3⟩; have hs3 := HB3.size; have SS3 : w3.cell? ⟨w.heap.size, 0, none⟩ = some (.int .i64 cn) ∧ w3.cell? ⟨w.heap.size, 3, none⟩ = some (.int .i64 nn) := ⟨(HB3.cell (p := ⟨w.heap.size, 0, none⟩) hbl).trans d0', (HB3.cell (p := ⟨w.heap.size, 3, none⟩) hbl).trans d3'⟩; have hbl3 : w.heap.size < w3.heap.size := Nat.lt_of_lt_of_le hbl hs3)
        | (refine stepApp2 _ (by rfl) (by rfl) _ _ 23 (by rfl) w0.heap.size 9 i0 (.string ByteArray.empty) 1 16 Tryd.underlying23 hi hz0 hz1 hz2 rfl (by omega) (.slice (some ⟨w0.heap.size, 0, none⟩) 0 0) 0 [] (by rfl) (by first | exact ownsUnder O0 (HB3.alloc hs3 _) (Nat.le_refl _) | exact ownsUnder O0 ((HB3.alloc hs3 _).drew) (Nat.le_refl _)) ⟨w3.heap.size, 0, none⟩ 1 1 [.string (((⟨#[99, 111, 100, 101, 32]⟩ ++ decB cn) ++ ⟨#[32, 110, 117, 109, 98, 101, 114, 32]⟩) ++ decB nn)] (by rfl) rfl (World.news_of_block (heap_alloc_new w3 _)) (fun u hu => by simp at hu; subst hu; rfl) (by simp) (by unfold maxLen; omega) (by omega) (by first | exact Nat.le_trans hs1 (Nat.le_trans hs3 (by simp)) | (simp; omega)) ?_; intro g6 cap6 w6 o6 gr6; have HB6 : Below w0.heap.size w0 w6 := (by first | exact growOwn ((W1.trans (HB3.mono hs1)).alloc (Nat.le_trans hs1 hs3) _) (Nat.le_trans hs1 (Nat.le_trans hs3 (by simp))) (ownsUnder O0 (HB3.alloc hs3 _) (Nat.le_refl _)) gr6 (Nat.le_refl _) | exact growOwn (((W1.trans (HB3.mono hs1)).alloc (Nat.le_trans hs1 hs3) _).drew) (Nat.le_trans hs1 (Nat.le_trans hs3 (by simp))) (ownsUnder O0 ((HB3.alloc hs3 _).drew) (Nat.le_refl _)) gr6 (Nat.le_refl _)); have SS6 : w6.cell? ⟨w.heap.size, 0, none⟩ = some (.int .i64 cn) ∧ w6.cell? ⟨w.heap.size, 3, none⟩ = some (.int .i64 nn) := ⟨(HB6.cell (p := ⟨w.heap.size, 0, none⟩) hwl).trans D0.out, (HB6.cell (p := ⟨w.heap.size, 3, none⟩) hwl).trans D3.out⟩))
    all_goals
      go_wp2
      go_meet
      refine ⟨rfl, g6, cap6, rfl, ?_, HB6⟩
      rw [← H00.out]
      exact o6
  case rest =>
    clear d0' d3' O0 W1 hs1 hbl D0 D3 k1' k2' k3' k4'
    obtain ⟨rfl, g1, cap1, rfl, o1, B1⟩ := hcut
    go_wp2
    go_loopw [3, 4] (fun v iv wr => ∃ (j : Nat) (M : List (List UInt8)) (g cap : Nat), j ≤ x.files.length ∧ iv = .int .i64 j ∧ v = .slice (some ⟨g, 0, none⟩) M.length cap ∧ Hid (M = linesA x j 0) ∧ M.length ≤ 2097153 ∧ wr.ownsRow w0.heap.size 9 1 (.slice (some ⟨g, 0, none⟩) M.length cap) M.length (strs M) ∧ Below w0.heap.size w0 wr) (fun _ i _ => x.files.length - (intOf i).toNat)
    case atStart => exact ⟨0, linesA x 0 0, g1, cap1, Nat.zero_le _, rfl, rfl, rfl, by have := HLn.out 0 0; omega, o1, B1⟩
    case round =>
      obtain ⟨j, M, g, cap, hj, rfl, rfl, HM, hM, hown, hb⟩ := hrel
      have hsz := hb.size
      have DD := HD.out.below hb hwl
      obtain ⟨_, e1, e2, _⟩ := DD.all
      clear DD o1 B1
      by_cases hlt : j < x.files.length
      · obtain ⟨b, o, hA, hbl, c1, c2⟩ := (HF.out.below hb (Nat.le_refl _)) j hlt
        obtain ⟨s1, s2⟩ := HT.out j hlt
        have est := linesA_file x j hlt
        rw [← HM.out] at est
        have ele := HLn.out (j + 1) 0
        rw [est, List.length_append] at ele
        obtain ⟨y, hy⟩ : ∃ y, x.files[j] = y := ⟨_, rfl⟩
        rw [hy] at c1 c2 s1 s2 est ele
        obtain ⟨q, t⟩ := y
        simp only at c1 c2 s1 s2
        have hdx9 : (dashB (hxB t)).size ≤ 2097153 := by
          have h1 := dashB_size (hxB t)
          have h2 : (hxB t).size = 2 * t.size := by unfold hxB; rw [size_mk, hxL_length, Array.length_toList]; rfl
          omega
        obtain ⟨dx, hdx⟩ : ∃ dx, dashB (hxB t) = dx := ⟨_, rfl⟩
        have HX : Hid (dashB (hxB t) = dx) := hdx
        have HE : Hid (M ++ [(((⟨#[102, 105, 108, 101, 32]⟩ ++ q) ++ ⟨#[32]⟩) ++ dx : ByteArray).data.toList] = linesA x (j + 1) 0) := (show _ = _ from by rw [est, ← hdx]; rfl)
        rw [hdx] at hdx9
        have hM1 : M.length + 1 ≤ 2097153 := by simp at ele; omega
        clear est ele hy hdx HM
        subst hA
        have hbx : w.heap.size < wr.heap.size := by omega
        have hbw : b < wr.heap.size := by omega
        have C0 : Hid (wr.cell? ⟨w.heap.size, 1, none⟩ = some (.slice (some ⟨b, o, none⟩) x.files.length c)) := e1
        have C1 : Hid (wr.cell? ⟨b, o + j * 2, none⟩ = some (.string q)) := c1
        have C2 : Hid (wr.cell? ⟨b, o + j * 2 + 1, none⟩ = some (.string t)) := c2
        go_wp2
        go_region_held_law (fun w' => w'.cell? ⟨w.heap.size, 1, none⟩ = some (.slice (some ⟨b, o, none⟩) x.files.length c) ∧ w'.cell? ⟨b, o + j * 2, none⟩ = some (.string q) ∧ w'.cell? ⟨b, o + j * 2 + 1, none⟩ = some (.string t)) (first | exact ⟨e1, c1, c2⟩ | exact SS6 | exact SS | exact ⟨(World.cell?_alloc_lt _ _ _ hbx2).trans SS.1, (World.cell?_alloc_lt _ _ _ hbw2).trans SS.2.1, (World.cell?_alloc_lt _ _ _ hbw2).trans SS.2.2⟩ | go_keep)
          (first
            | (go_at_call 17; refine (l6Hex_on t wr _ (by first | exact Below.refl _ _ | exact (Below.refl _ _).drew) s2).mono ?_; rw [HX.out]; rintro e w2 ⟨rfl, HB2⟩; have hs2 := HB2.size; have SS : w2.cell? ⟨w.heap.size, 1, none⟩ = some (.slice (some ⟨b, o, none⟩) x.files.length c) ∧ w2.cell? ⟨b, o + j * 2, none⟩ = some (.string q) ∧ w2.cell? ⟨b, o + j * 2 + 1, none⟩ = some (.string t) := ⟨(HB2.cell (p := ⟨w.heap.size, 1, none⟩) hbx).trans C0.out, (HB2.cell (p := ⟨b, o + j * 2, none⟩) hbw).trans C1.out, (HB2.cell (p := ⟨b, o + j * 2 + 1, none⟩) hbw).trans C2.out⟩; have hbx2 : w.heap.size < w2.heap.size := Nat.lt_of_lt_of_le hbx hs2; have hbw2 : b < w2.heap.size := Nat.lt_of_lt_of_le hbw hs2)
            | (refine stepApp2 _ (by rfl) (by rfl) _ _ 23 (by rfl) w0.heap.size 9 i0 (.string ByteArray.empty) 1 16 Tryd.underlying23 hi hz0 hz1 hz2 rfl (by omega) (.slice (some ⟨g, 0, none⟩) M.length cap) M.length (strs M) (by rfl) (by first | exact ownsUnder hown (HB2.alloc hs2 _) (Nat.le_refl _) | exact ownsUnder hown ((HB2.alloc hs2 _).drew) (Nat.le_refl _)) ⟨w2.heap.size, 0, none⟩ 1 1 [.string (((⟨#[102, 105, 108, 101, 32]⟩ ++ q) ++ ⟨#[32]⟩) ++ dx)] (by rfl) rfl (World.news_of_block (heap_alloc_new w2 _)) (fun u hu => by simp at hu; subst hu; rfl) (by simp) (by unfold maxLen; omega) (by omega) (by first | exact Nat.le_trans hsz (Nat.le_trans hs2 (by simp)) | (simp; omega)) ?_; intro g6 cap6 w6 o6 gr6; have HB6 : Below w0.heap.size w0 w6 := (by first | exact growOwn ((hb.trans (HB2.mono hsz)).alloc (Nat.le_trans hsz hs2) _) (Nat.le_trans hsz (Nat.le_trans hs2 (by simp))) (ownsUnder hown (HB2.alloc hs2 _) (Nat.le_refl _)) gr6 (Nat.le_refl _) | exact growOwn (((hb.trans (HB2.mono hsz)).alloc (Nat.le_trans hsz hs2) _).drew) (Nat.le_trans hsz (Nat.le_trans hs2 (by simp))) (ownsUnder hown ((HB2.alloc hs2 _).drew) (Nat.le_refl _)) gr6 (Nat.le_refl _)); have SS6 : w6.cell? ⟨w.heap.size, 1, none⟩ = some (.slice (some ⟨b, o, none⟩) x.files.length c) ∧ w6.cell? ⟨b, o + j * 2, none⟩ = some (.string q) ∧ w6.cell? ⟨b, o + j * 2 + 1, none⟩ = some (.string t) := ⟨(HB6.cell (p := ⟨w.heap.size, 1, none⟩) hwl).trans ((hb.cell (p := ⟨w.heap.size, 1, none⟩) hwl).symm.trans C0.out), (HB6.cell (p := ⟨b, o + j * 2, none⟩) hbl).trans ((hb.cell (p := ⟨b, o + j * 2, none⟩) hbl).symm.trans C1.out), (HB6.cell (p := ⟨b, o + j * 2 + 1, none⟩) hbl).trans ((hb.cell (p := ⟨b, o + j * 2 + 1, none⟩) hbl).symm.trans C2.out)⟩))
        all_goals
          go_wp2
          go_roundw
          case rel =>
            refine ⟨j + 1, M ++ [(((⟨#[102, 105, 108, 101, 32]⟩ ++ q) ++ ⟨#[32]⟩) ++ dx : ByteArray).data.toList], g6, cap6, by omega, by go_num, by rw [List.length_append]; rfl, HE, by rw [List.length_append]; exact hM1, ?_, HB6⟩
            rw [strs_snocB, List.length_append]
            exact o6
          case measure => simp [intOf]; omega
      · obtain rfl : j = x.files.length := by omega
        go_wp2
        clear e1 e2
        go_loopw [3, 5] (fun v iv w2 => ∃ (i : Nat) (M : List (List UInt8)), i ≤ x.names.length ∧ iv = .int .i64 i ∧ Hid (M = linesA x x.files.length i) ∧ M.length ≤ 2097153 ∧ w2.ownsRow w0.heap.size 9 1 v M.length (strs M) ∧ Below w0.heap.size w0 w2) (fun _ i _ => x.names.length - (intOf i).toNat)
        case atStart => exact ⟨0, M, Nat.zero_le _, rfl, HM, hM, hown, hb⟩
        case round =>
          clear hb hown HM hM hsz hlt hj
          obtain ⟨i, M, hi9, rfl, HM, hM, hown, hb⟩ := hrel
          have hsz := hb.size
          have DD := HD.out.below hb hwl
          obtain ⟨_, _, e2, _⟩ := DD.all
          clear DD
          by_cases hlt : i < x.names.length
          · obtain ⟨b, o, hA, hbl, c1⟩ := (HN.out.below hb (Nat.le_refl _)) i hlt
            have s1 := HS.out i hlt
            have est := linesA_name x x.files.length i hlt
            rw [← HM.out] at est
            have ele := HLn.out x.files.length (i + 1)
            rw [est, List.length_append] at ele
            obtain ⟨q, hq⟩ : ∃ q, ByteArray.mk (x.names[i]).toArray = q := ⟨_, rfl⟩
            have hq9 : q.size ≤ 1048576 := by rw [← hq, size_mk]; exact s1
            have HE : Hid (M ++ [(⟨#[114, 101, 102, 32]⟩ ++ q : ByteArray).data.toList] = linesA x x.files.length (i + 1)) := (show _ = _ from by rw [est, ← hq]; rfl)
            rw [hq] at c1
            have hM1 : M.length + 1 ≤ 2097153 := by simp at ele; omega
            clear est ele hq HM
            subst hA
            go_wp2_with (at_builtin; refine wpList_append_own _ rfl _ _ 23 rfl w0.heap.size 9 i0 (.string ByteArray.empty) 1 16 Tryd.underlying23 hi hz0 hz1 hz2 rfl (by decide) _ _ _ rfl (hown.alloc _) ⟨wr.heap.size, 0, none⟩ 1 1 [.string (⟨#[114, 101, 102, 32]⟩ ++ q)] rfl rfl (cells_new wr #[.string (⟨#[114, 101, 102, 32]⟩ ++ q)] 9) (by simp [Value.oneCell']) (by unfold maxLen; omega) (by omega) (by simp; omega) ?_; intro v8 w8 Q8 g8 _)
            go_roundw
            case rel =>
              refine ⟨i + 1, M ++ [(⟨#[114, 101, 102, 32]⟩ ++ q : ByteArray).data.toList], by omega, by go_num, HE, by rw [List.length_append]; exact hM1, ?_, growOwn (hb.alloc (by omega) _) (by simp; omega) (hown.alloc _) g8 (Nat.le_refl _)⟩
              rw [strs_snocB, List.length_append]
              exact Q8
            case measure => simp [intOf]; omega
          · obtain rfl : i = x.names.length := by omega
            have hM9 := HM.out
            go_wp2
            go_ret
            subst hM9
            exact ⟨⟨_, rfl, ownsUpA (base := w0.heap.size) hown (Nat.le_of_lt hwl)⟩, B0.trans (hb.mono (Nat.le_of_lt hwl))⟩
end Go.Proofs.YtfpchfmjgjlelaaDoor.W
