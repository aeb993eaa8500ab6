/-
  The specification's l4Names, l4Part, l4Lay: first names, the files under one, a tree's texts. At most 60 files with texts of at most 1048576 bytes; a depth of at most 3.
  Texts side by side, as a slice reads them. No condition.
  The specification's l4Lay: a tree's texts, those that are named first, and the id of its sheet. At most 60 files with texts of at most 1048576 bytes; a depth of at most 3.
-/
import Derived.Test.YthfffpdkmoclbaaGreatDoorMg13
import Derived.Test.YthfffpdkmoclbaaGreatDoorMg15
import Derived.Test.YthfffpdkmoclbaaGreatDoorMg05
import Derived.Test.YthfffpdkmoclbaaGreatDoorMg14
import Derived.Test.YthfffpdkmoclbaaGreatDoorMg04
import Derived.Below
namespace Go.Proofs.YthfffpdkmoclbaaGreatDoor.W
open Go.RowKit Go.Proofs.YthfffpdkmoclbaaGreatDoor.M
set_option linter.unusedVariables false

/-- texts of at most so many bytes -/
def smallF (m : Nat) (L : List TF) : Prop := ∀ x ∈ L, x.pa.size ≤ m ∧ x.by_.size ≤ m
theorem pa_eqB {p q : ByteArray} (h : p.data.toList = q.data.toList) : p = q := by
  cases p; cases q; exact congrArg _ (Array.toList_inj.1 h)
theorem restS_on (s : ByteArray) (v W : World) (HB : Below v.heap.size v W) (hs : s.size ≤ 4194304) :
    Calls Tryz.prog 128 #[.string s] W fun e w' => e = .returned (.string ⟨(restL s.data.toList).toArray⟩) ∧ Below v.heap.size v w' :=
  (rest_spec s W hs).mono fun _ _ ⟨h1, h2⟩ => ⟨h1, HB.trans (h2.mono HB.size)⟩
set_option maxHeartbeats 2000000 in
theorem l4Names_any (A : Option Addr) (c : Nat) (L : List TF) (w : World) (hL : RdF w.heap.size w A L) (hn : L.length ≤ 1048576) (ht : smallF 1048576 L) :
    Calls Tryz.prog 103 #[.slice A L.length c] w fun e w' => (∃ v, e = .returned v ∧ w'.ownsRow w.heap.size 9 1 v (namF L).length (strs (namF L))) ∧ Below w.heap.size w w' := by
  have HL : Hid (RdF w.heap.size w A L) := hL
  have HT : Hid (smallF 1048576 L) := ht
  clear hL ht
  go_enter Tryz.func103, Tryz.ntmps103
  go_wp2
  go_loopw [3, 4] (fun v iv wr => ∃ (j : Nat) (M : List (List UInt8)), j ≤ L.length ∧ iv = .int .i64 j ∧ Hid (M = namesB ((L.take j).map fstF)) ∧ M.length ≤ 1048576 ∧ wr.ownsRow w.heap.size 9 1 v M.length (strs M) ∧ Below w.heap.size w wr) (fun _ i _ => L.length - (intOf i).toNat)
  case atStart => exact ⟨0, [], Nat.zero_le _, rfl, rfl, by simp, World.ownsRow_lit w #[] 0 (Nat.le_refl _) (by unfold maxLen; omega) rfl, (Below.refl _ _).alloc (Nat.le_refl _) _⟩
  case round =>
    obtain ⟨j, M, hj, rfl, HM, hM, hown, hb⟩ := hrel
    have hsz := hb.size
    by_cases hlt : j < L.length
    · obtain ⟨b, o, rfl, hbl, c1, c2⟩ := (HL.out.below hb (Nat.le_refl _)) j hlt
      have hs := (HT.out _ (List.getElem_mem hlt)).1
      have HE : Hid (nameB M (fstF L[j]) = namesB ((L.take (j + 1)).map fstF)) := (show _ = _ from by rw [List.take_succ_eq_append_getElem hlt, List.map_append, HM.out, List.map_cons, List.map_nil, namesB_snoc])
      have hlen : (nameB M (fstF L[j])).length ≤ 1048576 := by
        have e := HE.out
        rw [e]
        refine Nat.le_trans (namesB_len _) ?_
        rw [List.length_map, List.length_take]
        omega
      obtain ⟨q, hq⟩ : ∃ q, (L[j]).pa = q := ⟨_, rfl⟩
      have hf : fstF L[j] = firstL q.data.toList := by unfold fstF; rw [hq]
      rw [hf] at HE hlen
      rw [hq] at c1 hs
      clear hf hq HM
      go_wp2_with (first
        | (go_at_call 127; refine (first_spec q _ (by omega)).mono ?_; rintro e w1 ⟨rfl, hb1⟩; replace hown := ownsUnder hown hb1 (Nat.le_refl _); replace hb := hb.trans (hb1.mono hsz); replace hsz := hb.size; clear hb1)
        | (go_at_call 126; refine (l4Name_own _ M (firstL q.data.toList) w.heap.size _ hown hsz (by omega)).mono ?_; rintro e w2 ⟨v', rfl, hown', hb2⟩))
      go_roundw
      case rel => exact ⟨j + 1, _, by omega, by go_num, HE, hlen, hown', hb.trans (hb2.mono hsz)⟩
      case measure => simp [intOf]; omega
    · go_wp2
      go_ret
      obtain rfl : j = L.length := by omega
      have e := HM.out
      rw [List.take_length] at e
      subst e
      exact ⟨⟨_, rfl, hown⟩, hb⟩
theorem cellsF_part (L : List TF) (a : List UInt8) (j : Nat) (h : j < L.length) : partF (L.take (j + 1)) a = partF (L.take j) a ++ (if fstF L[j] = a then [rstF L[j]] else []) := by
  unfold partF
  rw [List.take_succ_eq_append_getElem h, List.filter_append, List.map_append]
  by_cases hx : fstF L[j] = a <;> simp [hx]
set_option maxRecDepth 100000 in
set_option maxHeartbeats 4000000 in
theorem l4Part_any (A : Option Addr) (c : Nat) (L : List TF) (a : List UInt8) (w : World) (hL : RdF w.heap.size w A L) (hn : L.length ≤ 1048576) (ht : smallF 1048576 L) :
    Calls Tryz.prog 104 #[.slice A L.length c, .string ⟨a.toArray⟩] w fun e w' => (∃ v, e = .returned v ∧ w'.ownsRow w.heap.size 98 2 v (partF L a).length (cellsF (partF L a))) ∧ Below w.heap.size w w' := by
  obtain ⟨i0, hi, hz0, hz1, hz2⟩ := info_parts infoF
  have HL : Hid (RdF w.heap.size w A L) := hL
  have HT : Hid (smallF 1048576 L) := ht
  obtain ⟨s, hs⟩ : ∃ s, ByteArray.mk a.toArray = s := ⟨_, rfl⟩
  have HS : Hid (ByteArray.mk a.toArray = s) := hs
  rw [hs]
  clear hL ht hs
  go_enter Tryz.func104, Tryz.ntmps104
  go_wp2
  go_loopw [5, 6] (fun v iv wr => ∃ (j : Nat) (M : List TF) (g cap : Nat), j ≤ L.length ∧ iv = .int .i64 j ∧ v = .slice (some ⟨g, 0, none⟩) M.length cap ∧ Hid (M = partF (L.take j) a) ∧ M.length ≤ j ∧ wr.ownsRow w.heap.size 98 2 (.slice (some ⟨g, 0, none⟩) M.length cap) M.length (cellsF M) ∧ Below w.heap.size w wr) (fun _ i _ => L.length - (intOf i).toNat)
  case atStart => exact ⟨0, [], w.heap.size, 0, Nat.zero_le _, rfl, rfl, rfl, Nat.le_refl _, World.ownsRow_lit w #[] 0 (Nat.le_refl _) (by unfold maxLen; omega) rfl, (Below.refl _ _).alloc (Nat.le_refl _) _⟩
  case round =>
    obtain ⟨j, M, g, cap, hj, rfl, rfl, HM, hM, hown, hb⟩ := hrel
    have hsz := hb.size
    by_cases hlt : j < L.length
    · obtain ⟨b, o, rfl, hbl, c1, c2⟩ := (HL.out.below hb (Nat.le_refl _)) j hlt
      have hsm := HT.out _ (List.getElem_mem hlt)
      have est := cellsF_part L a j hlt
      rw [← HM.out] at est
      obtain ⟨y, hy⟩ : ∃ y, L[j] = y := ⟨_, rfl⟩
      rw [hy] at c1 c2 hsm est
      obtain ⟨q, t⟩ := y
      simp only at c1 c2 hsm
      obtain ⟨s1, s2⟩ := hsm
      obtain ⟨fq, hfq⟩ : ∃ fq, ByteArray.mk (firstL q.data.toList).toArray = fq := ⟨_, rfl⟩
      have HFQ : Hid (ByteArray.mk (firstL q.data.toList).toArray = fq) := hfq
      by_cases hfa : fstF ⟨q, t⟩ = a
      · rw [if_pos hfa] at est
        have hfs : fq = s := by rw [← hfq, ← HS.out, ← hfa]; rfl
        subst hfs
        obtain ⟨rq, hrq⟩ : ∃ rq, ByteArray.mk (restL q.data.toList).toArray = rq := ⟨_, rfl⟩
        have HRQ : Hid (ByteArray.mk (restL q.data.toList).toArray = rq) := hrq
        have HE : Hid (M ++ [⟨rq, t⟩] = partF (L.take (j + 1)) a) := (show _ = _ from by rw [est, ← hrq]; rfl)
        have e1 : (fq.toList == fq.toList) = true := by simp
        clear est hy hfa hfq hrq HM
        have hbw : b < wr.heap.size := by omega
        have C1 : Hid (wr.cell? ⟨b, o + j * 2, none⟩ = some (.string q)) := c1
        have C2 : Hid (wr.cell? ⟨b, o + j * 2 + 1, none⟩ = some (.string t)) := c2
        go_wp2_with (go_at_call 127; refine (first_spec q _ (by omega)).mono ?_; rw [HFQ.out]; rintro e w1 ⟨rfl, hb1⟩; have hs1 := hb1.size; replace c1 := (hb1.cell (p := ⟨b, o + j * 2, none⟩) hbw).trans C1.out; replace c2 := (hb1.cell (p := ⟨b, o + j * 2 + 1, none⟩) hbw).trans C2.out; replace hown := ownsUnder hown hb1 (Nat.le_refl _); replace hb := hb.trans (hb1.mono hsz); replace hsz := hb.size; have hbw1 : b < w1.heap.size := Nat.lt_of_lt_of_le hbw hs1; have D1 : Hid (w1.cell? ⟨b, o + j * 2, none⟩ = some (.string q)) := c1; have D2 : Hid (w1.cell? ⟨b, o + j * 2 + 1, none⟩ = some (.string t)) := c2; clear hb1)
        go_region_held_law (fun w' => w'.cell? ⟨b, o + j * 2, none⟩ = some (.string q) ∧ w'.cell? ⟨b, o + j * 2 + 1, none⟩ = some (.string t)) (first | exact ⟨c1, c2⟩ | exact SS6 | exact SS | exact ⟨(World.cell?_alloc_lt _ _ _ hbw2).trans SS.1, (World.cell?_alloc_lt _ _ _ hbw2).trans SS.2⟩ | go_keep)
          (first
            | (go_at_call 128; refine (restS_on q w1 _ (by first | exact Below.refl _ _ | exact (Below.refl _ _).drew) (by omega)).mono ?_; rw [HRQ.out]; rintro e w2 ⟨rfl, HB2⟩; have hs2 := HB2.size; have SS : w2.cell? ⟨b, o + j * 2, none⟩ = some (.string q) ∧ w2.cell? ⟨b, o + j * 2 + 1, none⟩ = some (.string t) := ⟨(HB2.cell (p := ⟨b, o + j * 2, none⟩) hbw1).trans D1.out, (HB2.cell (p := ⟨b, o + j * 2 + 1, none⟩) hbw1).trans D2.out⟩; have hbw2 : b < w2.heap.size := Nat.lt_of_lt_of_le hbw1 hs2)
            | (refine stepApp2 _ (by rfl) (by rfl) _ _ 49 (by rfl) w.heap.size 98 i0 (.agg #[.string ByteArray.empty, .string ByteArray.empty]) 2 32 Tryz.underlying49 hi hz0 hz1 hz2 rfl (by omega) (.slice (some ⟨g, 0, none⟩) M.length cap) M.length (cellsF M) (by rfl) (by first | exact ownsUnder hown (HB2.alloc hs2 _) (Nat.le_refl _) | exact ownsUnder hown ((HB2.alloc hs2 _).drew) (Nat.le_refl _)) ⟨w2.heap.size, 0, none⟩ 1 1 [.string rq, .string t] (by rfl) rfl (World.news_of_block (heap_alloc_new w2 _)) (fun u hu => by simp at hu; rcases hu with rfl | rfl <;> rfl) (by simp) (by unfold maxLen; omega) (by omega) (by first | exact Nat.le_trans hsz (Nat.le_trans hs2 (by simp)) | (simp; omega)) ?_; intro g6 cap6 w6 o6 gr6; have HB6 : Below w.heap.size w w6 := (by first | exact growOwn ((hb.trans (HB2.mono hsz)).alloc (Nat.le_trans hsz hs2) _) (Nat.le_trans hsz (Nat.le_trans hs2 (by simp))) (ownsUnder hown (HB2.alloc hs2 _) (Nat.le_refl _)) gr6 (Nat.le_refl _) | exact growOwn (((hb.trans (HB2.mono hsz)).alloc (Nat.le_trans hsz hs2) _).drew) (Nat.le_trans hsz (Nat.le_trans hs2 (by simp))) (ownsUnder hown ((HB2.alloc hs2 _).drew) (Nat.le_refl _)) gr6 (Nat.le_refl _)); have SS6 : w6.cell? ⟨b, o + j * 2, none⟩ = some (.string q) ∧ w6.cell? ⟨b, o + j * 2 + 1, none⟩ = some (.string t) := ⟨(HB6.cell (p := ⟨b, o + j * 2, none⟩) hbl).trans ((hb.cell (p := ⟨b, o + j * 2, none⟩) hbl).symm.trans D1.out), (HB6.cell (p := ⟨b, o + j * 2 + 1, none⟩) hbl).trans ((hb.cell (p := ⟨b, o + j * 2 + 1, none⟩) hbl).symm.trans D2.out)⟩))
        all_goals
          go_wp2
          go_roundw
          case rel =>
            refine ⟨j + 1, M ++ [⟨rq, t⟩], g6, cap6, by omega, by go_num, by rw [List.length_append]; rfl, HE, by simp; omega, ?_, HB6⟩
            rw [cellsF_snoc, List.length_append]
            exact o6
          case measure => simp [intOf]; omega
      · rw [if_neg hfa, List.append_nil] at est
        have hne : fq ≠ s := fun e => hfa (by
          have h1 := congrArg (fun z : ByteArray => z.data.toList) (hfq.trans (e.trans HS.out.symm))
          simpa [fstF] using h1)
        have e1 : (fq.toList == s.toList) = false := by
          rw [Lib.toList_data, Lib.toList_data]
          simpa using fun e => hne (pa_eqB e)
        have HE : Hid (M = partF (L.take (j + 1)) a) := est.symm
        clear est hy hfa hne hfq HM
        go_wp2_with (go_at_call 127; refine (first_spec q _ (by omega)).mono ?_; rw [HFQ.out]; rintro e w1 ⟨rfl, hb1⟩; replace hown := ownsUnder hown hb1 (Nat.le_refl _); replace hb := hb.trans (hb1.mono hsz); replace hsz := hb.size; clear hb1)
        go_roundw
        case rel => exact ⟨j + 1, M, g, cap, by omega, by go_num, rfl, HE, by omega, hown, hb⟩
        case measure => simp [intOf]; omega
    · go_wp2
      go_ret
      obtain rfl : j = L.length := by omega
      have e := HM.out
      rw [List.take_length] at e
      subst e
      exact ⟨⟨_, rfl, hown⟩, hb⟩
end Go.Proofs.YthfffpdkmoclbaaGreatDoor.W
namespace Go.Proofs.YthfffpdkmoclbaaGreatDoor.W
open Go.RowKit Go.Proofs.YthfffpdkmoclbaaGreatDoor.M

/-- the slice at A reads as these texts -/
def RdT (B : Nat) (w : World) (A : Option Addr) (N : List (List UInt8)) : Prop :=
  ∀ j (h : j < N.length), ∃ b, A = some ⟨b, 0, none⟩ ∧ b < B ∧ w.cell? ⟨b, j, none⟩ = some (.string ⟨(N[j]).toArray⟩)
theorem RdT.below {B B' : Nat} {w w' : World} {A : Option Addr} {N : List (List UInt8)} (h : RdT B w A N) (hb : Below B' w w') (hB : B ≤ B') : RdT B w' A N := fun j hj => by
  obtain ⟨b, e, hl, c⟩ := h j hj
  exact ⟨b, e, hl, (hb.cell (p := ⟨b, _, none⟩) (by show b < B'; omega)).trans c⟩
theorem RdT.mono {B B' : Nat} {w : World} {A : Option Addr} {N : List (List UInt8)} (h : RdT B w A N) (hB : B ≤ B') : RdT B' w A N := fun j hj => by
  obtain ⟨b, e, hl, c⟩ := h j hj
  exact ⟨b, e, by omega, c⟩
theorem RdT.up {w w' : World} {A : Option Addr} {N : List (List UInt8)} (h : RdT w.heap.size w A N) (hb : Below w.heap.size w w') : RdT w'.heap.size w' A N := (h.below hb (Nat.le_refl _)).mono hb.size
theorem strs_at (L : List (List UInt8)) (j : Nat) (h : j < L.length) : (strs L)[j]? = some (.string ⟨(L[j]).toArray⟩) := by simp [strs, h]
theorem rdT_of_own {w : World} {base : Nat} {e : TypeId} {v : Value} {N : List (List UInt8)} (h : w.ownsRow base e 1 v N.length (strs N)) : ∃ A c, v = .slice A N.length c ∧ RdT w.heap.size w A N := by
  have hl := h.lt
  rcases h.2 with ⟨rfl, hn⟩ | ⟨g, cap, cur, rfl, _⟩
  · exact ⟨none, 0, by rw [hn], fun j hj => by omega⟩
  · exact ⟨some ⟨g, 0, none⟩, cap, rfl, fun j hj => ⟨g, rfl, (hl g rfl).2, by rw [h.cellAt j (by omega)]; exact strs_at N j hj⟩⟩
theorem hid9 {p : Prop} (h : p) : Hid p := h
end Go.Proofs.YthfffpdkmoclbaaGreatDoor.W
namespace Go.Proofs.YthfffpdkmoclbaaGreatDoor.W
open Go.RowKit Go.Proofs.YthfffpdkmoclbaaGreatDoor.M
set_option linter.unusedVariables false

def sL (T : List ByteArray) : List (List UInt8) := T.map fun s => s.data.toList
theorem sL_len (T : List ByteArray) : (sL T).length = T.length := by simp [sL]
theorem sL_app (T U : List ByteArray) : sL (T ++ U) = sL T ++ sL U := by simp [sL]
theorem strs_app (A B : List (List UInt8)) : strs (A ++ B) = strs A ++ strs B := by simp [strs]
theorem asLL (s : ByteArray) : (Value.string ⟨s.data.toList.toArray⟩) = .string s := by cases s; rfl
theorem strs_one (s : ByteArray) : strs (sL [s]) = [.string s] := by
  show [Value.string ⟨s.data.toList.toArray⟩] = _
  rw [asLL]
theorem infoSt : (Tryz.prog.info? 9).map (fun i => (i.zero, i.size, i.bytes)) = some (some (.string ByteArray.empty), 1, 16) := by kernel_rfl
theorem infoOb : (Tryz.prog.info? 90).map (fun i => (i.zero, i.size, i.bytes)) = some (some (.agg #[.string ByteArray.empty, .bool false, .int .i64 0]), 3, 32) := by kernel_rfl
theorem cellsO_app1 (L : List OE) (x : OE) : cellsO (L ++ [x]) = cellsO L ++ [.string x.nm, .bool x.sh, .int .i64 x.id] := by simp [cellsO]
/-- a block other than a row's -/
def offA (A : Option Addr) (v : Value) : Prop := ∀ b o, A = some ⟨b, o, none⟩ → v.ownBlock ≠ some b
theorem RdT.row {B : Nat} {w w' : World} {A : Option Addr} {N : List (List UInt8)} (h : RdT B w A N) {r : Option Nat} (hg : w.grownBy w' r) (hB : B ≤ w.heap.size) (hr : ∀ b o, A = some ⟨b, o, none⟩ → r ≠ some b) : RdT B w' A N := fun j hj => by
  obtain ⟨b, e, hl, c⟩ := h j hj
  exact ⟨b, e, hl, (World.cell?_of_block (a := ⟨b, j, none⟩) (hg.block b (by omega) (fun e9 => hr b 0 e e9.symm))).trans c⟩
theorem offA_app {A : Option Addr} {v v' : Value} {w : World} {B : Nat} (h : offA A v) (hA : ∀ b o, A = some ⟨b, o, none⟩ → b < w.heap.size) (hv : v'.ownBlock = v.ownBlock ∨ v'.ownBlock = some w.heap.size) : offA A v' := fun b o e e9 => by
  rcases hv with hv | hv
  · exact h b o e (hv.symm.trans e9)
  · have := hA b o e
    rw [hv] at e9
    simp at e9
    omega
theorem apartO {w : World} {b b' z z' n n' : Nat} {e e' : TypeId} {v v' : Value} {xs xs' : List Value} (h : w.ownsRow b e z v n xs) (h' : w.ownsRow b' e' z' v' n' xs') (hne : e ≠ e') : v.ownBlock = none ∨ v.ownBlock ≠ v'.ownBlock := by
  rcases h.2 with ⟨rfl, _⟩ | ⟨g1, c1, cur1, rfl, _, h1, _⟩
  · exact .inl rfl
  · refine .inr fun e9 => ?_
    rcases h'.2 with ⟨rfl, _⟩ | ⟨g2, c2, cur2, rfl, _, h3, _⟩
    · simp [Value.ownBlock] at e9
    · obtain rfl : g1 = g2 := by simpa [Value.ownBlock] using e9
      rw [h1] at h3
      cases h3
      exact hne rfl
theorem newsO {w w' : World} {base n : Nat} {g c : Nat} {xs : List Value} {e : TypeId} (h : w.ownsRow base e 1 (.slice (some ⟨g, 0, none⟩) n c) n xs) : ∀ j u, xs[j]? = some u → w.cell? ((⟨g, 0, none⟩ : Addr).add j) = some u := fun j u hj => by
  have hlt : j < n * 1 := by rw [← h.1]; exact (List.getElem?_eq_some_iff.1 hj).1
  have e : (⟨g, 0, none⟩ : Addr).add j = ⟨g, j, none⟩ := by unfold Addr.add; split <;> simp_all
  rw [e]
  exact (h.cellAt j hlt).trans hj
theorem strs_cell (T : List ByteArray) : ∀ u ∈ strs (sL T), u.oneCell' = true := fun u hu => by
  unfold strs at hu
  obtain ⟨x, _, rfl⟩ := List.mem_map.1 hu
  rfl
/-- the test of a single file at the empty path -/
theorem leaf_cases (P : List TF) : (∃ t, P = [⟨⟨#[]⟩, t⟩] ∧ leafP P = some ⟨⟨#[]⟩, t⟩) ∨ (∃ q t, P = [⟨q, t⟩] ∧ q.toList.isEmpty = false ∧ leafP P = none) ∨ (P.length ≠ 1 ∧ leafP P = none) := by
  match P with
  | [] => exact .inr (.inr ⟨by simp, rfl⟩)
  | x :: y :: l => exact .inr (.inr ⟨by simp, rfl⟩)
  | [⟨q, t⟩] =>
    by_cases h : q.data.toList = []
    · have : q = ⟨#[]⟩ := pa_eqB (by rw [h])
      subst this
      exact .inl ⟨t, rfl, rfl⟩
    · exact .inr (.inl ⟨q, t, rfl, nonempty_f _ h, by unfold leafP; simp [h]⟩)
/-- what l4Lay answers -/
def LayS (d : Nat) (L : List TF) (w : World) (e : Ending) (w' : World) : Prop := (∃ v, e = .returned (.tuple #[v, .int .i64 (layI d L)]) ∧ w'.ownsRow w.heap.size 9 1 v (layT d L).length (strs (sL (layT d L)))) ∧ Below w.heap.size w w'
theorem layK_leaf (d : Nat) (L : List TF) (k : Nat) (h : k < (namF L).length) (x : TF) (hx : leafP (partF L (namF L)[k]) = some x) : layK d L (k + 1) = ((layK d L k).1 ++ [leafB x.by_], (layK d L k).2 ++ [⟨⟨((namF L)[k]).toArray⟩, false, idOfN (leafB x.by_).data.toList⟩]) := by
  rw [layK_step d L k h]
  unfold grpOf
  rw [hx]
theorem layK_deep (d : Nat) (L : List TF) (k : Nat) (h : k < (namF L).length) (hx : leafP (partF L (namF L)[k]) = none) : layK d L (k + 1) = ((layK d L k).1 ++ layT d (partF L (namF L)[k]), (layK d L k).2 ++ [⟨⟨((namF L)[k]).toArray⟩, true, layI d (partF L (namF L)[k])⟩]) := by
  rw [layK_step d L k h]
  unfold grpOf
  rw [hx]
  rfl
theorem idS_on (s : ByteArray) (v W : World) (HB : Below v.heap.size v W) (hs : s.size ≤ 4194304) :
    Calls Tryz.prog 55 #[.string s] W fun e w' => e = .returned (.int .i64 (idOfN s.data.toList)) ∧ Below v.heap.size v w' :=
  (idOf_spec s W hs).mono fun _ _ ⟨h1, h2⟩ => ⟨h1, h2 ▸ HB⟩
theorem cellT {w : World} {B g : Nat} {N : List (List UInt8)} {k : Nat} {nm : ByteArray} (h : RdT B w (some ⟨g, 0, none⟩) N) (hk : k < N.length) (hn : ByteArray.mk (N[k]).toArray = nm) : w.cell? ⟨g, k, none⟩ = some (.string nm) := by
  obtain ⟨b, e, _, c⟩ := h k hk
  simp only [Option.some.injEq, Addr.mk.injEq] at e
  obtain ⟨rfl, _⟩ := e
  rw [← hn]; exact c
theorem ix1 (bp op c : Nat) (w : World) : (Instr.indexAt 49 (.slice (some ⟨bp, op, none⟩) 1 c) (.int .i64 0)).run Tryz.prog w = .ok (.pointer (some ⟨bp, op, none⟩)) w := by
  first
    | kernel_rfl
    | simp [Instr.indexAt, go_sem]
theorem layK_nm (d : Nat) (L : List TF) (k : Nat) : ∀ x ∈ (layK d L k).2, ∃ a ∈ namF L, x.nm = ⟨a.toArray⟩ := fun x hx => by
  unfold layK at hx
  obtain ⟨a, ha, rfl⟩ := List.mem_map.1 hx
  refine ⟨a, List.mem_of_mem_take ha, ?_⟩
  unfold grpOf
  split <;> rfl
set_option maxRecDepth 100000 in
set_option maxHeartbeats 16000000 in
theorem l4Lay_succ (d m : Nat) (hd : d ≤ 2) (hm : m = d + 1) (IH : ∀ (A : Option Addr) (c : Nat) (L : List TF) (w : World), RdF w.heap.size w A L → L.length ≤ 60 → smallF 1048576 L → Calls Tryz.prog 68 #[.slice A L.length c, .int .i64 d] w (LayS d L w))
    (A : Option Addr) (c : Nat) (L : List TF) (w : World) (hL : RdF w.heap.size w A L) (hn : L.length ≤ 60) (ht : smallF 1048576 L) :
    Calls Tryz.prog 68 #[.slice A L.length c, .int .i64 m] w (LayS m L w) := by
  obtain ⟨i0, hi, hz0, hz1, hz2⟩ := info_parts infoSt
  obtain ⟨j0, hj, hy0, hy1, hy2⟩ := info_parts infoOb
  have HT : Hid (smallF 1048576 L) := ht
  have HL : Hid (RdF w.heap.size w A L) := hL
  have HIH : Hid (∀ (A : Option Addr) (c : Nat) (L : List TF) (w : World), RdF w.heap.size w A L → L.length ≤ 60 → smallF 1048576 L → Calls Tryz.prog 68 #[.slice A L.length c, .int .i64 d] w (LayS d L w)) := IH
  have HM : Hid (m = d + 1) := hm
  have hm1 : (m : Int) - 1 = (d : Int) := by omega
  have hm0 : (0 : Int) < (m : Int) := by omega
  obtain ⟨N, hN⟩ : ∃ N, N = namF L := ⟨_, rfl⟩
  have hNn : N.length ≤ 60 := by rw [hN]; exact Nat.le_trans (namF_len L) hn
  have HN : Hid (N = namF L) := hN
  have hsm : ∀ (k : Nat) (h : k < N.length), (N[k]).length ≤ 1048576 := fun k h => nam_small L _ ht _ (by rw [← hN]; exact List.getElem_mem h)
  have HSM : Hid (∀ (k : Nat) (h : k < N.length), (N[k]).length ≤ 1048576) := hsm
  have BB : Below w.heap.size w ((w.alloc (.cells #[] 9)).alloc (.cells #[] 90)) := ((Below.refl _ _).alloc (Nat.le_refl _) _).alloc (by simp) _
  have oo : ((w.alloc (.cells #[] 9)).alloc (.cells #[] 90)).ownsRow w.heap.size 9 1 (.slice (some ⟨w.heap.size, 0, none⟩) 0 0) 0 [] := (World.ownsRow_lit w #[] 0 (Nat.le_refl _) (by unfold maxLen; omega) rfl).alloc _
  have oe : ((w.alloc (.cells #[] 9)).alloc (.cells #[] 90)).ownsRow w.heap.size 90 3 (.slice (some ⟨w.heap.size + 1, 0, none⟩) 0 0) 0 [] := by
    have h := World.ownsRow_lit (base := w.heap.size) (e := 90) (size := 3) (w.alloc (.cells #[] 9)) #[] 0 (by simp) (by unfold maxLen; omega) rfl
    simpa using h
  clear hL ht IH hm hN hsm
  go_enter Tryz.func68, Tryz.ntmps68
  go_wp2_with (go_at_call 103; refine (l4Names_any A c L _ (HL.out.up BB) (by omega) HT.out).mono ?_; rw [← HN.out]; rintro e w2 ⟨⟨vn, rfl, on⟩, hb⟩)
  have hoff : ∀ b o, (∃ n c, vn = .slice (some ⟨b, o, none⟩) n c) → w.heap.size + 2 ≤ b ∧ b < w2.heap.size := fun b o ⟨n, c, e⟩ => by
    subst e
    have := on.lt b (by simp [Value.ownBlock])
    simpa using this
  obtain ⟨AN, cN, rfl, NN⟩ := rdT_of_own on
  have HAN : Hid (∀ b o, AN = some ⟨b, o, none⟩ → b < w2.heap.size) := (show ∀ b o, AN = some ⟨b, o, none⟩ → b < w2.heap.size from fun b o e => (hoff b o ⟨_, _, by rw [e]⟩).2)
  have F1 : Hid (offA AN (.slice (some ⟨w.heap.size, 0, none⟩) 0 0)) := (show offA _ _ from fun b o e e9 => by have := (hoff b o ⟨_, _, by rw [e]⟩).1; simp [Value.ownBlock] at e9; omega)
  have F2 : Hid (offA AN (.slice (some ⟨w.heap.size + 1, 0, none⟩) 0 0)) := (show offA _ _ from fun b o e e9 => by have := (hoff b o ⟨_, _, by rw [e]⟩).1; simp [Value.ownBlock] at e9; omega)
  replace oo := ownsUnder oo hb (Nat.le_refl _)
  replace oe := ownsUnder oe hb (Nat.le_refl _)
  replace BB := BB.trans (hb.mono BB.size)
  clear hoff on hb
  go_wp2
  go_loopw [6, 7, 9] (fun ov ev iv wr => ∃ (k : Nat) (T : List ByteArray) (E : List OE), k ≤ N.length ∧ iv = .int .i64 k ∧ Hid (layK d L k = (T, E)) ∧ T.length ≤ 13400000 ∧ E.length ≤ 60 ∧ wr.ownsRow w.heap.size 9 1 ov T.length (strs (sL T)) ∧ wr.ownsRow w.heap.size 90 3 ev E.length (cellsO E) ∧ Hid (RdT wr.heap.size wr AN N) ∧ Hid (offA AN ov) ∧ Hid (offA AN ev) ∧ Hid (∀ b o, AN = some ⟨b, o, none⟩ → b < wr.heap.size) ∧ Below w.heap.size w wr) (fun _ _ iv _ => N.length - (intOf iv).toNat)
  case atStart => exact ⟨0, [], [], Nat.zero_le _, rfl, (show layK d L 0 = ([], []) by simp [layK]), by simp, by simp, oo, oe, NN, F1, F2, HAN, BB⟩
  case round =>
    clear oo oe NN F1 F2 HAN BB
    obtain ⟨k, T, E, hk, rfl, HK, hT, hE, oo, oe, NN, F1, F2, HAN, BB⟩ := hrel
    have hsz := BB.size
    by_cases hlt : k < N.length
    · obtain ⟨g, hAN, hg, k1⟩ := NN.out k hlt
      subst hAN
      have hnl := HSM.out k hlt
      obtain ⟨nm, hnm⟩ : ∃ nm, ByteArray.mk (N[k]).toArray = nm := ⟨_, rfl⟩
      have HNM : Hid (ByteArray.mk (N[k]).toArray = nm) := hnm
      rw [hnm] at k1
      obtain ⟨P, hP⟩ : ∃ P, P = partF L N[k] := ⟨_, rfl⟩
      have hPn : P.length ≤ 60 := by rw [hP]; exact Nat.le_trans (partF_len L _) hn
      have HPS : Hid (smallF 1048576 P) := (show smallF _ _ by rw [hP]; exact part_small L _ _ HT.out)
      have hlt2 : k < (namF L).length := by rw [← HN.out]; exact hlt
      have e9 : (namF L)[k] = N[k] := by simp only [HN.out]
      have HLE : Hid (∀ x, leafP P = some x → layK d L (k + 1) = (T ++ [leafB x.by_], E ++ [⟨nm, false, idOfN (leafB x.by_).data.toList⟩])) := (show ∀ x, leafP P = some x → _ from fun x hx => by
        have := layK_leaf d L k hlt2 x (by rw [e9, ← hP]; exact hx)
        rw [this, HK.out, e9, hnm])
      have HDE : Hid (leafP P = none → layK d L (k + 1) = (T ++ layT d P, E ++ [⟨nm, true, layI d P⟩])) := (show leafP P = none → _ from fun hx => by
        have := layK_deep d L k hlt2 (by rw [e9, ← hP]; exact hx)
        rw [this, HK.out, e9, hnm, hP])
      have HLK : Hid (∀ k, (layK d L k).1.length ≤ 13400000 ∧ (layK d L k).2.length ≤ 60) := (show ∀ k, (layK d L k).1.length ≤ 13400000 ∧ (layK d L k).2.length ≤ 60 from fun k => by
        have h1 := layK_len 60 d L k hn
        have h2 := layN_3 (d + 1) (by omega)
        omega)
      have HCP : Hid (∀ w', Below w.heap.size w w' → Calls Tryz.prog 104 #[.slice A L.length c, .string nm] w' fun e w'' => (∃ v, e = .returned v ∧ w''.ownsRow w'.heap.size 98 2 v P.length (cellsF P)) ∧ Below w'.heap.size w' w'') := (show ∀ w', Below w.heap.size w w' → _ from fun w' hb' => by
        rw [← hnm, hP]
        exact l4Part_any A c L N[k] w' ((HL.out.below hb' (Nat.le_refl _)).mono hb'.size) (by omega) HT.out)
      clear hnm hP e9 hlt2 HK
      go_wp2_with (go_at_call 104; refine (HCP.out _ BB).mono ?_; rintro e w3 ⟨⟨vp, rfl, op⟩, hb⟩; obtain ⟨AP, cP, rfl, RP⟩ := rdF_of_own op; replace oo := ownsUnder oo hb (Nat.le_refl _); replace oe := ownsUnder oe hb (Nat.le_refl _); have N3 : Hid (RdT w3.heap.size w3 (some ⟨g, 0, none⟩) N) := NN.out.up hb; have hg3 : g < w3.heap.size := Nat.lt_of_lt_of_le hg hb.size; replace BB := BB.trans (hb.mono BB.size); replace hsz := BB.size; clear hb op NN k1; rcases leaf_cases P with ⟨t, hPe, hlp⟩ | ⟨q, t, hPe, hq, hlp⟩ | ⟨hPl, hlp⟩)
      · have hp0 : 0 < P.length := by rw [hPe]; simp
        have hp1 : ((P.length : Int) == 1) = true := by rw [hPe]; rfl
        obtain ⟨bp, op, rfl, hbp, c1, c2⟩ := RP 0 hp0
        have hts : t.size ≤ 1048576 := (HPS.out ⟨⟨#[]⟩, t⟩ (by rw [hPe]; exact List.mem_cons_self ..)).2
        have hx0 : P[0] = ⟨⟨#[]⟩, t⟩ := by simp only [hPe, List.getElem_cons_zero]
        rw [hx0] at c1 c2
        simp only [Nat.zero_mul, Nat.add_zero] at c1 c2
        have hix := ix1 bp op cP w3
        clear hPe hx0
        have hst := HLE.out _ hlp
        have hbo := HLK.out (k + 1)
        rw [hst] at hbo
        simp only [List.length_append, List.length_cons, List.length_nil] at hbo
        obtain ⟨lf, hlf⟩ : ∃ lf, leafB t = lf := ⟨_, rfl⟩
        have hlz : lf.size ≤ 4194304 := by
          rw [← hlf]
          unfold leafB
          split
          · rw [ByteArray.size_append]; show 1 + t.size ≤ _; omega
          · exact Nat.zero_le _
        simp only [hlf] at hst
        have HLF : Hid (leafB t = lf) := hlf
        obtain ⟨id, hid⟩ : ∃ id : Nat, idOfN lf.data.toList = id := ⟨_, rfl⟩
        have HID : Hid (idOfN lf.data.toList = id) := hid
        rw [hid] at hst
        have HST : Hid (layK d L (k + 1) = (T ++ [lf], E ++ [⟨nm, false, id⟩])) := hst
        obtain ⟨hb1, hb2⟩ := hbo
        have hg9 := hg3
        clear hlf hid hst hlp HLE HDE HPS
        go_wp2
        rw [ix1]
        go_wp2_with (first
          | (go_at_call 79; refine (leaf_spec t _ (by unfold maxLen; omega)).mono ?_; rw [HLF.out]; rintro e w4 ⟨rfl, hw4⟩; subst hw4)
          | (at_builtin; refine wpL_app rfl _ _ 51 rfl w.heap.size 9 i0 (.string ByteArray.empty) 1 16 Tryz.underlying51 hi hz0 hz1 hz2 rfl (by decide) _ _ _ rfl (oo.alloc _) ⟨w3.heap.size, 0, none⟩ 1 1 [.string lf] rfl rfl (cells_new w3 #[.string lf] 9) (by simp [Value.oneCell']) (by unfold maxLen; omega) (by omega) (by simp; omega) ?_; intro v5 w5 O5 g5 b5))
        have hsz5 := g5.size
        simp only [World.size_alloc] at hsz5
        have B5 : Below w.heap.size w w5 := growOwn (BB.alloc hsz _) (by simp; omega) (oo.alloc _) g5 (Nat.le_refl _)
        have hs5 := B5.size
        have E5 := (oe.alloc (.cells #[.string lf] 9)).kept g5 (apartO (oe.alloc (.cells #[.string lf] 9)) (oo.alloc (.cells #[.string lf] 9)) (by decide))
        have N5 : Hid (RdT w3.heap.size w5 (some ⟨g, 0, none⟩) N) := (N3.out.below ((Below.refl w3.heap.size w3).alloc (Nat.le_refl _) (.cells #[.string lf] 9)) (Nat.le_refl _)).row g5 (by simp) (fun b o e => F1.out b o e)
        have G1 : Hid (offA (some ⟨g, 0, none⟩) v5) := offA_app (w := w3.alloc (.cells #[.string lf] 9)) (B := 0) F1.out (fun b o e => by cases e; simp; omega) b5
        have k5 := cellT N5.out hlt HNM.out
        have K5 : Hid (w5.cell? ⟨g, k, none⟩ = some (.string nm)) := k5
        have hg5 : g < w5.heap.size := by omega
        have OF : Hid (w5.ownsRow w.heap.size 9 1 v5 (T.length + 1) (strs (sL T) ++ [.string lf])) := O5
        clear O5 b5 oe oo N3
        go_region_held_law (fun w' => w'.cell? ⟨g, k, none⟩ = some (.string nm)) (first | exact k5 | exact SS7 | exact SS | exact (World.cell?_alloc_lt _ _ _ hg6).trans SS | go_keep)
          (first
            | (go_at_call 55; refine (idS_on lf w5 _ (by first | exact Below.refl _ _ | exact (Below.refl _ _).drew) hlz).mono ?_; rw [HID.out]; rintro e w6 ⟨rfl, HB6⟩; have hs6 := HB6.size; have SS : w6.cell? ⟨g, k, none⟩ = some (.string nm) := (HB6.cell (p := ⟨g, k, none⟩) hg5).trans K5.out; have hg6 : g < w6.heap.size := Nat.lt_of_lt_of_le hg5 hs6)
            | (refine stepApp3 _ (by rfl) (by rfl) _ _ 81 (by rfl) w.heap.size 90 j0 (.agg #[.string ByteArray.empty, .bool false, .int .i64 0]) 3 32 Tryz.underlying81 hj hy0 hy1 hy2 rfl (by omega) u7 E.length (cellsO E) (by rfl) (by first | exact ownsUnder E5 (HB6.alloc hs6 _) (Nat.le_refl _) | exact ownsUnder E5 ((HB6.alloc hs6 _).drew) (Nat.le_refl _)) ⟨w6.heap.size, 0, none⟩ 1 1 [.string nm, .bool false, .int .i64 (id : Int)] (by rfl) rfl (World.news_of_block (heap_alloc_new w6 _)) (fun u hu => by simp at hu; rcases hu with rfl | rfl | rfl <;> rfl) (by unfold maxLen; omega) (by omega) (by first | exact Nat.le_trans hs5 (Nat.le_trans hs6 (by simp)) | (simp; omega)) ?_; intro v7 w7 O7 g7 b7; have SS7 : w7.cell? ⟨g, k, none⟩ = some (.string nm) := (World.cell?_of_block (a := ⟨g, k, none⟩) (g7.block g (by simp; omega) (fun e9 => F2.out g 0 rfl e9.symm))).trans ((World.cell?_alloc_lt _ _ _ hg6).trans SS)))
        all_goals
          go_wp2
          go_roundw
          case rel =>
            have B7 : Below w.heap.size w w7 := growOwn ((B5.trans (HB6.mono hs5)).alloc (Nat.le_trans hs5 hs6) _) (Nat.le_trans hs5 (Nat.le_trans hs6 (by simp))) (ownsUnder E5 (HB6.alloc hs6 _) (Nat.le_refl _)) g7 (Nat.le_refl _)
            have hs7 := g7.size
            simp only [World.size_alloc] at hs7
            have P7 := (ownsUnder OF.out (HB6.alloc hs6 (.cells #[.string nm, .bool false, .int .i64 (id : Int)] 90)) (Nat.le_refl _)).kept g7 (apartO (ownsUnder OF.out (HB6.alloc hs6 (.cells #[.string nm, .bool false, .int .i64 (id : Int)] 90)) (Nat.le_refl _)) (ownsUnder E5 (HB6.alloc hs6 (.cells #[.string nm, .bool false, .int .i64 (id : Int)] 90)) (Nat.le_refl _)) (by decide))
            have N7 := ((N5.out.below (HB6.alloc hs6 (.cells #[.string nm, .bool false, .int .i64 (id : Int)] 90)) (by omega)).row g7 (by simp; omega) (fun b o e => F2.out b o e)).mono (show w3.heap.size ≤ w7.heap.size by omega)
            refine ⟨k + 1, T ++ [lf], E ++ [⟨nm, false, id⟩], by omega, by go_num, HST, by simp; omega, by simp; omega, ?_, ?_, N7, G1, offA_app (w := w6.alloc (.cells #[.string nm, .bool false, .int .i64 (id : Int)] 90)) (B := 0) F2.out (fun b o e => by cases e; simp; omega) b7, (fun b o e => by cases e; omega), B7⟩
            · rw [sL_app, strs_app, strs_one, List.length_append]
              exact P7
            · rw [cellsO_app1, List.length_append]
              exact O7
          case measure => simp [intOf]; omega
      · have hp0 : 0 < P.length := by rw [hPe]; simp
        have hp1 : ((P.length : Int) == 1) = true := by rw [hPe]; rfl
        have hP1 : P.length = 1 := by rw [hPe]; rfl
        have RP9 := RP
        obtain ⟨bp, op, hAP, hbp, c1, c2⟩ := RP 0 hp0
        have hx0 : P[0] = ⟨q, t⟩ := by simp only [hPe, List.getElem_cons_zero]
        rw [hx0] at c1
        simp only [Nat.zero_mul, Nat.add_zero] at c1
        subst hAP
        clear hPe hx0 c2
        have hst := HDE.out hlp
        have hbo := HLK.out (k + 1)
        rw [hst] at hbo
        simp only [List.length_append, List.length_cons, List.length_nil] at hbo
        obtain ⟨id, hid⟩ : ∃ id : Nat, layI d P = id := ⟨_, rfl⟩
        obtain ⟨U, hU⟩ : ∃ U, layT d P = U := ⟨_, rfl⟩
        have hUp : 0 < U.length := by rw [← hU]; simp [layT]
        rw [hid, hU] at hst
        rw [hU] at hbo
        have HST : Hid (layK d L (k + 1) = (T ++ U, E ++ [⟨nm, true, id⟩])) := hst
        obtain ⟨hb1, hb2⟩ := hbo
        have HRP : Hid (RdF w3.heap.size w3 (some ⟨bp, op, none⟩) P) := RP9
        have HCL : Hid (∀ w', RdF w'.heap.size w' (some ⟨bp, op, none⟩) P → Calls Tryz.prog 68 #[.slice (some ⟨bp, op, none⟩) 1 cP, .int .i64 d] w' fun e w'' => (∃ u, e = .returned (.tuple #[u, .int .i64 id]) ∧ w''.ownsRow w'.heap.size 9 1 u U.length (strs (sL U))) ∧ Below w'.heap.size w' w'') := (show ∀ w', _ → _ from fun w' h => by have q9 := HIH.out (some ⟨bp, op, none⟩) cP P w' h hPn HPS.out; rw [hP1] at q9; rw [← hid, ← hU]; exact q9)
        clear hid hU hst hlp HLE HDE RP RP9 hP1
        go_wp2
        rw [ix1]
        go_wp2_with (first
          | (go_at_call 68; refine (HCL.out _ HRP.out).mono ?_; rintro e w4 ⟨⟨u, rfl, ou⟩, hb⟩; obtain ⟨gu, cu, rfl⟩ : ∃ gu cu, u = .slice (some ⟨gu, 0, none⟩) U.length cu := (by rcases ou.2 with ⟨_, h0⟩ | ⟨gu, cu, cur, rfl, _⟩; (exact absurd h0 (by omega)); exact ⟨_, _, rfl⟩); replace oo := ownsUnder oo hb (Nat.le_refl _); replace oe := ownsUnder oe hb (Nat.le_refl _); have N4 : Hid (RdT w4.heap.size w4 (some ⟨g, 0, none⟩) N) := N3.out.up hb; have hg4 : g < w4.heap.size := Nat.lt_of_lt_of_le hg3 hb.size; replace BB := BB.trans (hb.mono BB.size); replace hsz := BB.size; clear hb)
          | (at_builtin; refine wpL_app rfl _ _ 51 rfl w.heap.size 9 i0 (.string ByteArray.empty) 1 16 Tryz.underlying51 hi hz0 hz1 hz2 rfl (by decide) u6 T.length (strs (sL T)) rfl oo ⟨gu, 0, none⟩ U.length cu (strs (sL U)) rfl (by rw [strs_length, sL_len, Nat.mul_one]) (newsO (w' := w4) ou) (strs_cell U) (by unfold maxLen; omega) (by omega) (by omega) ?_; intro v5 w5 O5 g5 b5; have B5 : Below w.heap.size w w5 := growOwn BB (by omega) oo g5 (Nat.le_refl _); have hs5 := B5.size; have E5 := oe.kept g5 (apartO oe oo (by decide)); have N5 : Hid (RdT w4.heap.size w5 (some ⟨g, 0, none⟩) N) := N4.out.row g5 (Nat.le_refl _) (fun b o e => F1.out b o e); have G1 : Hid (offA (some ⟨g, 0, none⟩) v5) := offA_app (w := w4) (B := 0) F1.out (fun b o e => by cases e; omega) b5; have k5 := cellT N5.out hlt HNM.out; have hs45 := g5.size; have OF : Hid (w5.ownsRow w.heap.size 9 1 v5 (T.length + U.length) (strs (sL T) ++ strs (sL U))) := O5; clear O5 b5 oe oo N4 ou g5)
          | (at_builtin; refine wpL_app rfl _ _ 81 rfl w.heap.size 90 j0 (.agg #[.string ByteArray.empty, .bool false, .int .i64 0]) 3 32 Tryz.underlying81 hj hy0 hy1 hy2 rfl (by decide) u7 E.length (cellsO E) rfl (E5.alloc _) ⟨w5.heap.size, 0, none⟩ 1 1 [.string nm, .bool true, .int .i64 (id : Int)] rfl rfl (cells_new w5 #[.string nm, .bool true, .int .i64 (id : Int)] 90) (by simp [Value.oneCell']) (by unfold maxLen; omega) (by omega) (by simp; omega) ?_; intro v7 w7 O7 g7 b7))
        go_roundw
        case rel =>
          have B7 : Below w.heap.size w w7 := growOwn (B5.alloc hs5 _) (by simp; omega) (E5.alloc _) g7 (Nat.le_refl _)
          have hs7 := g7.size
          simp only [World.size_alloc] at hs7
          have P7 := (OF.out.alloc (.cells #[.string nm, .bool true, .int .i64 (id : Int)] 90)).kept g7 (apartO (OF.out.alloc (.cells #[.string nm, .bool true, .int .i64 (id : Int)] 90)) (E5.alloc (.cells #[.string nm, .bool true, .int .i64 (id : Int)] 90)) (by decide))
          have N7 := ((N5.out.below ((Below.refl w5.heap.size w5).alloc (Nat.le_refl _) (.cells #[.string nm, .bool true, .int .i64 (id : Int)] 90)) (by omega)).row g7 (by simp; omega) (fun b o e => F2.out b o e)).mono (show w4.heap.size ≤ w7.heap.size by omega)
          refine ⟨k + 1, T ++ U, E ++ [⟨nm, true, id⟩], by omega, by go_num, HST, by simp; omega, by simp; omega, ?_, ?_, N7, G1, offA_app (w := w5.alloc (.cells #[.string nm, .bool true, .int .i64 (id : Int)] 90)) (B := 0) F2.out (fun b o e => by cases e; simp; omega) b7, (fun b o e => by cases e; omega), B7⟩
          · rw [sL_app, strs_app, List.length_append]
            exact P7
          · rw [cellsO_app1, List.length_append]
            exact O7
        case measure => simp [intOf]; omega
      · have hp1 : ((P.length : Int) == 1) = false := by
          rw [beq_eq_false_iff_ne]
          omega
        have RP9 := RP
        clear hPl
        have hst := HDE.out hlp
        have hbo := HLK.out (k + 1)
        rw [hst] at hbo
        simp only [List.length_append, List.length_cons, List.length_nil] at hbo
        obtain ⟨id, hid⟩ : ∃ id : Nat, layI d P = id := ⟨_, rfl⟩
        obtain ⟨U, hU⟩ : ∃ U, layT d P = U := ⟨_, rfl⟩
        have hUp : 0 < U.length := by rw [← hU]; simp [layT]
        rw [hid, hU] at hst
        rw [hU] at hbo
        have HST : Hid (layK d L (k + 1) = (T ++ U, E ++ [⟨nm, true, id⟩])) := hst
        obtain ⟨hb1, hb2⟩ := hbo
        have HRP : Hid (RdF w3.heap.size w3 AP P) := RP9
        have HCL : Hid (∀ w', RdF w'.heap.size w' AP P → Calls Tryz.prog 68 #[.slice AP P.length cP, .int .i64 d] w' fun e w'' => (∃ u, e = .returned (.tuple #[u, .int .i64 id]) ∧ w''.ownsRow w'.heap.size 9 1 u U.length (strs (sL U))) ∧ Below w'.heap.size w' w'') := (show ∀ w', _ → _ from fun w' h => by rw [← hid, ← hU]; exact HIH.out AP cP P w' h hPn HPS.out)
        clear hid hU hst hlp HLE HDE RP RP9
        go_wp2_with (first
          | (go_at_call 68; refine (HCL.out _ HRP.out).mono ?_; rintro e w4 ⟨⟨u, rfl, ou⟩, hb⟩; obtain ⟨gu, cu, rfl⟩ : ∃ gu cu, u = .slice (some ⟨gu, 0, none⟩) U.length cu := (by rcases ou.2 with ⟨_, h0⟩ | ⟨gu, cu, cur, rfl, _⟩; (exact absurd h0 (by omega)); exact ⟨_, _, rfl⟩); replace oo := ownsUnder oo hb (Nat.le_refl _); replace oe := ownsUnder oe hb (Nat.le_refl _); have N4 : Hid (RdT w4.heap.size w4 (some ⟨g, 0, none⟩) N) := N3.out.up hb; have hg4 : g < w4.heap.size := Nat.lt_of_lt_of_le hg3 hb.size; replace BB := BB.trans (hb.mono BB.size); replace hsz := BB.size; clear hb)
          | (at_builtin; refine wpL_app rfl _ _ 51 rfl w.heap.size 9 i0 (.string ByteArray.empty) 1 16 Tryz.underlying51 hi hz0 hz1 hz2 rfl (by decide) u6 T.length (strs (sL T)) rfl oo ⟨gu, 0, none⟩ U.length cu (strs (sL U)) rfl (by rw [strs_length, sL_len, Nat.mul_one]) (newsO (w' := w4) ou) (strs_cell U) (by unfold maxLen; omega) (by omega) (by omega) ?_; intro v5 w5 O5 g5 b5; have B5 : Below w.heap.size w w5 := growOwn BB (by omega) oo g5 (Nat.le_refl _); have hs5 := B5.size; have E5 := oe.kept g5 (apartO oe oo (by decide)); have N5 : Hid (RdT w4.heap.size w5 (some ⟨g, 0, none⟩) N) := N4.out.row g5 (Nat.le_refl _) (fun b o e => F1.out b o e); have G1 : Hid (offA (some ⟨g, 0, none⟩) v5) := offA_app (w := w4) (B := 0) F1.out (fun b o e => by cases e; omega) b5; have k5 := cellT N5.out hlt HNM.out; have hs45 := g5.size; have OF : Hid (w5.ownsRow w.heap.size 9 1 v5 (T.length + U.length) (strs (sL T) ++ strs (sL U))) := O5; clear O5 b5 oe oo N4 ou g5)
          | (at_builtin; refine wpL_app rfl _ _ 81 rfl w.heap.size 90 j0 (.agg #[.string ByteArray.empty, .bool false, .int .i64 0]) 3 32 Tryz.underlying81 hj hy0 hy1 hy2 rfl (by decide) u7 E.length (cellsO E) rfl (E5.alloc _) ⟨w5.heap.size, 0, none⟩ 1 1 [.string nm, .bool true, .int .i64 (id : Int)] rfl rfl (cells_new w5 #[.string nm, .bool true, .int .i64 (id : Int)] 90) (by simp [Value.oneCell']) (by unfold maxLen; omega) (by omega) (by simp; omega) ?_; intro v7 w7 O7 g7 b7))
        go_roundw
        case rel =>
          have B7 : Below w.heap.size w w7 := growOwn (B5.alloc hs5 _) (by simp; omega) (E5.alloc _) g7 (Nat.le_refl _)
          have hs7 := g7.size
          simp only [World.size_alloc] at hs7
          have P7 := (OF.out.alloc (.cells #[.string nm, .bool true, .int .i64 (id : Int)] 90)).kept g7 (apartO (OF.out.alloc (.cells #[.string nm, .bool true, .int .i64 (id : Int)] 90)) (E5.alloc (.cells #[.string nm, .bool true, .int .i64 (id : Int)] 90)) (by decide))
          have N7 := ((N5.out.below ((Below.refl w5.heap.size w5).alloc (Nat.le_refl _) (.cells #[.string nm, .bool true, .int .i64 (id : Int)] 90)) (by omega)).row g7 (by simp; omega) (fun b o e => F2.out b o e)).mono (show w4.heap.size ≤ w7.heap.size by omega)
          refine ⟨k + 1, T ++ U, E ++ [⟨nm, true, id⟩], by omega, by go_num, HST, by simp; omega, by simp; omega, ?_, ?_, N7, G1, offA_app (w := w5.alloc (.cells #[.string nm, .bool true, .int .i64 (id : Int)] 90)) (B := 0) F2.out (fun b o e => by cases e; simp; omega) b7, (fun b o e => by cases e; omega), B7⟩
          · rw [sL_app, strs_app, List.length_append]
            exact P7
          · rw [cellsO_app1, List.length_append]
            exact O7
        case measure => simp [intOf]; omega
    · obtain rfl : k = N.length := by omega
      have hlay : layD m L = (T, E) := by rw [HM.out, ← layK_all, ← HN.out]; exact HK.out
      have HLY : Hid (layD m L = (T, E)) := hlay
      have HES : Hid (∀ j (h : j < E.length), (E[j]).nm.size ≤ 1048576) := (show ∀ j (h : j < E.length), (E[j]).nm.size ≤ 1048576 from fun j h => by
        have hk9 := HK.out
        obtain ⟨a, ha, e⟩ := layK_nm d L N.length E[j] (by rw [hk9]; exact List.getElem_mem h)
        rw [e, size_mk]
        exact nam_small L _ HT.out a ha)
      obtain ⟨AE, cE, rfl, RE⟩ := rdO_of_own oe
      clear HK NN F1 F2 HAN
      obtain ⟨sh, hsh⟩ : ∃ sh, ByteArray.mk (sheetT (E.map enO)).toArray = sh := ⟨_, rfl⟩
      have HSH : Hid (ByteArray.mk (sheetT (E.map enO)).toArray = sh) := hsh
      have hss : sh.size ≤ 4194304 := by rw [← hsh]; exact Nat.le_trans (sheet_small E) (by omega)
      clear hlay hsh oe
      go_wp2_with (first
        | (go_at_call 81; refine (sheet_spec AE cE E _ RE (by omega) HES.out).mono ?_; rw [HSH.out]; rintro e w3 ⟨rfl, hb⟩; replace oo := ownsUnder oo hb (Nat.le_refl _); replace BB := BB.trans (hb.mono BB.size); replace hsz := BB.size; clear hb RE)
        | (at_builtin; refine wpL_app rfl _ _ 51 rfl w.heap.size 9 i0 (.string ByteArray.empty) 1 16 Tryz.underlying51 hi hz0 hz1 hz2 rfl (by decide) u6 T.length (strs (sL T)) rfl (oo.alloc _) ⟨w3.heap.size, 0, none⟩ 1 1 [.string sh] rfl rfl (cells_new w3 #[.string sh] 9) (by simp [Value.oneCell']) (by unfold maxLen; omega) (by omega) (by simp; omega) ?_; intro v5 w5 O5 g5 b5)
        | (go_at_call 55; refine (idOf_spec sh _ hss).mono ?_; rintro e w6 ⟨rfl, hw6⟩; subst hw6))
      go_ret2
      have hl := HLY.out
      have e1 : layT m L = T ++ [sh] := by unfold layT; rw [hl]; show T ++ [sheetOf E] = _; rw [show sheetOf E = sh from HSH.out]
      have e2 : layI m L = idOfN sh.data.toList := by unfold layI; rw [hl]; show idOfN (sheetOf E).data.toList = _; rw [show sheetOf E = sh from HSH.out]
      unfold LayS
      rw [e1, e2]
      refine ⟨⟨v5, rfl, ?_⟩, growOwn (BB.alloc hsz _) (by simp; omega) (oo.alloc _) g5 (Nat.le_refl _)⟩
      rw [sL_app, strs_app, strs_one, List.length_append]
      exact O5
set_option maxRecDepth 100000 in
set_option maxHeartbeats 8000000 in
theorem l4Lay_zero (m : Nat) (hm : m = 0) (A : Option Addr) (c : Nat) (L : List TF) (w : World) (hL : RdF w.heap.size w A L) (hn : L.length ≤ 60) (ht : smallF 1048576 L) :
    Calls Tryz.prog 68 #[.slice A L.length c, .int .i64 m] w (LayS m L w) := by
  obtain ⟨i0, hi, hz0, hz1, hz2⟩ := info_parts infoSt
  have HT : Hid (smallF 1048576 L) := ht
  have HL : Hid (RdF w.heap.size w A L) := hL
  have HM : Hid (m = 0) := hm
  have hm0 : ¬ (0 : Int) < (m : Int) := by omega
  obtain ⟨N, hN⟩ : ∃ N, N = namF L := ⟨_, rfl⟩
  have hNn : N.length ≤ 60 := by rw [hN]; exact Nat.le_trans (namF_len L) hn
  have HN : Hid (N = namF L) := hN
  have BB : Below w.heap.size w ((w.alloc (.cells #[] 9)).alloc (.cells #[] 90)) := ((Below.refl _ _).alloc (Nat.le_refl _) _).alloc (by simp) _
  have oo : ((w.alloc (.cells #[] 9)).alloc (.cells #[] 90)).ownsRow w.heap.size 9 1 (.slice (some ⟨w.heap.size, 0, none⟩) 0 0) 0 [] := (World.ownsRow_lit w #[] 0 (Nat.le_refl _) (by unfold maxLen; omega) rfl).alloc _
  have oe : ((w.alloc (.cells #[] 9)).alloc (.cells #[] 90)).ownsRow w.heap.size 90 3 (.slice (some ⟨w.heap.size + 1, 0, none⟩) 0 0) 0 [] := by
    have h := World.ownsRow_lit (base := w.heap.size) (e := 90) (size := 3) (w.alloc (.cells #[] 9)) #[] 0 (by simp) (by unfold maxLen; omega) rfl
    simpa using h
  clear hL ht hm hN
  go_enter Tryz.func68, Tryz.ntmps68
  go_wp2_with (go_at_call 103; refine (l4Names_any A c L _ (HL.out.up BB) (by omega) HT.out).mono ?_; rw [← HN.out]; rintro e w2 ⟨⟨vn, rfl, on⟩, hb⟩)
  obtain ⟨AN, cN, rfl, _⟩ := rdT_of_own on
  replace oo := ownsUnder oo hb (Nat.le_refl _)
  replace oe := ownsUnder oe hb (Nat.le_refl _)
  replace BB := BB.trans (hb.mono BB.size)
  clear on hb
  go_wp2
  go_loopw [6, 7, 9] (fun ov ev iv wr => ∃ (T : List ByteArray) (E : List OE), iv = .int .i64 ((0 : Nat) : Int) ∧ T = [] ∧ E = [] ∧ wr.ownsRow w.heap.size 9 1 ov T.length (strs (sL T)) ∧ wr.ownsRow w.heap.size 90 3 ev E.length (cellsO E) ∧ Below w.heap.size w wr) (fun _ _ _ _ => 0)
  case atStart => exact ⟨[], [], rfl, rfl, rfl, oo, oe, BB⟩
  case round =>
    clear oo oe BB
    obtain ⟨T, E, rfl, hTe, hEe, oo, oe, BB⟩ := hrel
    have hsz := BB.size
    have hT : T.length ≤ 13400000 := by rw [hTe]; simp
    have hE : E.length ≤ 60 := by rw [hEe]; simp
    have hlay : layD m L = (T, E) := by rw [HM.out, hTe, hEe]; rfl
    have HLY : Hid (layD m L = (T, E)) := hlay
    have HES : Hid (∀ j (h : j < E.length), (E[j]).nm.size ≤ 1048576) := (show ∀ j (h : j < E.length), (E[j]).nm.size ≤ 1048576 from fun j h => by subst hEe; simp at h)
    obtain ⟨AE, cE, rfl, RE⟩ := rdO_of_own oe
    clear hTe hEe
    by_cases hlt : 0 < N.length
    · skip
      obtain ⟨sh, hsh⟩ : ∃ sh, ByteArray.mk (sheetT (E.map enO)).toArray = sh := ⟨_, rfl⟩
      have HSH : Hid (ByteArray.mk (sheetT (E.map enO)).toArray = sh) := hsh
      have hss : sh.size ≤ 4194304 := by rw [← hsh]; exact Nat.le_trans (sheet_small E) (by omega)
      clear hlay hsh oe
      go_wp2_with (first
        | (go_at_call 81; refine (sheet_spec AE cE E _ RE (by omega) HES.out).mono ?_; rw [HSH.out]; rintro e w3 ⟨rfl, hb⟩; replace oo := ownsUnder oo hb (Nat.le_refl _); replace BB := BB.trans (hb.mono BB.size); replace hsz := BB.size; clear hb RE)
        | (at_builtin; refine wpL_app rfl _ _ 51 rfl w.heap.size 9 i0 (.string ByteArray.empty) 1 16 Tryz.underlying51 hi hz0 hz1 hz2 rfl (by decide) u6 T.length (strs (sL T)) rfl (oo.alloc _) ⟨w3.heap.size, 0, none⟩ 1 1 [.string sh] rfl rfl (cells_new w3 #[.string sh] 9) (by simp [Value.oneCell']) (by unfold maxLen; omega) (by omega) (by simp; omega) ?_; intro v5 w5 O5 g5 b5)
        | (go_at_call 55; refine (idOf_spec sh _ hss).mono ?_; rintro e w6 ⟨rfl, hw6⟩; subst hw6))
      go_ret2
      have hl := HLY.out
      have e1 : layT m L = T ++ [sh] := by unfold layT; rw [hl]; show T ++ [sheetOf E] = _; rw [show sheetOf E = sh from HSH.out]
      have e2 : layI m L = idOfN sh.data.toList := by unfold layI; rw [hl]; show idOfN (sheetOf E).data.toList = _; rw [show sheetOf E = sh from HSH.out]
      unfold LayS
      rw [e1, e2]
      refine ⟨⟨v5, rfl, ?_⟩, growOwn (BB.alloc hsz _) (by simp; omega) (oo.alloc _) g5 (Nat.le_refl _)⟩
      rw [sL_app, strs_app, strs_one, List.length_append]
      exact O5
    · skip
      obtain ⟨sh, hsh⟩ : ∃ sh, ByteArray.mk (sheetT (E.map enO)).toArray = sh := ⟨_, rfl⟩
      have HSH : Hid (ByteArray.mk (sheetT (E.map enO)).toArray = sh) := hsh
      have hss : sh.size ≤ 4194304 := by rw [← hsh]; exact Nat.le_trans (sheet_small E) (by omega)
      clear hlay hsh oe
      go_wp2_with (first
        | (go_at_call 81; refine (sheet_spec AE cE E _ RE (by omega) HES.out).mono ?_; rw [HSH.out]; rintro e w3 ⟨rfl, hb⟩; replace oo := ownsUnder oo hb (Nat.le_refl _); replace BB := BB.trans (hb.mono BB.size); replace hsz := BB.size; clear hb RE)
        | (at_builtin; refine wpL_app rfl _ _ 51 rfl w.heap.size 9 i0 (.string ByteArray.empty) 1 16 Tryz.underlying51 hi hz0 hz1 hz2 rfl (by decide) u6 T.length (strs (sL T)) rfl (oo.alloc _) ⟨w3.heap.size, 0, none⟩ 1 1 [.string sh] rfl rfl (cells_new w3 #[.string sh] 9) (by simp [Value.oneCell']) (by unfold maxLen; omega) (by omega) (by simp; omega) ?_; intro v5 w5 O5 g5 b5)
        | (go_at_call 55; refine (idOf_spec sh _ hss).mono ?_; rintro e w6 ⟨rfl, hw6⟩; subst hw6))
      go_ret2
      have hl := HLY.out
      have e1 : layT m L = T ++ [sh] := by unfold layT; rw [hl]; show T ++ [sheetOf E] = _; rw [show sheetOf E = sh from HSH.out]
      have e2 : layI m L = idOfN sh.data.toList := by unfold layI; rw [hl]; show idOfN (sheetOf E).data.toList = _; rw [show sheetOf E = sh from HSH.out]
      unfold LayS
      rw [e1, e2]
      refine ⟨⟨v5, rfl, ?_⟩, growOwn (BB.alloc hsz _) (by simp; omega) (oo.alloc _) g5 (Nat.le_refl _)⟩
      rw [sL_app, strs_app, strs_one, List.length_append]
      exact O5
theorem l4Lay_all : ∀ (d : Nat), d ≤ 3 → ∀ (A : Option Addr) (c : Nat) (L : List TF) (w : World), RdF w.heap.size w A L → L.length ≤ 60 → smallF 1048576 L → Calls Tryz.prog 68 #[.slice A L.length c, .int .i64 d] w (LayS d L w) := by
  intro d
  induction d with
  | zero => intro _ A c L w h1 h2 h3; exact l4Lay_zero 0 rfl A c L w h1 h2 h3
  | succ d ih => intro hd A c L w h1 h2 h3; exact l4Lay_succ d (d + 1) (by omega) rfl (ih (by omega)) A c L w h1 h2 h3
end Go.Proofs.YthfffpdkmoclbaaGreatDoor.W
