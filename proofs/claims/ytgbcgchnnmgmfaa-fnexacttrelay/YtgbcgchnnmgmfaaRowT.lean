/-
  The specification's l4Names, l4Part, l4Lay: first names, the files under one, a tree's texts. At most 60 files with texts of at most 1048576 bytes; a depth of at most 3.
  Texts side by side, as a slice reads them. No condition.
-/
import Derived.Test.YtgbcgchnnmgmfaaMathTLay
import Derived.Test.YtgbcgchnnmgmfaaWalkL4
import Derived.Test.YtgbcgchnnmgmfaaWalkPth2
import Derived.Test.YtgbcgchnnmgmfaaWalkIdOf
import Derived.Test.YtgbcgchnnmgmfaaMathApp
import Derived.Test.YtgbcgchnnmgmfaaMathNew
import Derived.Test.YtgbcgchnnmgmfaaWalkPthSpec
import Derived.Below
namespace Go.Proofs.Ytgbcgchnnmgmfaa.W
open Go.RowKit Go.Proofs.Ytgbcgchnnmgmfaa.M
set_option linter.unusedVariables false

/-- texts of at most so many bytes -/
def smallF (m : Nat) (L : List TF) : Prop := ∀ x ∈ L, x.pa.size ≤ m ∧ x.by_.size ≤ m
theorem pa_eqB {p q : ByteArray} (h : p.data.toList = q.data.toList) : p = q := by
  cases p; cases q; exact congrArg _ (Array.toList_inj.1 h)
theorem restS_on (s : ByteArray) (v W : World) (HB : Below v.heap.size v W) (hs : s.size ≤ 4194304) :
    Calls Try.prog 38 #[.string s] W fun e w' => e = .returned (.string ⟨(restL s.data.toList).toArray⟩) ∧ Below v.heap.size v w' :=
  (rest_spec s W hs).mono fun _ _ ⟨h1, h2⟩ => ⟨h1, HB.trans (h2.mono HB.size)⟩
set_option maxHeartbeats 2000000 in
theorem l4Names_any (A : Option Addr) (c : Nat) (L : List TF) (w : World) (hL : RdF w.heap.size w A L) (hn : L.length ≤ 1048576) (ht : smallF 1048576 L) :
    Calls Try.prog 23 #[.slice A L.length c] w fun e w' => (∃ v, e = .returned v ∧ w'.ownsRow w.heap.size 9 1 v (namF L).length (strs (namF L))) ∧ Below w.heap.size w w' := by
  have HL : Hid (RdF w.heap.size w A L) := hL
  have HT : Hid (smallF 1048576 L) := ht
  clear hL ht
  go_enter Try.func23, Try.ntmps23
  go_wp2
  go_loopw [3, 4] (fun v iv wr => ∃ (j : Nat) (M : List (List UInt8)), j ≤ L.length ∧ iv = .int .i64 j ∧ Hid (M = namesB ((L.take j).map fstF)) ∧ M.length ≤ 1048576 ∧ wr.ownsRow w.heap.size 9 1 v M.length (strs M) ∧ Below w.heap.size w wr) (fun _ i _ => L.length - (intOf i).toNat)
  case atStart => exact ⟨0, [], Nat.zero_le _, rfl, rfl, by simp, World.ownsRow_lit w #[] 0 (Nat.le_refl _) (by unfold maxLen; omega) rfl, (Below.refl _ _).alloc (Nat.le_refl _) _⟩
  case round =>
    obtain ⟨j, M, hj, rfl, HM, hM, hown, hb⟩ := hrel
    have hsz := hb.size
    by_cases hlt : j < L.length
    · obtain ⟨b, o, rfl, hbl, c1, c2⟩ := (HL.out.below hb (Nat.le_refl _)) j hlt
      have hs := (HT.out _ (List.getElem_mem hlt)).1
      have HE : Hid (nameB M (fstF L[j]) = namesB ((L.take (j + 1)).map fstF)) := (show _ = _ from by rw [List.take_succ_eq_append_getElem hlt, List.map_append, HM.out, List.map_cons, List.map_nil, namesB_snoc])
      have hlen : (nameB M (fstF L[j])).length ≤ 1048576 := by
        have e := HE.out
        rw [e]
        refine Nat.le_trans (namesB_len _) ?_
        rw [List.length_map, List.length_take]
        omega
      obtain ⟨q, hq⟩ : ∃ q, (L[j]).pa = q := ⟨_, rfl⟩
      have hf : fstF L[j] = firstL q.data.toList := by unfold fstF; rw [hq]
      rw [hf] at HE hlen
      rw [hq] at c1 hs
      clear hf hq HM
      go_wp2_with (first
        | (go_at_call 37; refine (first_spec q _ (by omega)).mono ?_; rintro e w1 ⟨rfl, hb1⟩; replace hown := ownsUnder hown hb1 (Nat.le_refl _); replace hb := hb.trans (hb1.mono hsz); replace hsz := hb.size; clear hb1)
        | (go_at_call 36; refine (l4Name_own _ M (firstL q.data.toList) w.heap.size _ hown hsz (by omega)).mono ?_; rintro e w2 ⟨v', rfl, hown', hb2⟩))
      go_roundw
      case rel => exact ⟨j + 1, _, by omega, by go_num, HE, hlen, hown', hb.trans (hb2.mono hsz)⟩
      case measure => simp [intOf]; omega
    · go_wp2
      go_ret
      obtain rfl : j = L.length := by omega
      have e := HM.out
      rw [List.take_length] at e
      subst e
      exact ⟨⟨_, rfl, hown⟩, hb⟩
theorem cellsF_part (L : List TF) (a : List UInt8) (j : Nat) (h : j < L.length) : partF (L.take (j + 1)) a = partF (L.take j) a ++ (if fstF L[j] = a then [rstF L[j]] else []) := by
  unfold partF
  rw [List.take_succ_eq_append_getElem h, List.filter_append, List.map_append]
  by_cases hx : fstF L[j] = a <;> simp [hx]
set_option maxRecDepth 100000 in
set_option maxHeartbeats 4000000 in
theorem l4Part_any (A : Option Addr) (c : Nat) (L : List TF) (a : List UInt8) (w : World) (hL : RdF w.heap.size w A L) (hn : L.length ≤ 1048576) (ht : smallF 1048576 L) :
    Calls Try.prog 24 #[.slice A L.length c, .string ⟨a.toArray⟩] w fun e w' => (∃ v, e = .returned v ∧ w'.ownsRow w.heap.size 39 2 v (partF L a).length (cellsF (partF L a))) ∧ Below w.heap.size w w' := by
  obtain ⟨i0, hi, hz0, hz1, hz2⟩ := info_parts infoF
  have HL : Hid (RdF w.heap.size w A L) := hL
  have HT : Hid (smallF 1048576 L) := ht
  obtain ⟨s, hs⟩ : ∃ s, ByteArray.mk a.toArray = s := ⟨_, rfl⟩
  have HS : Hid (ByteArray.mk a.toArray = s) := hs
  rw [hs]
  clear hL ht hs
  go_enter Try.func24, Try.ntmps24
  go_wp2
  go_loopw [5, 6] (fun v iv wr => ∃ (j : Nat) (M : List TF) (g cap : Nat), j ≤ L.length ∧ iv = .int .i64 j ∧ v = .slice (some ⟨g, 0, none⟩) M.length cap ∧ Hid (M = partF (L.take j) a) ∧ M.length ≤ j ∧ wr.ownsRow w.heap.size 39 2 (.slice (some ⟨g, 0, none⟩) M.length cap) M.length (cellsF M) ∧ Below w.heap.size w wr) (fun _ i _ => L.length - (intOf i).toNat)
  case atStart => exact ⟨0, [], w.heap.size, 0, Nat.zero_le _, rfl, rfl, rfl, Nat.le_refl _, World.ownsRow_lit w #[] 0 (Nat.le_refl _) (by unfold maxLen; omega) rfl, (Below.refl _ _).alloc (Nat.le_refl _) _⟩
  case round =>
    obtain ⟨j, M, g, cap, hj, rfl, rfl, HM, hM, hown, hb⟩ := hrel
    have hsz := hb.size
    by_cases hlt : j < L.length
    · obtain ⟨b, o, rfl, hbl, c1, c2⟩ := (HL.out.below hb (Nat.le_refl _)) j hlt
      have hsm := HT.out _ (List.getElem_mem hlt)
      have est := cellsF_part L a j hlt
      rw [← HM.out] at est
      obtain ⟨y, hy⟩ : ∃ y, L[j] = y := ⟨_, rfl⟩
      rw [hy] at c1 c2 hsm est
      obtain ⟨q, t⟩ := y
      simp only at c1 c2 hsm
      obtain ⟨s1, s2⟩ := hsm
      obtain ⟨fq, hfq⟩ : ∃ fq, ByteArray.mk (firstL q.data.toList).toArray = fq := ⟨_, rfl⟩
      have HFQ : Hid (ByteArray.mk (firstL q.data.toList).toArray = fq) := hfq
      by_cases hfa : fstF ⟨q, t⟩ = a
      · rw [if_pos hfa] at est
        have hfs : fq = s := by rw [← hfq, ← HS.out, ← hfa]; rfl
        subst hfs
        obtain ⟨rq, hrq⟩ : ∃ rq, ByteArray.mk (restL q.data.toList).toArray = rq := ⟨_, rfl⟩
        have HRQ : Hid (ByteArray.mk (restL q.data.toList).toArray = rq) := hrq
        have HE : Hid (M ++ [⟨rq, t⟩] = partF (L.take (j + 1)) a) := (show _ = _ from by rw [est, ← hrq]; rfl)
        have e1 : (fq.toList == fq.toList) = true := by simp
        clear est hy hfa hfq hrq HM
        have hbw : b < wr.heap.size := by omega
        have C1 : Hid (wr.cell? ⟨b, o + j * 2, none⟩ = some (.string q)) := c1
        have C2 : Hid (wr.cell? ⟨b, o + j * 2 + 1, none⟩ = some (.string t)) := c2
        go_wp2_with (go_at_call 37; refine (first_spec q _ (by omega)).mono ?_; rw [HFQ.out]; rintro e w1 ⟨rfl, hb1⟩; have hs1 := hb1.size; replace c1 := (hb1.cell (p := ⟨b, o + j * 2, none⟩) hbw).trans C1.out; replace c2 := (hb1.cell (p := ⟨b, o + j * 2 + 1, none⟩) hbw).trans C2.out; replace hown := ownsUnder hown hb1 (Nat.le_refl _); replace hb := hb.trans (hb1.mono hsz); replace hsz := hb.size; have hbw1 : b < w1.heap.size := Nat.lt_of_lt_of_le hbw hs1; have D1 : Hid (w1.cell? ⟨b, o + j * 2, none⟩ = some (.string q)) := c1; have D2 : Hid (w1.cell? ⟨b, o + j * 2 + 1, none⟩ = some (.string t)) := c2; clear hb1)
        go_region_held_law (fun w' => w'.cell? ⟨b, o + j * 2, none⟩ = some (.string q) ∧ w'.cell? ⟨b, o + j * 2 + 1, none⟩ = some (.string t)) (first | exact ⟨c1, c2⟩ | exact SS6 | exact SS | exact ⟨(World.cell?_alloc_lt _ _ _ hbw2).trans SS.1, (World.cell?_alloc_lt _ _ _ hbw2).trans SS.2⟩ | go_keep)
          (first
            | (go_at_call 38; refine (restS_on q w1 _ (by first | exact Below.refl _ _ | exact (Below.refl _ _).drew) (by omega)).mono ?_; rw [HRQ.out]; rintro e w2 ⟨rfl, HB2⟩; have hs2 := HB2.size; have SS : w2.cell? ⟨b, o + j * 2, none⟩ = some (.string q) ∧ w2.cell? ⟨b, o + j * 2 + 1, none⟩ = some (.string t) := ⟨(HB2.cell (p := ⟨b, o + j * 2, none⟩) hbw1).trans D1.out, (HB2.cell (p := ⟨b, o + j * 2 + 1, none⟩) hbw1).trans D2.out⟩; have hbw2 : b < w2.heap.size := Nat.lt_of_lt_of_le hbw1 hs2)
            | (refine stepApp2 _ (by rfl) (by rfl) _ _ 27 (by rfl) w.heap.size 39 i0 (.agg #[.string ByteArray.empty, .string ByteArray.empty]) 2 32 Try.underlying27 hi hz0 hz1 hz2 rfl (by omega) (.slice (some ⟨g, 0, none⟩) M.length cap) M.length (cellsF M) (by rfl) (by first | exact ownsUnder hown (HB2.alloc hs2 _) (Nat.le_refl _) | exact ownsUnder hown ((HB2.alloc hs2 _).drew) (Nat.le_refl _)) ⟨w2.heap.size, 0, none⟩ 1 1 [.string rq, .string t] (by rfl) rfl (World.news_of_block (heap_alloc_new w2 _)) (fun u hu => by simp at hu; rcases hu with rfl | rfl <;> rfl) (by simp) (by unfold maxLen; omega) (by omega) (by first | exact Nat.le_trans hsz (Nat.le_trans hs2 (by simp)) | (simp; omega)) ?_; intro g6 cap6 w6 o6 gr6; have HB6 : Below w.heap.size w w6 := (by first | exact growOwn ((hb.trans (HB2.mono hsz)).alloc (Nat.le_trans hsz hs2) _) (Nat.le_trans hsz (Nat.le_trans hs2 (by simp))) (ownsUnder hown (HB2.alloc hs2 _) (Nat.le_refl _)) gr6 (Nat.le_refl _) | exact growOwn (((hb.trans (HB2.mono hsz)).alloc (Nat.le_trans hsz hs2) _).drew) (Nat.le_trans hsz (Nat.le_trans hs2 (by simp))) (ownsUnder hown ((HB2.alloc hs2 _).drew) (Nat.le_refl _)) gr6 (Nat.le_refl _)); have SS6 : w6.cell? ⟨b, o + j * 2, none⟩ = some (.string q) ∧ w6.cell? ⟨b, o + j * 2 + 1, none⟩ = some (.string t) := ⟨(HB6.cell (p := ⟨b, o + j * 2, none⟩) hbl).trans ((hb.cell (p := ⟨b, o + j * 2, none⟩) hbl).symm.trans D1.out), (HB6.cell (p := ⟨b, o + j * 2 + 1, none⟩) hbl).trans ((hb.cell (p := ⟨b, o + j * 2 + 1, none⟩) hbl).symm.trans D2.out)⟩))
        all_goals
          go_wp2
          go_roundw
          case rel =>
            refine ⟨j + 1, M ++ [⟨rq, t⟩], g6, cap6, by omega, by go_num, by rw [List.length_append]; rfl, HE, by simp; omega, ?_, HB6⟩
            rw [cellsF_snoc, List.length_append]
            exact o6
          case measure => simp [intOf]; omega
      · rw [if_neg hfa, List.append_nil] at est
        have hne : fq ≠ s := fun e => hfa (by
          have h1 := congrArg (fun z : ByteArray => z.data.toList) (hfq.trans (e.trans HS.out.symm))
          simpa [fstF] using h1)
        have e1 : (fq.toList == s.toList) = false := by
          rw [Lib.toList_data, Lib.toList_data]
          simpa using fun e => hne (pa_eqB e)
        have HE : Hid (M = partF (L.take (j + 1)) a) := est.symm
        clear est hy hfa hne hfq HM
        go_wp2_with (go_at_call 37; refine (first_spec q _ (by omega)).mono ?_; rw [HFQ.out]; rintro e w1 ⟨rfl, hb1⟩; replace hown := ownsUnder hown hb1 (Nat.le_refl _); replace hb := hb.trans (hb1.mono hsz); replace hsz := hb.size; clear hb1)
        go_roundw
        case rel => exact ⟨j + 1, M, g, cap, by omega, by go_num, rfl, HE, by omega, hown, hb⟩
        case measure => simp [intOf]; omega
    · go_wp2
      go_ret
      obtain rfl : j = L.length := by omega
      have e := HM.out
      rw [List.take_length] at e
      subst e
      exact ⟨⟨_, rfl, hown⟩, hb⟩
end Go.Proofs.Ytgbcgchnnmgmfaa.W
namespace Go.Proofs.Ytgbcgchnnmgmfaa.W
open Go.RowKit Go.Proofs.Ytgbcgchnnmgmfaa.M

/-- the slice at A reads as these texts -/
def RdT (B : Nat) (w : World) (A : Option Addr) (N : List (List UInt8)) : Prop :=
  ∀ j (h : j < N.length), ∃ b, A = some ⟨b, 0, none⟩ ∧ b < B ∧ w.cell? ⟨b, j, none⟩ = some (.string ⟨(N[j]).toArray⟩)
theorem RdT.below {B B' : Nat} {w w' : World} {A : Option Addr} {N : List (List UInt8)} (h : RdT B w A N) (hb : Below B' w w') (hB : B ≤ B') : RdT B w' A N := fun j hj => by
  obtain ⟨b, e, hl, c⟩ := h j hj
  exact ⟨b, e, hl, (hb.cell (p := ⟨b, _, none⟩) (by show b < B'; omega)).trans c⟩
theorem RdT.mono {B B' : Nat} {w : World} {A : Option Addr} {N : List (List UInt8)} (h : RdT B w A N) (hB : B ≤ B') : RdT B' w A N := fun j hj => by
  obtain ⟨b, e, hl, c⟩ := h j hj
  exact ⟨b, e, by omega, c⟩
theorem RdT.up {w w' : World} {A : Option Addr} {N : List (List UInt8)} (h : RdT w.heap.size w A N) (hb : Below w.heap.size w w') : RdT w'.heap.size w' A N := (h.below hb (Nat.le_refl _)).mono hb.size
theorem strs_at (L : List (List UInt8)) (j : Nat) (h : j < L.length) : (strs L)[j]? = some (.string ⟨(L[j]).toArray⟩) := by simp [strs, h]
theorem rdT_of_own {w : World} {base : Nat} {e : TypeId} {v : Value} {N : List (List UInt8)} (h : w.ownsRow base e 1 v N.length (strs N)) : ∃ A c, v = .slice A N.length c ∧ RdT w.heap.size w A N := by
  have hl := h.lt
  rcases h.2 with ⟨rfl, hn⟩ | ⟨g, cap, cur, rfl, _⟩
  · exact ⟨none, 0, by rw [hn], fun j hj => by omega⟩
  · exact ⟨some ⟨g, 0, none⟩, cap, rfl, fun j hj => ⟨g, rfl, (hl g rfl).2, by rw [h.cellAt j (by omega)]; exact strs_at N j hj⟩⟩
theorem hid9 {p : Prop} (h : p) : Hid p := h
end Go.Proofs.Ytgbcgchnnmgmfaa.W
