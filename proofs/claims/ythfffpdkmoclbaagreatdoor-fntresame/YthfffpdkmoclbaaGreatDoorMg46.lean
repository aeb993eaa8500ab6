/-
  A tree's texts, gathered by the program: 'entriesOf' and 'sheet', to a depth of three names. At most 60 files, texts of at most 1048576 bytes.
  The walk of TreOk of the program: it comes to what the specification's does. Texts of at most 1048576 bytes.
  A tree's texts, gathered by the program: impl.TreLay. At most 60 files, texts of at most 1048576 bytes.
-/
import Derived.Test.YthfffpdkmoclbaaGreatDoorMg45
import Derived.Test.YthfffpdkmoclbaaGreatDoorMg17
namespace Go.Proofs.YthfffpdkmoclbaaGreatDoor.W
open Go.RowKit Go.Proofs.YthfffpdkmoclbaaGreatDoor.M
set_option linter.unusedVariables false

theorem SrcF.keep {w w' : World} {lb : Nat} {A : Option Addr} {L : List TF} (h : SrcF w lb A L) (hs : w.heap.size ≤ w'.heap.size) (hk : ∀ k, k < w.heap.size → (k < lb ∨ ∃ cs, w.heap[k]? = some (.cells cs 98)) → w'.heap[k]? = w.heap[k]?) : SrcF w' lb A L := by
  refine ⟨fun j hj => ?_, fun b o e => ?_⟩
  · obtain ⟨b, o, e, hb, c1, c2⟩ := h.1 j hj
    have hq := hk b hb ((h.2 b o e).imp id And.right)
    exact ⟨b, o, e, Nat.lt_of_lt_of_le hb hs, (World.cell?_of_block (a := ⟨b, _, none⟩) hq).trans c1, (World.cell?_of_block (a := ⟨b, _, none⟩) hq).trans c2⟩
  · rcases h.2 b o e with h3 | ⟨h3, cs, h4⟩
    · exact .inl h3
    · refine .inr ⟨h3, cs, (hk b ?_ (.inr ⟨cs, h4⟩)).trans h4⟩
      rcases Nat.lt_or_ge b w.heap.size with h5 | h5
      · exact h5
      · rw [Array.getElem?_eq_none h5] at h4; cases h4
theorem Lay.keep {w w' : World} {lb : Nat} {v : Value} {T : List ByteArray} (h : Lay w lb v T) (hk : ∀ k, k < w.heap.size → (k = lb ∨ ∃ cs, w.heap[k]? = some (.cells cs 9)) → w'.heap[k]? = w.heap[k]?) : Lay w' lb v T := by
  have e := hk lb h.lt (.inl rfl)
  refine ⟨(World.cell?_of_block (a := ⟨lb, 0, none⟩) e).trans h.cell, (World.frozen?_of_block (a := ⟨lb, 0, none⟩) e).trans h.fz, h.row.1, ?_⟩
  rcases h.row.2 with h2 | ⟨g1, c1, cur1, hu, h1, h2, h3⟩
  · exact .inl h2
  · have hlt : g1 < w.heap.size := by
      rcases Nat.lt_or_ge g1 w.heap.size with h5 | h5
      · exact h5
      · rw [Array.getElem?_eq_none h5] at h2; cases h2
    exact .inr ⟨g1, c1, cur1, hu, h1, (hk g1 hlt (.inr ⟨_, h2⟩)).trans h2, h3⟩
/-- a row of entries grows: what else there is stays -/
theorem grown_keep {w w' : World} {b n lb : Nat} {u : Value} {xs : List Value} (h : w.ownsRow b 90 3 u n xs) (hb : lb < b) (g : w.grownBy w' u.ownBlock) (e : TypeId) (he : e ≠ 90) : ∀ k, k < w.heap.size → (k ≤ lb ∨ ∃ cs, w.heap[k]? = some (.cells cs e)) → w'.heap[k]? = w.heap[k]? := fun k hk h1 => g.block k hk fun e9 => by
  obtain ⟨h2, cs, h3⟩ := own_typed h e9.symm
  rcases h1 with h1 | ⟨cs', h4⟩
  · omega
  · rw [h3] at h4
    cases h4
    exact he rfl
theorem SrcF.drop {w : World} {lb b o : Nat} {L : List TF} (h : SrcF w lb (some ⟨b, o, none⟩) L) (k : Nat) : SrcF w lb (some ⟨b, o + k * 2, none⟩) (L.drop k) := by
  refine ⟨fun j hj => ?_, fun b' o' e => ?_⟩
  · have hj' : k + j < L.length := by simp at hj; omega
    obtain ⟨b1, o1, e, hb, c1, c2⟩ := h.1 (k + j) hj'
    obtain ⟨rfl, rfl⟩ : b = b1 ∧ o = o1 := by simpa using e
    have e1 : (L.drop k)[j] = L[k + j] := by simp
    rw [e1]
    refine ⟨b, o + k * 2, rfl, hb, ?_, ?_⟩
    · rw [show o + k * 2 + j * 2 = o + (k + j) * 2 by omega]; exact c1
    · rw [show o + k * 2 + j * 2 + 1 = o + (k + j) * 2 + 1 by omega]; exact c2
  · obtain ⟨rfl, _⟩ : b = b' ∧ o + k * 2 = o' := by simpa using e
    exact h.2 b o rfl
theorem SrcF.none {w : World} {lb : Nat} {A : Option Addr} {L : List TF} (h : SrcF w lb A L) : SrcF w lb A [] := ⟨fun j hj => absurd hj (Nat.not_lt_zero _), h.2⟩
/-- behind an entry's append all else is as it was -/
theorem row_step {w w2 w5 : World} {lb n : Nat} {v v2 u : Value} {T : List ByteArray} {xs : List Value} {A : Option Addr} {L : List TF} {o : Obj} (hl : Lay w2 lb v2 T) (hS : SrcF w2 lb A L) (hf : Fr w w2 lb v v2) (hu : w2.ownsRow w.heap.size 90 3 u n xs) (hlb : lb < w.heap.size) (g : (w2.alloc o).grownBy w5 u.ownBlock) : Lay w5 lb v2 T ∧ SrcF w5 lb A L ∧ Fr w w5 lb v v2 := by
  have hb : Below w2.heap.size w2 (w2.alloc o) := (Below.refl _ w2).alloc (Nat.le_refl _) o
  have hu1 := hu.alloc o
  refine ⟨(hl.below hb).keep fun k hk h => grown_keep hu1 hlb g 9 (by decide) k hk (h.imp Nat.le_of_eq id), (hS.below hb).keep g.size fun k hk h => grown_keep hu1 hlb g 98 (by decide) k hk (h.imp Nat.le_of_lt id), ?_⟩
  have hsz := g.size
  simp only [World.size_alloc] at hsz
  refine ⟨g.os.trans hf.os, g.tape.trans hf.tape, g.output.trans hf.output, Nat.le_trans hf.size (by omega), fun k hk h1 h2 => ?_, hf.own⟩
  have hk2 : k < w2.heap.size := Nat.lt_of_lt_of_le hk hf.size
  refine (g.block k (by simp; omega) (fun e => ?_)).trans ((hb.block k hk2).trans (hf.block k hk h1 h2))
  have := (own_typed hu e.symm).1
  omega
theorem src_of_own {w : World} {lb b : Nat} {v : Value} {P : List TF} (h : w.ownsRow b 98 2 v P.length (cellsF P)) (hb : lb < b) : ∃ A c, v = .slice A P.length c ∧ P.length ≤ c ∧ c ≤ maxLen ∧ SrcF w lb A P := by
  obtain ⟨A, c, e, hr⟩ := rdF_of_own h
  refine ⟨A, c, e, ?_⟩
  rcases h.2 with ⟨e2, h0⟩ | ⟨g, c2, cur, e2, h1, h2, h3, h4, _⟩
  · rw [e] at e2
    injection e2 with e3 e4 e5
    subst e3
    subst e5
    exact ⟨by omega, by unfold maxLen; omega, hr, fun b o e => by cases e⟩
  · rw [e] at e2
    injection e2 with e3 e4 e5
    subst e3
    subst e5
    refine ⟨h3, h4, hr, fun b o e => ?_⟩
    obtain ⟨rfl, _⟩ : g = b ∧ 0 = o := by simpa using e
    exact .inr ⟨by omega, cur, h2⟩
theorem back_drop (a : List UInt8) (L : List TF) : backF a L = L.drop (frontF a L).length := by
  have h := List.takeWhile_append_dropWhile (p := fun x => decide (fstF x = a)) (l := L)
  show L.dropWhile _ = L.drop (L.takeWhile _).length
  conv => rhs; arg 2; rw [← h]
  rw [List.drop_left']
  rfl
def slN : Value → Nat
  | .slice _ n _ => n
  | _ => 0
/-- what is asked of 'sheet' at a depth -/
def SheetOk (d : Nat) : Prop := ∀ (lb : Nat) (A : Option Addr) (c : Nat) (L : List TF) (v : Value) (T : List ByteArray) (w : World), Lay w lb v T → SrcF w lb A L → L.length ≤ c → c ≤ maxLen → L.length ≤ 60 → smallF 1048576 L → Gd d L → T.length + (layT d L).length ≤ 100000000 → (0 < d ∨ 0 < L.length) →
  Calls Tryz.prog 67 #[.pointer (some ⟨lb, 0, none⟩), .slice A L.length c] w fun e w' => e = .returned (.int .i64 (layI d L)) ∧ ∃ v', Lay w' lb v' (T ++ layT d L) ∧ Fr w w' lb v v'
set_option maxRecDepth 100000 in
set_option maxHeartbeats 4000000 in
theorem entriesL_any (d : Nat) (ih : SheetOk d) (lb : Nat) (A : Option Addr) (c : Nat) (L : List TF) (v : Value) (T : List ByteArray) (w : World) (hl : Lay w lb v T) (hS : SrcF w lb A L) (hc : L.length ≤ c) (hcm : c ≤ maxLen) (hn : L.length ≤ 60) (ht : smallF 1048576 L) (hg : Gd (d + 1) L) (hT : T.length + (layT (d + 1) L).length ≤ 100000000) :
    Calls Tryz.prog 101 #[.slice A L.length c, .func (.func 102) #[.pointer (some ⟨lb, 0, none⟩)] #[], .func (.func 67) #[.pointer (some ⟨lb, 0, none⟩)] #[]] w fun e w' => ∃ u v', e = .returned u ∧ w'.ownsRow w.heap.size 90 3 u (layD (d + 1) L).2.length (cellsO (layD (d + 1) L).2) ∧ Lay w' lb v' (T ++ (layD (d + 1) L).1) ∧ Fr w w' lb v v' := by
  obtain ⟨j0, hj, hy0, hy1, hy2⟩ := info_parts infoO
  have hlb := hl.lt
  go_enter Tryz.func101, Tryz.ntmps101
  go_wp2
  go_loopw [0, 7] (fun f u wr => ∃ (A' : Option Addr) (c' : Nat) (R : List TF) (D : List ByteArray) (E : List OE) (v' : Value), f = .slice A' R.length c' ∧ R.length ≤ c' ∧ c' ≤ maxLen ∧ R.length ≤ L.length ∧ Hid (smallF 1048576 R) ∧ Hid (Gd (d + 1) R) ∧ Hid (D ++ (layD (d + 1) R).1 = (layD (d + 1) L).1) ∧ Hid (E ++ (layD (d + 1) R).2 = (layD (d + 1) L).2) ∧ E.length + R.length ≤ 60 ∧ Hid (SrcF wr lb A' R) ∧ wr.ownsRow w.heap.size 90 3 u E.length (cellsO E) ∧ Hid (Lay wr lb v' (T ++ D)) ∧ Hid (Fr w wr lb v v')) (fun f _ _ => slN f)
  case atStart => exact ⟨A, c, L, [], [], v, rfl, hc, hcm, Nat.le_refl _, ht, hg, (show [] ++ _ = _ from rfl), (show [] ++ _ = _ from rfl), by simpa using hn, hS, World.ownsRow_nil _ _ _ _, (show Lay w lb v (T ++ []) from by rw [List.append_nil]; exact hl), Fr.of (Below.refl _ _)⟩
  case round =>
    obtain ⟨A', c', R, D, E, v', rfl, hRc, hcm', hRL, HT, HG, HD, HE, hE, HSR, hu, HL, HF⟩ := hrel
    have hsz := HF.out.size
    rcases R with _ | ⟨x, R⟩
    · go_wp2
      go_ret
      have h1 := HD.out
      have h2 := HE.out
      have e0 : layD (d + 1) ([] : List TF) = ([], []) := rfl
      rw [e0, List.append_nil] at h1 h2
      rw [← h1, ← h2]
      exact ⟨_, v', rfl, hu, HL.out, HF.out⟩
    · obtain ⟨b, o, rfl, hbl, c1, c2⟩ := HSR.out.1 0 (by simp)
      obtain ⟨s1, s2⟩ := HT.out x (List.mem_cons_self ..)
      obtain ⟨q, t⟩ := x
      simp only [List.getElem_cons_zero, Nat.zero_mul, Nat.add_zero] at c1 c2 s1 s2
      obtain ⟨fq, hfq⟩ : ∃ fq, ByteArray.mk (firstL q.data.toList).toArray = fq := ⟨_, rfl⟩
      have HFQ : Hid (ByteArray.mk (firstL q.data.toList).toArray = fq) := hfq
      have h0 : (0 : Int) < ((List.length (⟨q, t⟩ :: R) : Nat) : Int) := by simp
      have hl0 : (List.length (⟨q, t⟩ :: R)) = R.length + 1 := rfl
      have hbf := Gd.ok HG.out ⟨q, t⟩ (List.mem_cons_self ..)
      by_cases hx : q.data.toList = firstL q.data.toList
      · have hqf : q = fq := by rw [← hfq, ← hx]
        have e1 : (q.toList == fq.toList) = true := by rw [hqf]; simp
        have hst := lay_leaf (d := d) HG.out (show (TF.mk q t).pa.data.toList = fstF ⟨q, t⟩ from hx)
        obtain ⟨lf, hlf⟩ : ∃ lf, leafB t = lf := ⟨_, rfl⟩
        obtain ⟨id, hid⟩ : ∃ id : Nat, idOfN lf.data.toList = id := ⟨_, rfl⟩
        have e5 : (⟨(fstF ⟨q, t⟩).toArray⟩ : ByteArray) = fq := hfq
        simp only [hlf, hid, e5] at hst
        have HC : Hid (∀ (w1 : World) (v1 : Value), Lay w1 lb v1 (T ++ D) → Calls Tryz.prog 102 #[.pointer (some ⟨lb, 0, none⟩), .agg #[.string q, .string t]] w1 fun e w' => e = .returned (.int .i64 id) ∧ ∃ v2, Lay w' lb v2 ((T ++ D) ++ [lf]) ∧ Fr w1 w' lb v1 v2) := (show ∀ (w1 : World) (v1 : Value), _ → _ from fun w1 v1 h => by
          have hbo : (T ++ D).length ≤ 100000000 := by
            have := HD.out
            have h6 := congrArg List.length this
            rw [List.length_append] at h6 ⊢
            unfold layT at hT
            rw [List.length_append] at hT
            omega
          have := leafL_any lb v1 (T ++ D) q t w1 h s2 hbo
          rw [hlf, hid] at this
          exact this)
        have HST : Hid (layD (d + 1) (⟨q, t⟩ :: R) = (lf :: (layD (d + 1) R).1, ⟨fq, false, id⟩ :: (layD (d + 1) R).2)) := hst
        clear hfq hlf hid hst e5 hqf hbf
        by_cases hc1 : c' = 1
        · subst hc1
          have hR0 : R = [] := List.length_eq_zero_iff.1 (by rw [List.length_cons] at hRc; omega)
          have HR0 : Hid (R = []) := hR0
          clear hR0
          go_wp2_with (first
            | (go_at_call 123; refine (first_impl q _ (by omega)).mono ?_; rw [HFQ.out]; rintro e w1 ⟨rfl, hb1⟩; have HL1 : Hid (Lay w1 lb v' (T ++ D)) := HL.out.below hb1; have HS1 : Hid (SrcF w1 lb (some ⟨b, o, none⟩) (⟨q, t⟩ :: R)) := HSR.out.below hb1; have HF1 : Hid (Fr w w1 lb v v') := HF.out.trans (Fr.of hb1); replace hu := ownsUnder hu hb1 (Nat.le_refl _); replace c1 := (hb1.cell (p := ⟨b, o, none⟩) hbl).trans c1; replace c2 := (hb1.cell (p := ⟨b, o + 1, none⟩) hbl).trans c2; clear hb1)
            | (go_at_call 102; refine (HC.out w1 v' HL1.out).mono ?_; rintro e w2 ⟨rfl, v2, hl2, hf2⟩; have HL2 : Hid (Lay w2 lb v2 ((T ++ D) ++ [lf])) := hl2; have HF2 : Hid (Fr w w2 lb v v2) := HF1.out.trans hf2; have HS2 : Hid (SrcF w2 lb (some ⟨b, o, none⟩) (⟨q, t⟩ :: R)) := HS1.out.fr HL1.out hf2; have hu2 := own_fr hu hlb (by decide) HL1.out hf2; have hs2 := HF2.out.size; clear hu hl2 hf2)
            | (at_builtin; refine wpL_app rfl _ _ 81 rfl w.heap.size 90 j0 (.agg #[.string ByteArray.empty, .bool false, .int .i64 0]) 3 32 Tryz.underlying81 hj hy0 hy1 hy2 rfl (by decide) u7 E.length (cellsO E) rfl (hu2.alloc _) ⟨w2.heap.size, 0, none⟩ 1 1 [.string fq, .bool false, .int .i64 (id : Int)] rfl rfl (cells_new w2 #[.string fq, .bool false, .int .i64 (id : Int)] 90) (by simp [Value.oneCell']) (by unfold maxLen; omega) (by omega) (by simp; omega) ?_; intro v5 w5 O5 g5 b5))
          have hR0 := HR0.out
          subst hR0
          obtain ⟨hl6, hS6, hf6⟩ := row_step HL2.out HS2.out HF2.out hu2 hlb g5
          have hS7 := hS6.none
          have HTL : smallF 1048576 ([] : List TF) := fun y hy => absurd hy (by simp)
          have HGL : Gd (d + 1) ([] : List TF) := HG.out.sub (List.sublist_cons_self _ _)
          have hD2 := HD.out
          have hE2 := HE.out
          rw [HST.out] at hD2 hE2
          simp only [List.length_cons] at hRc hRL hE
          refine ⟨⟨some ⟨b, o, none⟩, 0, [], D ++ [lf], E ++ [⟨fq, false, id⟩], v2, rfl, by omega, by omega, by omega, HTL, HGL, (show _ = _ from by rw [List.append_assoc]; exact hD2), (show _ = _ from by rw [List.append_assoc]; exact hE2), by simp; omega, hS7, ?_, (show Lay _ _ _ _ from by rw [← List.append_assoc]; exact hl6), hf6⟩, by simp [slN]⟩
          rw [cellsO_app1, List.length_append]
          exact O5
        have hc2 : 1 < c' := by rw [List.length_cons] at hRc; omega
        go_wp2_with (first
          | (go_at_call 123; refine (first_impl q _ (by omega)).mono ?_; rw [HFQ.out]; rintro e w1 ⟨rfl, hb1⟩; have HL1 : Hid (Lay w1 lb v' (T ++ D)) := HL.out.below hb1; have HS1 : Hid (SrcF w1 lb (some ⟨b, o, none⟩) (⟨q, t⟩ :: R)) := HSR.out.below hb1; have HF1 : Hid (Fr w w1 lb v v') := HF.out.trans (Fr.of hb1); replace hu := ownsUnder hu hb1 (Nat.le_refl _); replace c1 := (hb1.cell (p := ⟨b, o, none⟩) hbl).trans c1; replace c2 := (hb1.cell (p := ⟨b, o + 1, none⟩) hbl).trans c2; clear hb1)
          | (go_at_call 102; refine (HC.out w1 v' HL1.out).mono ?_; rintro e w2 ⟨rfl, v2, hl2, hf2⟩; have HL2 : Hid (Lay w2 lb v2 ((T ++ D) ++ [lf])) := hl2; have HF2 : Hid (Fr w w2 lb v v2) := HF1.out.trans hf2; have HS2 : Hid (SrcF w2 lb (some ⟨b, o, none⟩) (⟨q, t⟩ :: R)) := HS1.out.fr HL1.out hf2; have hu2 := own_fr hu hlb (by decide) HL1.out hf2; have hs2 := HF2.out.size; clear hu hl2 hf2)
          | (at_builtin; refine wpL_app rfl _ _ 81 rfl w.heap.size 90 j0 (.agg #[.string ByteArray.empty, .bool false, .int .i64 0]) 3 32 Tryz.underlying81 hj hy0 hy1 hy2 rfl (by decide) u7 E.length (cellsO E) rfl (hu2.alloc _) ⟨w2.heap.size, 0, none⟩ 1 1 [.string fq, .bool false, .int .i64 (id : Int)] rfl rfl (cells_new w2 #[.string fq, .bool false, .int .i64 (id : Int)] 90) (by simp [Value.oneCell']) (by unfold maxLen; omega) (by omega) (by simp; omega) ?_; intro v5 w5 O5 g5 b5))
        obtain ⟨hl6, hS6, hf6⟩ := row_step HL2.out HS2.out HF2.out hu2 hlb g5
        have hS7 := hS6.drop 1
        have HTL : smallF 1048576 R := fun y hy => HT.out y (List.mem_cons_of_mem _ hy)
        have HGL : Gd (d + 1) R := HG.out.sub (List.sublist_cons_self _ _)
        have hD2 := HD.out
        have hE2 := HE.out
        rw [HST.out] at hD2 hE2
        simp only [List.length_cons] at hRc hRL hE
        refine ⟨⟨some ⟨b, o + 2, none⟩, c' - 1, R, D ++ [lf], E ++ [⟨fq, false, id⟩], v2, rfl, by omega, by omega, by omega, HTL, HGL, (show _ = _ from by rw [List.append_assoc]; exact hD2), (show _ = _ from by rw [List.append_assoc]; exact hE2), by simp; omega, hS7, ?_, (show Lay _ _ _ _ from by rw [← List.append_assoc]; exact hl6), hf6⟩, by simp [slN]⟩
        rw [cellsO_app1, List.length_append]
        exact O5
      · have hqf : q ≠ fq := fun e => hx (by
          have := congrArg (fun z : ByteArray => z.data.toList) (e.trans hfq.symm)
          simpa using this)
        have e1 : (q.toList == fq.toList) = false := by
          rw [Lib.toList_data, Lib.toList_data]
          simpa using fun e => hqf (pa_eqB e)
        have hst := lay_deep (d := d) HG.out (show (TF.mk q t).pa.data.toList ≠ fstF ⟨q, t⟩ from hx)
        have hgp := HG.out.part (show (TF.mk q t).pa.data.toList ≠ fstF ⟨q, t⟩ from hx)
        have hps := part_small (⟨q, t⟩ :: R) (fstF ⟨q, t⟩) 1048576 HT.out
        rw [HG.out.part_front] at hps
        have hfl : ((frontF (fstF ⟨q, t⟩) (⟨q, t⟩ :: R)).map rstF).length = (frontF (fstF ⟨q, t⟩) (⟨q, t⟩ :: R)).length := List.length_map ..
        have hbd := back_drop (fstF ⟨q, t⟩) (⟨q, t⟩ :: R)
        have hm1 : 1 ≤ (frontF (fstF ⟨q, t⟩) (⟨q, t⟩ :: R)).length := by rw [front_head]; simp
        have hm2 : (frontF (fstF ⟨q, t⟩) (⟨q, t⟩ :: R)).length ≤ R.length + 1 := by
          have := congrArg List.length (front_back (fstF ⟨q, t⟩) (⟨q, t⟩ :: R))
          rw [List.length_append, List.length_cons] at this
          omega
        have hcal := fun (w1 : World) (h : RdF w1.heap.size w1 (some ⟨b, o, none⟩) (⟨q, t⟩ :: R)) => behind_any (some ⟨b, o, none⟩) c' (⟨q, t⟩ :: R) (fstF ⟨q, t⟩) w1 h (by omega) HT.out
        obtain ⟨m, hm⟩ : ∃ m, (frontF (fstF ⟨q, t⟩) (⟨q, t⟩ :: R)).length = m := ⟨_, rfl⟩
        rw [hm] at hfl hbd hm1 hm2
        obtain ⟨P, hP⟩ : ∃ P, (frontF (fstF ⟨q, t⟩) (⟨q, t⟩ :: R)).map rstF = P := ⟨_, rfl⟩
        rw [hP] at hst hgp hps hfl
        rw [hbd] at hst
        obtain ⟨id, hid⟩ : ∃ id : Nat, layI d P = id := ⟨_, rfl⟩
        obtain ⟨TP, hTP⟩ : ∃ TP, layT d P = TP := ⟨_, rfl⟩
        have e5 : (⟨(fstF ⟨q, t⟩).toArray⟩ : ByteArray) = fq := hfq
        simp only [hid, hTP, e5] at hst
        have HB : Hid (∀ w1 : World, lb < w1.heap.size → RdF w1.heap.size w1 (some ⟨b, o, none⟩) (⟨q, t⟩ :: R) → Calls Tryz.prog 124 #[.slice (some ⟨b, o, none⟩) (R.length + 1) c', .string fq] w1 fun e w' => ∃ A3 c3, e = .returned (.slice A3 m c3) ∧ m ≤ c3 ∧ c3 ≤ maxLen ∧ Hid (SrcF w' lb A3 P) ∧ Below w1.heap.size w1 w') := (show ∀ w1 : World, _ → _ → _ from fun w1 h1 h2 => by
          have := hcal w1 h2
          simp only [e5, hm, hP] at this
          refine this.mono ?_
          rintro e w' ⟨⟨v3, rfl, o3⟩, hb3⟩
          rw [← hfl] at o3
          obtain ⟨A3, c3, rfl, k1, k2, k3⟩ := src_of_own o3 h1
          rw [hfl] at k1 ⊢
          exact ⟨A3, c3, rfl, k1, k2, k3, hb3⟩)
        have HC : Hid (∀ (w1 : World) (v1 : Value) (A3 : Option Addr) (c3 : Nat), Lay w1 lb v1 (T ++ D) → SrcF w1 lb A3 P → m ≤ c3 → c3 ≤ maxLen → Calls Tryz.prog 67 #[.pointer (some ⟨lb, 0, none⟩), .slice A3 m c3] w1 fun e w' => e = .returned (.int .i64 id) ∧ ∃ v2, Lay w' lb v2 ((T ++ D) ++ TP) ∧ Fr w1 w' lb v1 v2) := (show ∀ (w1 : World) (v1 : Value) (A3 : Option Addr) (c3 : Nat), _ → _ → _ → _ → _ from fun w1 v1 A3 c3 h1 h2 h3 h4 => by
          have hbo : (T ++ D).length + (layT d P).length ≤ 100000000 := by
            have h6 := congrArg List.length HD.out
            rw [hst, List.length_append, List.length_append] at h6
            rw [hTP, List.length_append]
            unfold layT at hT
            rw [List.length_append] at hT
            omega
          have := ih lb A3 c3 P v1 (T ++ D) w1 h1 h2 (by omega) h4 (by simp only [List.length_cons] at hRL; omega) hps hgp hbo (.inr (by omega))
          rw [hfl, hid, hTP] at this
          exact this)
        have HST : Hid (layD (d + 1) (⟨q, t⟩ :: R) = (TP ++ (layD (d + 1) ((⟨q, t⟩ :: R).drop m)).1, ⟨fq, true, id⟩ :: (layD (d + 1) ((⟨q, t⟩ :: R).drop m)).2) ) := hst
        have hmI : (0 : Int) ≤ (m : Int) := by omega
        have hmI2 : (m : Int) ≤ ((R.length : Nat) : Int) + 1 := by omega
        have hmc : m ≤ c' := by simp only [List.length_cons] at hRc; omega
        clear hfq hid hst e5 hqf hbf hP hTP hgp hps hfl hcal hm hbd
        by_cases hc1 : c' = m
        · subst hc1
          go_wp2_with (first
            | (go_at_call 123; refine (first_impl q _ (by omega)).mono ?_; rw [HFQ.out]; rintro e w1 ⟨rfl, hb1⟩; have HL1 : Hid (Lay w1 lb v' (T ++ D)) := HL.out.below hb1; have HS1 : Hid (SrcF w1 lb (some ⟨b, o, none⟩) (⟨q, t⟩ :: R)) := HSR.out.below hb1; have HF1 : Hid (Fr w w1 lb v v') := HF.out.trans (Fr.of hb1); replace hu := ownsUnder hu hb1 (Nat.le_refl _); replace c1 := (hb1.cell (p := ⟨b, o, none⟩) hbl).trans c1; replace c2 := (hb1.cell (p := ⟨b, o + 1, none⟩) hbl).trans c2; clear hb1)
            | (go_at_call 124; refine (HB.out w1 HL1.out.lt HS1.out.1).mono ?_; rintro e w3 ⟨A3, c3, rfl, k1, k2, HS3, hb3⟩; have HL3 : Hid (Lay w3 lb v' (T ++ D)) := HL1.out.below hb3; have HR3 : Hid (SrcF w3 lb (some ⟨b, o, none⟩) (⟨q, t⟩ :: R)) := HS1.out.below hb3; have HF3 : Hid (Fr w w3 lb v v') := HF1.out.trans (Fr.of hb3); have hu3 := ownsUnder hu hb3 (Nat.le_refl _); clear hb3 hu)
            | (go_at_call 67; refine (HC.out w3 v' A3 c3 HL3.out HS3.out k1 k2).mono ?_; rintro e w2 ⟨rfl, v2, hl2, hf2⟩; have HL2 : Hid (Lay w2 lb v2 ((T ++ D) ++ TP)) := hl2; have HF2 : Hid (Fr w w2 lb v v2) := HF3.out.trans hf2; have HS2 : Hid (SrcF w2 lb (some ⟨b, o, none⟩) (⟨q, t⟩ :: R)) := HR3.out.fr HL3.out hf2; have hu2 := own_fr hu3 hlb (by decide) HL3.out hf2; have hs2 := HF2.out.size; clear hu3 hl2 hf2)
            | (at_builtin; refine wpL_app rfl _ _ 81 rfl w.heap.size 90 j0 (.agg #[.string ByteArray.empty, .bool false, .int .i64 0]) 3 32 Tryz.underlying81 hj hy0 hy1 hy2 rfl (by decide) u7 E.length (cellsO E) rfl (hu2.alloc _) ⟨w2.heap.size, 0, none⟩ 1 1 [.string fq, .bool true, .int .i64 (id : Int)] rfl rfl (cells_new w2 #[.string fq, .bool true, .int .i64 (id : Int)] 90) (by simp [Value.oneCell']) (by unfold maxLen; omega) (by omega) (by simp; omega) ?_; intro v5 w5 O5 g5 b5))
          obtain ⟨hl6, hS6, hf6⟩ := row_step HL2.out HS2.out HF2.out hu2 hlb g5
          have hS7 := hS6.none
          have hln : ((⟨q, t⟩ :: R).drop c').length = R.length + 1 - c' := by rw [List.length_drop]; rfl
          have hnil : (⟨q, t⟩ :: R).drop c' = [] := List.eq_nil_of_length_eq_zero (by simp only [List.length_cons] at hRc; omega)
          have HTL : smallF 1048576 ((⟨q, t⟩ :: R).drop c') := fun y hy => HT.out y (List.mem_of_mem_drop hy)
          have HGL : Gd (d + 1) ((⟨q, t⟩ :: R).drop c') := HG.out.sub (List.drop_sublist _ _)
          have hD2 := HD.out
          have hE2 := HE.out
          rw [HST.out] at hD2 hE2
          simp only [List.length_cons] at hRc hRL hE
          refine ⟨⟨some ⟨b, o, none⟩, 0, (⟨q, t⟩ :: R).drop c', D ++ TP, E ++ [⟨fq, true, id⟩], v2, by rw [hln], by rw [hln]; omega, by unfold maxLen; omega, by rw [hln]; omega, HTL, HGL, (show _ = _ from by rw [List.append_assoc]; exact hD2), (show _ = _ from by rw [List.append_assoc]; exact hE2), by rw [hln]; simp; omega, by rw [hnil]; exact hS7, ?_, (show Lay _ _ _ _ from by rw [← List.append_assoc]; exact hl6), hf6⟩, by simp [slN]; omega⟩
          rw [cellsO_app1, List.length_append]
          exact O5
        have hc2 : ¬ ((c' : Nat) : Int) = (m : Int) := by omega
        go_wp2_with (first
          | (go_at_call 123; refine (first_impl q _ (by omega)).mono ?_; rw [HFQ.out]; rintro e w1 ⟨rfl, hb1⟩; have HL1 : Hid (Lay w1 lb v' (T ++ D)) := HL.out.below hb1; have HS1 : Hid (SrcF w1 lb (some ⟨b, o, none⟩) (⟨q, t⟩ :: R)) := HSR.out.below hb1; have HF1 : Hid (Fr w w1 lb v v') := HF.out.trans (Fr.of hb1); replace hu := ownsUnder hu hb1 (Nat.le_refl _); replace c1 := (hb1.cell (p := ⟨b, o, none⟩) hbl).trans c1; replace c2 := (hb1.cell (p := ⟨b, o + 1, none⟩) hbl).trans c2; clear hb1)
          | (go_at_call 124; refine (HB.out w1 HL1.out.lt HS1.out.1).mono ?_; rintro e w3 ⟨A3, c3, rfl, k1, k2, HS3, hb3⟩; have HL3 : Hid (Lay w3 lb v' (T ++ D)) := HL1.out.below hb3; have HR3 : Hid (SrcF w3 lb (some ⟨b, o, none⟩) (⟨q, t⟩ :: R)) := HS1.out.below hb3; have HF3 : Hid (Fr w w3 lb v v') := HF1.out.trans (Fr.of hb3); have hu3 := ownsUnder hu hb3 (Nat.le_refl _); clear hb3 hu)
          | (go_at_call 67; refine (HC.out w3 v' A3 c3 HL3.out HS3.out k1 k2).mono ?_; rintro e w2 ⟨rfl, v2, hl2, hf2⟩; have HL2 : Hid (Lay w2 lb v2 ((T ++ D) ++ TP)) := hl2; have HF2 : Hid (Fr w w2 lb v v2) := HF3.out.trans hf2; have HS2 : Hid (SrcF w2 lb (some ⟨b, o, none⟩) (⟨q, t⟩ :: R)) := HR3.out.fr HL3.out hf2; have hu2 := own_fr hu3 hlb (by decide) HL3.out hf2; have hs2 := HF2.out.size; clear hu3 hl2 hf2)
          | (at_builtin; refine wpL_app rfl _ _ 81 rfl w.heap.size 90 j0 (.agg #[.string ByteArray.empty, .bool false, .int .i64 0]) 3 32 Tryz.underlying81 hj hy0 hy1 hy2 rfl (by decide) u7 E.length (cellsO E) rfl (hu2.alloc _) ⟨w2.heap.size, 0, none⟩ 1 1 [.string fq, .bool true, .int .i64 (id : Int)] rfl rfl (cells_new w2 #[.string fq, .bool true, .int .i64 (id : Int)] 90) (by simp [Value.oneCell']) (by unfold maxLen; omega) (by omega) (by simp; omega) ?_; intro v5 w5 O5 g5 b5))
        obtain ⟨hl6, hS6, hf6⟩ := row_step HL2.out HS2.out HF2.out hu2 hlb g5
        have hS7 := hS6.drop m
        have hln : ((⟨q, t⟩ :: R).drop m).length = R.length + 1 - m := by rw [List.length_drop]; rfl
        have HTL : smallF 1048576 ((⟨q, t⟩ :: R).drop m) := fun y hy => HT.out y (List.mem_of_mem_drop hy)
        have HGL : Gd (d + 1) ((⟨q, t⟩ :: R).drop m) := HG.out.sub (List.drop_sublist _ _)
        have hD2 := HD.out
        have hE2 := HE.out
        rw [HST.out] at hD2 hE2
        simp only [List.length_cons] at hRc hRL hE
        refine ⟨⟨some ⟨b, o + m * 2, none⟩, c' - m, (⟨q, t⟩ :: R).drop m, D ++ TP, E ++ [⟨fq, true, id⟩], v2, by rw [hln], by rw [hln]; omega, by omega, by rw [hln]; omega, HTL, HGL, (show _ = _ from by rw [List.append_assoc]; exact hD2), (show _ = _ from by rw [List.append_assoc]; exact hE2), by rw [hln]; simp; omega, hS7, ?_, (show Lay _ _ _ _ from by rw [← List.append_assoc]; exact hl6), hf6⟩, by simp [slN]; omega⟩
        rw [cellsO_app1, List.length_append]
        exact O5
theorem sheet_zero : SheetOk 0 := by
  intro lb A c L v T w hl hS hc hcm hn ht hg hT hne
  have h0 : 0 < L.length := by omega
  obtain ⟨h1, h2, h3⟩ := hg.ok L[0] (List.getElem_mem h0)
  unfold nms at h3
  rw [if_neg h1] at h3
  obtain ⟨a, r, e⟩ := spl_ne L[0].pa.data.toList
  rw [e] at h3
  simp at h3
theorem lay_small (d : Nat) (L : List TF) (ht : smallF 1048576 L) : ∀ e ∈ (layD (d + 1) L).2, e.nm.size ≤ 1048576 := fun e he => by
  simp only [layD, List.mem_map] at he
  obtain ⟨a, ha, rfl⟩ := he
  have := nam_small L _ ht a ha
  unfold grpOf
  split <;> (show (ByteArray.mk a.toArray).size ≤ _; rw [size_mk]; exact this)
set_option maxRecDepth 100000 in
set_option maxHeartbeats 4000000 in
theorem sheet_step (d : Nat) (ih : SheetOk d) : SheetOk (d + 1) := by
  intro lb A c L v T w hl hS hc hcm hn ht hg hT _
  have hmf : ∀ (fn : Fn) (first cap : Array Value) (w : World), (Instr.makeFunc fn first cap).run Tryz.prog w = .ok (.func fn first cap) w := fun _ _ _ _ => rfl
  have hlb := hl.lt
  have hE : (layD (d + 1) L).2.length ≤ 60 := by
    have := (layK_len 60 d L (namF L).length hn).2
    rw [layK_all] at this
    omega
  have HC : Hid (Calls Tryz.prog 101 #[.slice A L.length c, .func (.func 102) #[.pointer (some ⟨lb, 0, none⟩)] #[], .func (.func 67) #[.pointer (some ⟨lb, 0, none⟩)] #[]] w fun e w' => ∃ u v', e = .returned u ∧ w'.ownsRow w.heap.size 90 3 u (layD (d + 1) L).2.length (cellsO (layD (d + 1) L).2) ∧ Lay w' lb v' (T ++ (layD (d + 1) L).1) ∧ Fr w w' lb v v') := entriesL_any d ih lb A c L v T w hl hS hc hcm hn ht hg hT
  have hnm : ∀ j (h : j < (layD (d + 1) L).2.length), ((layD (d + 1) L).2[j]).nm.size ≤ 1048576 := fun j h => lay_small d L ht _ (List.getElem_mem h)
  have hz := sheet_small (layD (d + 1) L).2
  have hTT : (T ++ (layD (d + 1) L).1).length ≤ 100000000 := by
    unfold layT at hT
    rw [List.length_append] at hT ⊢
    omega
  unfold layI layT
  obtain ⟨s, hs⟩ : ∃ s, sheetOf (layD (d + 1) L).2 = s := ⟨_, rfl⟩
  have HSF : Hid (sheetOf (layD (d + 1) L).2 = s) := hs
  rw [hs] at hz ⊢
  obtain ⟨Y, hY⟩ : ∃ Y, layD (d + 1) L = Y := ⟨_, rfl⟩
  rw [hY] at HC hnm hTT hE HSF ⊢
  clear hs hY hT
  go_enter Tryz.func67, Tryz.ntmps67
  go_wp2_with (first
    | (go_at_call 101; refine HC.out.mono ?_; rintro e w1 ⟨u, v1, rfl, hu, hl1, hf1⟩; obtain ⟨AE, cE, rfl, hr⟩ := rdO_of_own hu)
    | (go_at_call 100; refine (sheet_impl AE cE Y.2 w1 hr (by omega) hnm).mono ?_; rintro e w2 ⟨rfl, hb2⟩; rw [show (ByteArray.mk (sheetT (Y.2.map enO)).toArray) = s from HSF.out])
    | (go_at_call 99; refine (putL_any lb v1 (T ++ Y.1) s w2 (hl1.below hb2) (by omega) hTT).mono ?_; rintro e w3 ⟨rfl, v3, hl3, hf3⟩))
  go_ret
  refine ⟨rfl, v3, ?_, (hf1.trans (Fr.of hb2)).trans hf3⟩
  rw [← List.append_assoc]
  exact hl3
theorem sheet_all : ∀ d, SheetOk d
  | 0 => sheet_zero
  | d + 1 => sheet_step d (sheet_all d)
end Go.Proofs.YthfffpdkmoclbaaGreatDoor.W
namespace Go.Proofs.YthfffpdkmoclbaaGreatDoor.W
open Go.RowKit Go.Proofs.YthfffpdkmoclbaaGreatDoor.M

theorem bl_nil (q : List UInt8) : Op.bytesLess [] q = !(decide (q = [])) := by cases q <;> rfl
theorem bl_of (p q : List UInt8) (h : Op.bytesLess p q = true) : q ≠ [] := by
  intro e; subst e; cases p <;> simp [Op.bytesLess] at h

set_option maxHeartbeats 1000000 in
theorem treOk_impl (A : Option Addr) (c : Nat) (L : List TF) (w : World) (hL : RdF w.heap.size w A L) (hn : L.length ≤ 1048576) (ht : ∀ j (h : j < L.length), (L[j]).pa.size ≤ 1048576 ∧ (L[j]).by_.size ≤ 1048576) :
    Calls Tryz.prog 66 #[.slice A L.length c] w fun e w' => e = .returned (.bool (okT L)) ∧ Below w.heap.size w w' := by
  have HL : Hid (RdF w.heap.size w A L) := hL
  have HT : Hid (∀ j (h : j < L.length), (L[j]).pa.size ≤ 1048576 ∧ (L[j]).by_.size ≤ 1048576) := ht
  clear hL ht
  by_cases h60 : 60 < L.length
  · go_enter Tryz.func66, Tryz.ntmps66
    go_wp2
    go_ret
    exact ⟨ret_bool (badN L h60).symm, Below.refl _ _⟩
  go_enter Tryz.func66, Tryz.ntmps66
  go_wp2
  go_loopw [3, 11] (fun sv iv wr => ∃ (j : Nat) (p : ByteArray), j ≤ L.length ∧ iv = .int .i64 j ∧ sv = .string p ∧ p.size ≤ 1048576 ∧ Hid (p.data.toList = (if j = 0 then [] else paL L (j - 1))) ∧ Hid (∀ i, i < j → g1 L i = true ∧ g2 L i = true) ∧ Below w.heap.size w wr) (fun _ i _ => L.length - (intOf i).toNat)
  case atStart => exact ⟨0, _, Nat.zero_le _, rfl, rfl, by decide, rfl, fun i h => by omega, Below.refl _ _⟩
  case round =>
    obtain ⟨j, p, hj, rfl, rfl, hps, EP, HG, hb⟩ := hrel
    have hsz := hb.size
    by_cases hlt : j < L.length
    · obtain ⟨b, o, rfl, hbl, c1, c2⟩ := (HL.out.below hb (Nat.le_refl _)) j hlt
      have hpx := (HT.out j hlt).1
      have e1 : Hid (paL L j = (L[j]).pa.data.toList) := paL_at L j hlt
      have e2 : Hid (byN L j = (L[j]).by_.size) := byN_at L j hlt
      generalize (L[j]).pa = q at *
      generalize (L[j]).by_ = t at *
      have hs4 : q.size ≤ 4194304 := by omega
      cases k2 : pthB q.data.toList
      · have HB : Hid (okT L = false) := bad1 L j hlt (by unfold g1; rw [e1.out, k2]; simp)
        have hq : Calls Tryz.prog 97 #[.string q] (wr.alloc (.cells #[.string q, .string t] 98)) fun e w' => e = .returned (.bool false) ∧ Below (wr.alloc (.cells #[.string q, .string t] 98)).heap.size (wr.alloc (.cells #[.string q, .string t] 98)) w' := by
          have := pthOk_impl q (wr.alloc (.cells #[.string q, .string t] 98)) hs4; rwa [k2] at this
        clear k2
        go_wp2_with (go_at_call 97; refine hq.mono ?_; rintro e w1 ⟨rfl, hb1⟩)
        go_ret
        exact ⟨ret_bool HB.out.symm, (hb.alloc (by omega) _).trans (hb1.mono (by simp; omega))⟩
      have hq : Calls Tryz.prog 97 #[.string q] (wr.alloc (.cells #[.string q, .string t] 98)) fun e w' => e = .returned (.bool true) ∧ Below (wr.alloc (.cells #[.string q, .string t] 98)).heap.size (wr.alloc (.cells #[.string q, .string t] 98)) w' := by
        have := pthOk_impl q (wr.alloc (.cells #[.string q, .string t] 98)) hs4; rwa [k2] at this
      have htri := blTri q.toList p.toList
      have hgj : g1 L j = (decide (q.data.toList ≠ []) && (decide (t.size ≤ 6) && (decide (j = 0) || Op.bytesLess (paL L (j - 1)) q.data.toList))) := by
        unfold g1; rw [e1.out, e2.out, k2]; simp
      have GJ : Hid (g1 L j = _) := hgj
      clear k2 hgj
      cases k5 : Op.bytesLess p.toList q.toList
      · have HB : Hid (okT L = false) := bad1 L j hlt (by
          rw [GJ.out]
          rw [ByteArray.toList_eq, ByteArray.toList_eq, EP.out] at k5
          by_cases j0 : j = 0
          · rw [if_pos j0, bl_nil] at k5
            have : q.data.toList = [] := by simpa using k5
            simp [this]
          · rw [if_neg j0] at k5
            simp [j0, k5])
        rw [k5] at htri
        clear k5
        go_wp2_with (go_at_call 97; refine hq.mono ?_; rintro e w1 ⟨rfl, hb1⟩; have d1 : w1.cell? ⟨wr.heap.size, 0, none⟩ = some (.string q) := (hb1.cell (p := ⟨wr.heap.size, _, none⟩) (by simp)).trans (by simp); have d2 : w1.cell? ⟨wr.heap.size, 1, none⟩ = some (.string t) := (hb1.cell (p := ⟨wr.heap.size, _, none⟩) (by simp)).trans (by simp); have hz1 := hb1.size; simp at hz1; replace hb1 := (hb.alloc (by omega) (.cells #[.string q, .string t] 98)).trans (hb1.mono (by simp; omega)))
        go_ret
        exact ⟨ret_bool HB.out.symm, hb1⟩
      have hqn : q.data.toList ≠ [] := by rw [← ByteArray.toList_eq]; exact bl_of _ _ k5
      by_cases k3 : 6 < t.size
      · have HB : Hid (okT L = false) := bad1 L j hlt (by
          rw [GJ.out]
          have : decide (t.size ≤ 6) = false := by (simp; omega)
          rw [this]; simp)
        have y1 : (6 : Int) < (t.size : Int) := by omega
        rw [k5] at htri
        have K5 : Hid (Op.bytesLess p.toList q.toList = true) := k5
        clear k5 hqn
        go_wp2_with (go_at_call 97; refine hq.mono ?_; rintro e w1 ⟨rfl, hb1⟩; have d1 : w1.cell? ⟨wr.heap.size, 0, none⟩ = some (.string q) := (hb1.cell (p := ⟨wr.heap.size, _, none⟩) (by simp)).trans (by simp); have d2 : w1.cell? ⟨wr.heap.size, 1, none⟩ = some (.string t) := (hb1.cell (p := ⟨wr.heap.size, _, none⟩) (by simp)).trans (by simp); have hz1 := hb1.size; simp at hz1; replace hb1 := (hb.alloc (by omega) (.cells #[.string q, .string t] 98)).trans (hb1.mono (by simp; omega)))
        go_ret
        exact ⟨ret_bool HB.out.symm, hb1⟩
      have y1 : decide ((6 : Int) < (t.size : Int)) = false := by rw [decide_eq_false_iff_not]; omega
      have G1 : Hid (g1 L j = true) := by
        show _ = _
        rw [GJ.out]
        have h6 : t.size ≤ 6 := by omega
        by_cases j0 : j = 0
        · simp [hqn, h6, j0]
        · rw [ByteArray.toList_eq, ByteArray.toList_eq, EP.out, if_neg j0] at k5
          simp [hqn, h6, k5]
      rw [k5] at htri
      have K5 : Hid (Op.bytesLess p.toList q.toList = true) := k5
      have HQ : Hid (q.data.toList ≠ []) := hqn
      clear k5 hqn
      by_cases k6 : p.data.toList = []
      · have j0 : j = 0 := by
          by_cases j0 : j = 0
          · exact j0
          · have h1 := (HG.out (j - 1) (by omega)).1
            have h2 := EP.out
            rw [if_neg j0, k6] at h2
            unfold g1 at h1; rw [← h2] at h1; simp at h1
        have z1 : p.toList.isEmpty = true := empty_t p k6
        have HN : Hid (∀ i, i < j + 1 → g1 L i = true ∧ g2 L i = true) := fun i hi => by
          obtain rfl : i = j := by omega
          exact ⟨G1.out, by unfold g2; simp [j0]⟩
        have HE : Hid (q.data.toList = (if j + 1 = 0 then [] else paL L (j + 1 - 1))) := by
          show _ = _
          rw [if_neg (by omega), Nat.add_sub_cancel, e1.out]
        clear k6 j0
        go_wp2_with (go_at_call 97; refine hq.mono ?_; rintro e w1 ⟨rfl, hb1⟩; have d1 : w1.cell? ⟨wr.heap.size, 0, none⟩ = some (.string q) := (hb1.cell (p := ⟨wr.heap.size, _, none⟩) (by simp)).trans (by simp); have d2 : w1.cell? ⟨wr.heap.size, 1, none⟩ = some (.string t) := (hb1.cell (p := ⟨wr.heap.size, _, none⟩) (by simp)).trans (by simp); have hz1 := hb1.size; simp at hz1; replace hb1 := (hb.alloc (by omega) (.cells #[.string q, .string t] 98)).trans (hb1.mono (by simp; omega)))
        go_roundw
        case rel => exact ⟨j + 1, q, by omega, by go_num, rfl, hpx, HE, HN, hb1⟩
        case measure => simp [intOf]; omega
      have z1 : p.toList.isEmpty = false := nonempty_f p k6
      have hj0 : j ≠ 0 := fun j0 => k6 (by rw [EP.out, if_pos j0])
      have e4 : Hid (p.data.toList = paL L (j - 1)) := by show _ = _; rw [EP.out, if_neg hj0]
      clear k6
      cases k7 : undB p.data.toList q.data.toList
      · have HN : Hid (∀ i, i < j + 1 → g1 L i = true ∧ g2 L i = true) := fun i hi => by
          by_cases hij : i < j
          · exact HG.out i hij
          · obtain rfl : i = j := by omega
            exact ⟨G1.out, by unfold g2; rw [← e4.out, e1.out, k7]; simp⟩
        have HE : Hid (q.data.toList = (if j + 1 = 0 then [] else paL L (j + 1 - 1))) := by
          show _ = _
          rw [if_neg (by omega), Nat.add_sub_cancel, e1.out]
        have HU : Hid (undB p.data.toList q.data.toList = false) := k7
        clear k7
        go_wp2_with (first | (go_at_call 97; refine hq.mono ?_; rintro e w1 ⟨rfl, hb1⟩; have d1 : w1.cell? ⟨wr.heap.size, 0, none⟩ = some (.string q) := (hb1.cell (p := ⟨wr.heap.size, _, none⟩) (by simp)).trans (by simp); have d2 : w1.cell? ⟨wr.heap.size, 1, none⟩ = some (.string t) := (hb1.cell (p := ⟨wr.heap.size, _, none⟩) (by simp)).trans (by simp); have hz1 := hb1.size; simp at hz1; replace hb1 := (hb.alloc (by omega) (.cells #[.string q, .string t] 98)).trans (hb1.mono (by simp; omega))) | (go_at_call 98; refine (under_impl p q _ hps hpx).mono ?_; rw [HU.out]; rintro e w3 ⟨rfl, hb3⟩; replace d1 := (hb3.cell (p := ⟨wr.heap.size, _, none⟩) (by show wr.heap.size < _; omega)).trans d1; have hb4 := hb1.trans (hb3.mono hb1.size)))
        go_roundw
        case rel => exact ⟨j + 1, q, by omega, by go_num, rfl, hpx, HE, HN, hb4⟩
        case measure => simp [intOf]; omega
      · have HB : Hid (okT L = false) := bad2 L j hlt (by unfold g2; rw [← e4.out, e1.out, k7]; simp [hj0])
        have HU : Hid (undB p.data.toList q.data.toList = true) := k7
        clear k7
        go_wp2_with (first | (go_at_call 97; refine hq.mono ?_; rintro e w1 ⟨rfl, hb1⟩; have d1 : w1.cell? ⟨wr.heap.size, 0, none⟩ = some (.string q) := (hb1.cell (p := ⟨wr.heap.size, _, none⟩) (by simp)).trans (by simp); have d2 : w1.cell? ⟨wr.heap.size, 1, none⟩ = some (.string t) := (hb1.cell (p := ⟨wr.heap.size, _, none⟩) (by simp)).trans (by simp); have hz1 := hb1.size; simp at hz1; replace hb1 := (hb.alloc (by omega) (.cells #[.string q, .string t] 98)).trans (hb1.mono (by simp; omega))) | (go_at_call 98; refine (under_impl p q _ hps hpx).mono ?_; rw [HU.out]; rintro e w3 ⟨rfl, hb3⟩; have hb4 := hb1.trans (hb3.mono hb1.size)))
        go_ret
        exact ⟨ret_bool HB.out.symm, hb4⟩
    · go_wp2
      go_ret
      obtain rfl : j = L.length := by omega
      exact ⟨ret_bool (goodT L (by omega) (fun i hi => (HG.out i hi).1) (fun i hi => (HG.out i hi).2)).symm, hb⟩
end Go.Proofs.YthfffpdkmoclbaaGreatDoor.W
namespace Go.Proofs.YthfffpdkmoclbaaGreatDoor.W
open Go.RowKit Go.Proofs.YthfffpdkmoclbaaGreatDoor.M
set_option linter.unusedVariables false

theorem okT_riseL (L : List TF) (h : okT L = true) : RiseF L ∧ L.length ≤ 60 := by
  unfold okT at h
  simp only [Bool.and_eq_true, decide_eq_true_eq, List.all_eq_true, List.mem_range] at h
  obtain ⟨h0, h1, _⟩ := h
  have step : ∀ i (hi : i + 1 < L.length), (L[i]).pa.data.toList < (L[i + 1]).pa.data.toList := by
    intro i hi
    have := h1 (i + 1) hi
    unfold g1 at this
    simp only [Bool.and_eq_true, Bool.or_eq_true, decide_eq_true_eq] at this
    obtain ⟨_, _, _, h5⟩ := this
    rcases h5 with h5 | h5
    · omega
    · rw [Nat.add_sub_cancel, paL_at L i (by omega), paL_at L (i + 1) hi, bl_lt, decide_eq_true_eq] at h5
      exact h5
  refine ⟨?_, h0⟩
  have all : ∀ d i (hi : i + d + 1 < L.length), (L[i]).pa.data.toList < (L[i + d + 1]).pa.data.toList := by
    intro d
    induction d with
    | zero => intro i hi; exact step i hi
    | succ d ih => intro i hi; exact List.lt_trans (ih i (by omega)) (step (i + d + 1) hi)
  unfold RiseF
  rw [List.pairwise_iff_getElem]
  intro i j hi hj hij
  have := all (j - i - 1) i (by omega)
  have e : i + (j - i - 1) + 1 = j := by omega
  simpa only [e] using this
theorem newC0 (w : World) (cs : Array Value) (t : TypeId) (u : Value) (h : cs.toList[0]? = some u) : (w.alloc (.cells cs t)).cell? ⟨w.heap.size, 0, none⟩ = some u := cells_new w cs t 0 u h
set_option maxRecDepth 100000 in
set_option maxHeartbeats 4000000 in
theorem treLay_impl (A : Option Addr) (c : Nat) (L : List TF) (w : World) (hL : RdF w.heap.size w A L) (hc : L.length ≤ c) (hcm : c ≤ maxLen) (hb0 : ∀ b o, A = some ⟨b, o, none⟩ → b < w.heap.size) (hn : L.length ≤ 1048576) (ht : smallF 1048576 L) :
    Calls Tryz.prog 32 #[.slice A L.length c] w fun e w' => (∃ v, e = .returned (.tuple #[v, .int .i64 (texI L)]) ∧ w'.ownsRow w.heap.size 9 1 v (texT L).length (strs (sL (texT L)))) ∧ Below w.heap.size w w' := by
  have hts : ∀ j (h : j < L.length), (L[j]).pa.size ≤ 1048576 ∧ (L[j]).by_.size ≤ 1048576 := fun j h => ht _ (List.getElem_mem h)
  unfold texT texI
  cases hk : okT L
  · have HK : Hid (okT L = false) := hk
    rw [if_neg (by decide), if_neg (by decide)]
    clear hk
    go_enter Tryz.func32, Tryz.ntmps32
    go_wp2_with (go_at_call 66; refine (treOk_impl A c L _ hL hn hts).mono ?_; rw [HK.out]; rintro e w1 ⟨rfl, hb⟩)
    go_ret2
    exact ⟨⟨_, rfl, World.ownsRow_nil _ _ _ _⟩, hb⟩
  · have HK : Hid (okT L = true) := hk
    have h60 := okT_60 L hk
    rw [if_pos rfl, if_pos rfl]
    have hlen := Nat.le_trans (layT_len 60 3 L h60) (layN_3 3 (by omega))
    have hgd := gd_ok L hk (okT_riseL L hk).1
    have HC : Hid (∀ (lb : Nat) (w1 : World), Lay w1 lb (.slice none 0 0) [] → SrcF w1 lb A L → Calls Tryz.prog 67 #[.pointer (some ⟨lb, 0, none⟩), .slice A L.length c] w1 fun e w' => e = .returned (.int .i64 (layI 3 L)) ∧ ∃ v', Lay w' lb v' (layT 3 L) ∧ Fr w1 w' lb (.slice none 0 0) v') := (show ∀ (lb : Nat) (w1 : World), _ → _ → _ from fun lb w1 h1 h2 => sheet_all 3 lb A c L _ [] w1 h1 h2 hc hcm h60 ht hgd (by simp; omega) (.inl (by omega)))
    obtain ⟨id, hid⟩ : ∃ id : Nat, layI 3 L = id := ⟨_, rfl⟩
    obtain ⟨T, hT⟩ : ∃ T, layT 3 L = T := ⟨_, rfl⟩
    rw [hid, hT] at HC
    rw [hid, hT]
    clear hk hid hT hlen hgd
    go_enter Tryz.func32, Tryz.ntmps32
    go_wp2_with (first
      | (go_at_call 66; refine (treOk_impl A c L _ hL hn hts).mono ?_; rw [HK.out]; rintro e w1 ⟨rfl, hb⟩; have R1 := hL.up hb)
      | (go_at_call 67; refine (HC.out w1.heap.size _ ⟨newC0 w1 _ _ _ rfl, World.frozen?_alloc_new w1 _ _ 0, World.ownsRow_nil _ _ _ _⟩ ⟨R1.up ((Below.refl _ _).alloc (Nat.le_refl _) _), fun b o e => .inl (Nat.lt_of_lt_of_le (hb0 b o e) hb.size)⟩).mono ?_; rintro e w2 ⟨rfl, v2, hl2, hf2⟩; have c2 := hl2.cell))
    go_ret2
    refine ⟨⟨_, rfl, ownsUpA9 hl2.row (by have := hb.size; omega)⟩, hb.trans (Below.mono (B := w1.heap.size) ?_ hb.size)⟩
    have hsz := hf2.size
    simp only [World.size_alloc] at hsz
    refine ⟨hf2.os, hf2.tape, hf2.output, by omega, fun k hk => ?_⟩
    exact (hf2.block k (by simp; omega) (by omega) (by simp [Value.ownBlock])).trans (((Below.refl w1.heap.size w1).alloc (Nat.le_refl _) _).block k hk)
end Go.Proofs.YthfffpdkmoclbaaGreatDoor.W
