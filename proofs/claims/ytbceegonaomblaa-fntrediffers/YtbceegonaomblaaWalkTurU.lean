
/-
  The walk of the specification's l4Turn: what one edit makes of files that rise. At most 500 files.
-/
import Derived.Test.YtbceegonaomblaaWalkTurT
import Derived.Deep.RegionHeldLaw
import Derived.Deep.AppendLies
namespace Go.Proofs.Ytbceegonaomblaa.W
open Go.RowKit Go.Lib Go.Proofs.Ytbceegonaomblaa.M

def idxF : List TF → ByteArray → Nat
  | [], _ => 0
  | x :: l, p => if x.pa = p then 0 else idxF l p + 1
theorem idxF_none (L : List TF) (p : ByteArray) (h : findF L p = none) : idxF L p = L.length := by
  induction L with
  | nil => rfl
  | cons y l ih =>
    unfold findF at h
    split at h
    · cases h
    · rename_i hn; unfold idxF; rw [if_neg hn, ih h]; rfl
theorem idxF_lt (L : List TF) (p t : ByteArray) (h : findF L p = some t) : idxF L p < L.length := by
  induction L with
  | nil => cases h
  | cons y l ih =>
    unfold findF at h
    unfold idxF
    split at h
    · rename_i hn; rw [if_pos hn]; simp
    · rename_i hn; rw [if_neg hn]; have := ih h; simp; omega
theorem cutF_at (L : List TF) (p t : ByteArray) (h : findF L p = some t) : cutF L p = L.take (idxF L p) ++ L.drop (idxF L p + 1) := by
  induction L with
  | nil => cases h
  | cons y l ih =>
    unfold findF at h
    unfold idxF cutF
    split at h
    · rename_i hn; rw [if_pos hn, if_pos hn]; rfl
    · rename_i hn; rw [if_neg hn, if_neg hn, ih h]; rfl
theorem putF_at (L : List TF) (p b t : ByteArray) (h : findF L p = some t) : putF L p b = L.set (idxF L p) ⟨p, b⟩ := by
  induction L with
  | nil => cases h
  | cons y l ih =>
    unfold findF at h
    unfold idxF putF
    split at h
    · rename_i hn; rw [if_pos hn, if_pos hn, hn]; rfl
    · rename_i hn; rw [if_neg hn, if_neg hn, ih h]; rfl
theorem idxF_get (L : List TF) (p t : ByteArray) (h : findF L p = some t) (hl : idxF L p < L.length) : (L[idxF L p]).pa = p := by
  induction L with
  | nil => cases h
  | cons y l ih =>
    unfold findF at h
    split at h
    · rename_i hn
      have e : idxF (y :: l) p = 0 := by unfold idxF; rw [if_pos hn]
      simp only [e]; exact hn
    · rename_i hn
      have e : idxF (y :: l) p = idxF l p + 1 := by conv => lhs; unfold idxF; rw [if_neg hn]
      simp only [e]
      exact ih h (idxF_lt l p t h)
theorem cellsF_set1 (L : List TF) (j : Nat) (b : ByteArray) (h : j < L.length) : (cellsF L).set (j * 2 + 1) (.string b) = cellsF (L.set j ⟨(L[j]).pa, b⟩) := by
  induction L generalizing j with
  | nil => simp at h
  | cons y l ih =>
    cases j with
    | zero => rw [List.set_cons_zero, cellsF_cons, cellsF_cons]; rfl
    | succ j =>
      rw [List.set_cons_succ, cellsF_cons, cellsF_cons, show (j + 1) * 2 + 1 = j * 2 + 1 + 1 + 1 by omega]
      have := ih j (by simpa using h)
      simpa using this
theorem boxCell (w : World) (cs : Array Value) (t : TypeId) (j : Nat) (u : Value) (h : cs.toList[j]? = some u) : (w.alloc (.cells cs t)).cell? ⟨w.heap.size, j, none⟩ = some u := by
  have h1 := cells_new w cs t j u h
  have ea : (⟨w.heap.size, 0, none⟩ : Addr).add j = ⟨w.heap.size, j, none⟩ := by unfold Addr.add; split <;> simp_all
  rwa [ea] at h1
theorem idxF_step (L : List TF) (p : ByteArray) (j : Nat) (h : j < L.length) : idxF (L.drop j) p = if (L[j]).pa = p then 0 else idxF (L.drop (j + 1)) p + 1 := by
  rw [List.drop_eq_getElem_cons h]; rfl
set_option maxHeartbeats 1000000 in
theorem l4Find_idx (A : Option Addr) (c : Nat) (L : List TF) (p : ByteArray) (w : World) (hL : RdF w.heap.size w A L) (hn : L.length ≤ 1048576) :
    Calls Try.prog 39 #[.slice A L.length c, .string p] w fun e w' => ((e = .returned (.int .i64 (-1)) ∧ findF L p = none) ∨ (e = .returned (.int .i64 (idxF L p)) ∧ ∃ t, findF L p = some t)) ∧ w = w' := by
  have HL : Hid (RdF w.heap.size w A L) := hL
  clear hL
  go_enter Try.func39, Try.ntmps39
  go_wp2
  go_loopw [5] (fun iv wr => ∃ j : Nat, j ≤ L.length ∧ iv = .int .i64 j ∧ Hid (findF L p = findF (L.drop j) p ∧ idxF L p = j + idxF (L.drop j) p) ∧ w = wr) (fun i _ => L.length - (RowKit.intOf i).toNat)
  case atStart => exact ⟨0, Nat.zero_le _, rfl, (show findF L p = findF (L.drop 0) p ∧ idxF L p = 0 + idxF (L.drop 0) p from ⟨rfl, by simp⟩), rfl⟩
  case round =>
    obtain ⟨j, hj, rfl, HS, rfl⟩ := hrel
    by_cases hlt : j < L.length
    · have HX : Hid (findF L p = _) := HS.out.1.trans (findF_step L p j hlt)
      have HZ : Hid (idxF L p = j + _) := HS.out.2.trans (by rw [idxF_step L p j hlt])
      obtain ⟨b, o, rfl, hbl, c1, c2⟩ := HL.out j hlt
      by_cases hq : (L[j]).pa = p
      · have HY : Hid (∃ t, findF L p = some t) := (show ∃ t, findF L p = some t from ⟨(L[j]).by_, by have := HX.out; rwa [if_pos hq] at this⟩)
        have HW : Hid (idxF L p = j) := (show idxF L p = j by have := HZ.out; rwa [if_pos hq, Nat.add_zero] at this)
        rw [hq] at c1
        clear HX HZ hq HS
        go_wp2
        go_ret
        exact ⟨Or.inr ⟨by rw [HW.out]; rfl, HY.out⟩, rfl⟩
      · have HY : Hid (findF L p = findF (L.drop (j + 1)) p ∧ idxF L p = j + 1 + idxF (L.drop (j + 1)) p) := (show _ ∧ _ from ⟨by have := HX.out; rwa [if_neg hq] at this, by have := HZ.out; rw [if_neg hq] at this; omega⟩)
        generalize (L[j]).pa = f at *
        generalize (L[j]).by_ = f' at *
        have hbe := bytes_ne hq
        clear HX HZ HS
        go_wp2
        go_roundw
        case rel => exact ⟨j + 1, by omega, by go_num, HY, trivial⟩
        case measure => simp [RowKit.intOf]; omega
    · go_wp2
      go_ret
      obtain rfl : j = L.length := by omega
      have e := HS.out.1
      rw [List.drop_length] at e
      exact ⟨Or.inl ⟨rfl, e⟩, rfl⟩

theorem step_app2 {P : Program} {w : World} {ops : Array Oper} {o : Oper} {a : Act} {K : Act → World → Prop} {Q : Exit → Act → World → Prop} {E : Prop} (d : Tmp) (hd : o.dst = some d) (hgd : o.guard = none) (s x : Operand) (t : TypeId)
    (ho : o.op = .call { callee := .builtin .append, args := #[s, x], argTypes := #[t, t] })
    (base : Nat) (e : TypeId) (i : TypeInfo) (z : Value) (size bytes : Nat) (ht : P.underlying t = some (.slice e)) (hi : P.info? e = some i) (hz : i.zero = some z)
    (hsize : i.size = size) (hby : i.bytes = bytes) (hzs : z.cells.size = size) (hsz : 0 < size)
    (v : Value) (n : Nat) (xs : List Value) (hs : a.eval s = v) (hown : w.ownsRow base e size v n xs)
    (ad : Addr) (m c : Nat) (news : List Value) (hx : a.eval x = .slice (some ad) m c) (hl : news.length = m * size) (hnews : ∀ j u, news[j]? = some u → w.cell? (ad.add j) = some u) (h1 : ∀ u ∈ news, u.oneCell' = true)
    (hnm : v ≠ .slice none 0 0) (h63 : n + m ≤ maxLen) (hbytes : (n + m) * bytes ≤ 140737488355328) (hbase : base ≤ w.heap.size)
    (h : ∀ g cap w', w'.ownsRow base e size (.slice (some ⟨g, 0, none⟩) (n + m) cap) (n + m) (xs ++ news) → w.grownBy w' v.ownBlock → K (a.put (some d) (.slice (some ⟨g, 0, none⟩) (n + m) cap)) w') :
    if Region.wanted o (yielded ops a.tmps) = true then Oper.wp P o a w K Q else E :=
  step_app hgd s x t ho base e i z size bytes ht hi hz hsize hby hzs hsz v n xs hs hown ad m c news hx hl hnews h1 hnm h63 hbytes hbase fun g cap w' h2 h3 => by rw [hd]; exact h g cap w' h2 h3
/-- l4Sorted of a row that was made behind a world: told of that world -/
theorem sorted_on (g cap n : Nat) (L : List TF) (v W : World) (HB : Below v.heap.size v W) (ho : W.ownsRow v.heap.size 51 2 (.slice (some ⟨g, 0, none⟩) n cap) n (cellsF L)) (e : n = L.length) (hn : n ≤ 1000) :
    Calls Try.prog 66 #[.slice (some ⟨g, 0, none⟩) n cap] W fun e w' => ∃ g' c', e = .returned (.slice (some ⟨g', 0, none⟩) n c') ∧ w'.ownsRow v.heap.size 51 2 (.slice (some ⟨g', 0, none⟩) n c') n (cellsF (sortF L)) ∧ Below v.heap.size v w' := by
  subst e
  obtain ⟨A, c, e1, hR⟩ := rdF_of_own ho
  cases e1
  refine (l4Sorted_own g 0 cap L W hR hn).mono ?_
  rintro e w' ⟨⟨g', c', rfl, h⟩, hb⟩
  exact ⟨g', c', rfl, ownsUpF h HB.size, HB.trans (hb.mono HB.size)⟩
set_option maxHeartbeats 2000000 in
set_option maxRecDepth 100000 in
/-- nothing is turned -/
theorem l4Turn_no (g c : Nat) (L : List TF) (p b : ByteArray) (w : World) (hL : RdF w.heap.size w (some ⟨g, 0, none⟩) L) (hn : L.length ≤ 500) (ht : findF L p = none ∨ b ≠ ByteArray.empty) :
    Calls Try.prog 55 #[.slice (some ⟨g, 0, none⟩) L.length c, .agg #[.string p, .string b, .bool true]] w fun e w' => (∃ v, e = .returned (.tuple #[v, .bool false])) ∧ Below w.heap.size w w' := by
  have HL : Hid (RdF w.heap.size w (some ⟨g, 0, none⟩) L) := hL
  have hcall := fun (W : World) (hW : Below w.heap.size w W) => l4Find_idx _ c L p W (HL.out.up hW) (by omega)
  obtain ⟨k, hk⟩ : ∃ k, idxF L p = k := ⟨_, rfl⟩
  rw [hk] at hcall
  clear hL hk
  cases hf : findF L p with
  | none =>
    have HF : Hid (findF L p = none) := hf
    clear ht hf
    go_enter Try.func55, Try.ntmps55
    go_wp2_with (go_at_call 39; refine (hcall _ ((Below.refl _ _).alloc (Nat.le_refl _) _)).mono ?_; rintro e w1 ⟨⟨rfl, hF⟩ | ⟨rfl, ⟨t, hF⟩⟩, rfl⟩; rotate_left; exact absurd (HF.out.symm.trans hF) (by simp))
    go_ret2
    exact ⟨⟨_, rfl⟩, (Below.refl _ _).alloc (Nat.le_refl _) _⟩
  | some t =>
    have HF : Hid (findF L p = some t) := hf
    have z1 : b.toList.isEmpty = false := by
      rcases ht with h | h
      · rw [hf] at h; cases h
      · rw [Lib.toList_data]
        cases h9 : b.data.toList with
        | nil => exact absurd (pa_eq (by rw [h9]; rfl)) h
        | cons => rfl
    have z2 : ¬ ((k : Nat) : Int) < 0 := by omega
    clear ht hf
    go_enter Try.func55, Try.ntmps55
    go_wp2_with (go_at_call 39; refine (hcall _ ((Below.refl _ _).alloc (Nat.le_refl _) _)).mono ?_; rintro e w1 ⟨⟨rfl, hF⟩ | ⟨rfl, hF⟩, rfl⟩; exact absurd (HF.out.symm.trans hF) (by simp))
    go_ret2
    exact ⟨⟨_, rfl⟩, (Below.refl _ _).alloc (Nat.le_refl _) _⟩

set_option maxHeartbeats 4000000 in
set_option maxRecDepth 100000 in
/-- a file is cut out -/
theorem l4Turn_cut (g c : Nat) (L : List TF) (p b : ByteArray) (w : World) (hL : RdF w.heap.size w (some ⟨g, 0, none⟩) L) (hn : L.length ≤ 500) (hc : L.length ≤ c) (t : ByteArray) (hf : findF L p = some t) (hb : b = ByteArray.empty) :
    Calls Try.prog 55 #[.slice (some ⟨g, 0, none⟩) L.length c, .agg #[.string p, .string b, .bool true]] w fun e w' => (∃ g' c', e = .returned (.tuple #[.slice (some ⟨g', 0, none⟩) (cutF L p).length c', .bool true]) ∧ w'.ownsRow w.heap.size 51 2 (.slice (some ⟨g', 0, none⟩) (cutF L p).length c') (cutF L p).length (cellsF (cutF L p))) ∧ Below w.heap.size w w' := by
  have HL : Hid (RdF w.heap.size w (some ⟨g, 0, none⟩) L) := hL
  have hkl := idxF_lt L p t hf
  have HC : Hid (cutF L p = _) := cutF_at L p t hf
  obtain ⟨i0, hi, hz0, hz1, hz2⟩ := info_parts infoF
  subst hb
  clear hL
  have HF : Hid (findF L p = some t) := hf
  have hcall := fun (W : World) (hW : Below w.heap.size w W) => l4Find_idx _ c L p W (HL.out.up hW) (by omega)
  obtain ⟨k, hk⟩ : ∃ k, idxF L p = k := ⟨_, rfl⟩
  rw [hk] at hkl HC hcall
  clear hk hf
  go_enter Try.func55, Try.ntmps55
  go_wp2_with (go_at_call 39; refine (hcall _ ((Below.refl _ _).alloc (Nat.le_refl _) _)).mono ?_; rintro e w1 ⟨⟨rfl, hF⟩ | ⟨rfl, hF⟩, rfl⟩; exact absurd (HF.out.symm.trans hF) (by simp); have z2 : ¬ ((k : Nat) : Int) < 0 := by omega)
  have HB1 : Below w.heap.size w (w.alloc (.cells #[.string p, .string ByteArray.empty, .bool true] 43)) := (Below.refl _ _).alloc (Nat.le_refl _) _
  obtain ⟨w1, hw1⟩ : ∃ w1, w1 = w.alloc (.cells #[.string p, .string ByteArray.empty, .bool true] 43) := ⟨_, rfl⟩
  rw [← hw1] at HB1 ⊢
  clear hw1 hF hcall
  have hs1 := HB1.size
  have HR : Hid (RdF w1.heap.size w1 (some ⟨g, 0, none⟩) L) := HL.out.up HB1
  have LT : Hid (k = (L.take k).length) := (show k = (L.take k).length by simp; omega)
  have HN : Hid ((cutF L p).length = k + (L.length - (k + 1))) := (show (cutF L p).length = _ by rw [HC.out, List.length_append, List.length_take, List.length_drop]; omega)
  have HX : Hid (cellsF (L.take k) ++ cellsF (L.drop (k + 1)) = cellsF (cutF L p)) := (show _ = _ by rw [HC.out, cellsF_append])
  have HN2 : Hid ((cutF L p).length = k + (L.length - (k + 1))) := HN
  clear HN
  obtain ⟨m, hm⟩ : ∃ m : Nat, m = k + 1 := ⟨_, rfl⟩
  rw [← hm] at HN2 HX
  have hmI : (k : Int) + 1 = (m : Int) := by omega
  have HM : Hid (m = k + 1) := hm
  have hm5 : m ≤ 500 := by omega
  have hmL : m ≤ L.length := by omega
  have hmc : m ≤ c := by omega
  have hkc : k ≤ c := by omega
  have hkL : k ≤ L.length := by omega
  have HD : Hid (L.length - m = (L.drop m).length) := (show L.length - m = (L.drop m).length by simp)
  have HKL : Hid (k < L.length) := hkl
  clear hm hkl
  have hAB : (0 : Int) ≤ (m : Int) ∧ (m : Int) ≤ (L.length : Int) := by omega
  have hAB1 : (m : Int) ≤ (L.length : Int) := by omega
  have hAB2 : (0 : Int) ≤ (m : Int) := by omega
  have hwm : IntKind.i64.wrap (m : Int) = (m : Int) := by rw [IntKind.wrap_i64]; omega
  by_cases hck : c = m
  · subst hck
    have HR2 : Hid (RdF w1.heap.size w1 (some ⟨g, 0, none⟩) (L.drop c)) := (show RdF _ _ _ _ from fun j hj => by have := HD.out; omega)
    go_region_held_law (fun _ => True) (trivial)
      (first
        | (go_at_call 54; refine (l4Copy_on g 0 _ k (L.take k) w1 _ (by first | exact Below.refl _ _ | exact (Below.refl _ _).drew | exact (Below.refl _ _).alloc (Nat.le_refl _) _ | exact ((Below.refl _ _).alloc (Nat.le_refl _) _).drew) (rdF_take HR.out k) (by have := LT.out; omega) LT.out).mono ?_; rintro e w2 ⟨g5, cap5, rfl, o5, HB5, hb5⟩; have hs5 := HB5.size; clear hb5)
        | (refine step_app2 _ (by rfl) (by rfl) _ _ 23 (by rfl) w1.heap.size 51 i0 (.agg #[.string ByteArray.empty, .string ByteArray.empty]) 2 32 Try.underlying23 hi hz0 hz1 hz2 rfl (by omega) (.slice (some ⟨g5, 0, none⟩) k cap5) k (cellsF (L.take k)) (by rfl) (by exact o5) ⟨g, 0, none⟩ 0 0 (cellsF (L.drop c)) (by rfl) (by have := HD.out; rw [cellsF_length]; omega) (rdF_cells (HR2.out.below HB5 (Nat.le_refl _))) (cellsF_one _) (by simp) (by unfold maxLen; omega) (by omega) (by exact hs5) ?_; intro g6 cap6 w6 o6 gr6; have HB6 : Below w1.heap.size w1 w6 := growOwn HB5 hs5 o5 gr6 (Nat.le_refl _)))
    all_goals
      go_wp2
      go_ret2
      have hl := HN2.out
      have hx := HX.out
      rw [show (cutF L p).length = k + 0 by omega]
      refine ⟨⟨g6, cap6, ?_, by rw [← hx]; exact ownsUpF o6 hs1⟩, HB1.trans (HB6.mono hs1)⟩
      first | rfl | trace_state
  · have hck2 : ¬ ((c : Nat) : Int) = (m : Int) := by omega
    have HR2 : Hid (RdF w1.heap.size w1 (some ⟨g, m * 2, none⟩) (L.drop m)) := (show RdF _ _ _ _ from by have := rdF_drop HR.out m; rwa [Nat.zero_add] at this)
    go_region_held_law (fun _ => True) (trivial)
      (first
        | (go_at_call 54; refine (l4Copy_on g 0 _ k (L.take k) w1 _ (by first | exact Below.refl _ _ | exact (Below.refl _ _).drew | exact (Below.refl _ _).alloc (Nat.le_refl _) _ | exact ((Below.refl _ _).alloc (Nat.le_refl _) _).drew) (rdF_take HR.out k) (by have := LT.out; omega) LT.out).mono ?_; rintro e w2 ⟨g5, cap5, rfl, o5, HB5, hb5⟩; have hs5 := HB5.size; clear hb5)
        | (refine step_app2 _ (by rfl) (by rfl) _ _ 23 (by rfl) w1.heap.size 51 i0 (.agg #[.string ByteArray.empty, .string ByteArray.empty]) 2 32 Try.underlying23 hi hz0 hz1 hz2 rfl (by omega) (.slice (some ⟨g5, 0, none⟩) k cap5) k (cellsF (L.take k)) (by rfl) (by exact o5) ⟨g, m * 2, none⟩ (L.length - m) (c - m) (cellsF (L.drop m)) (by rfl) (by rw [cellsF_length, ← HD.out]) (rdF_cells (HR2.out.below HB5 (Nat.le_refl _))) (cellsF_one _) (by simp) (by unfold maxLen; omega) (by omega) (by exact hs5) ?_; intro g6 cap6 w6 o6 gr6; have HB6 : Below w1.heap.size w1 w6 := growOwn HB5 hs5 o5 gr6 (Nat.le_refl _)))
    all_goals
      go_wp2
      go_ret2
      have hl := HN2.out
      have hx := HX.out
      rw [hl]
      refine ⟨⟨g6, cap6, ?_, by rw [← hx]; exact ownsUpF o6 hs1⟩, HB1.trans (HB6.mono hs1)⟩
      first | rfl | trace_state

set_option maxHeartbeats 4000000 in
set_option maxRecDepth 100000 in
/-- a file that is there has other bytes -/
theorem l4Turn_put (g c : Nat) (L : List TF) (p b : ByteArray) (w : World) (hL : RdF w.heap.size w (some ⟨g, 0, none⟩) L) (hn : L.length ≤ 500) (t : ByteArray) (hf : findF L p = some t) :
    Calls Try.prog 55 #[.slice (some ⟨g, 0, none⟩) L.length c, .agg #[.string p, .string b, .bool false]] w fun e w' => (∃ g' c', e = .returned (.tuple #[.slice (some ⟨g', 0, none⟩) L.length c', .bool true]) ∧ w'.ownsRow w.heap.size 51 2 (.slice (some ⟨g', 0, none⟩) L.length c') L.length (cellsF (putF L p b))) ∧ Below w.heap.size w w' := by
  have HL : Hid (RdF w.heap.size w (some ⟨g, 0, none⟩) L) := hL
  have hkl := idxF_lt L p t hf
  have HP : Hid ((cellsF L).set (idxF L p * 2 + 1) (.string b) = cellsF (putF L p b)) := (show _ = _ by rw [putF_at L p b t hf, cellsF_set1 L _ b hkl, idxF_get L p t hf hkl])
  have HF : Hid (findF L p = some t) := hf
  have hcall := fun (W : World) (hW : Below w.heap.size w W) => l4Find_idx _ c L p W (HL.out.up hW) (by omega)
  obtain ⟨k, hk⟩ : ∃ k, idxF L p = k := ⟨_, rfl⟩
  rw [hk] at hkl HP hcall
  clear hL hk hf
  have hcop := fun (W : World) (hW : Below w.heap.size w W) => l4Copy_some g 0 c L W (HL.out.up hW) (by omega)
  go_enter Try.func55, Try.ntmps55
  go_wp2_with (first
    | (go_at_call 39; refine (hcall _ ((Below.refl _ _).alloc (Nat.le_refl _) _)).mono ?_; rintro e w1 ⟨⟨rfl, hF⟩ | ⟨rfl, hF⟩, rfl⟩; exact absurd (HF.out.symm.trans hF) (by simp); have z2 : (0 : Int) ≤ ((k : Nat) : Int) := Int.natCast_nonneg k; clear hF)
    | (go_at_call 54; refine (hcop _ ((Below.refl _ _).alloc (Nat.le_refl _) _)).mono ?_; rintro e w2 ⟨⟨g5, cap5, rfl, o5⟩, hb2⟩; have HB2 : Below w.heap.size w w2 := ((Below.refl _ _).alloc (Nat.le_refl _) _).trans (hb2.mono (by simp)); have hs2 := HB2.size; have e1 : w2.cell? ⟨w.heap.size, 1, none⟩ = some (.string b) := (hb2.cell (p := ⟨w.heap.size, 1, none⟩) (by simp)).trans (boxCell w _ _ 1 _ rfl); have hf5 := o5.frozenAt (k * 2 + 1); obtain ⟨u5, hu5⟩ := ownsCell o5 (k * 2 + 1) (by omega); have HO : Hid (w2.ownsRow (w.heap.size + 1) 51 2 (.slice (some ⟨g5, 0, none⟩) L.length cap5) L.length (cellsF L)) := (show w2.ownsRow (w.heap.size + 1) 51 2 (.slice (some ⟨g5, 0, none⟩) L.length cap5) L.length (cellsF L) by simpa using o5); clear o5 hb2 hcop))
  go_ret2
  have ho := (HO.out.stored (k * 2 + 1) (.string b)).1
  rw [HP.out] at ho
  have hg5 : w.heap.size ≤ g5 := by
    rcases HO.out.2 with ⟨h1, _⟩ | ⟨_, _, _, h1, h2, _⟩
    · cases h1
    · cases h1; omega
  exact ⟨⟨g5, cap5, rfl, ownsUpF ho (by omega)⟩, HB2.setCell (p := ⟨g5, k * 2 + 1, none⟩) hg5 _⟩

set_option maxHeartbeats 4000000 in
set_option maxRecDepth 100000 in
/-- a file is put among the others -/
theorem l4Turn_ins (g c : Nat) (L : List TF) (p b : ByteArray) (w : World) (hL : RdF w.heap.size w (some ⟨g, 0, none⟩) L) (hn : L.length ≤ 500) (hf : findF L p = none) :
    Calls Try.prog 55 #[.slice (some ⟨g, 0, none⟩) L.length c, .agg #[.string p, .string b, .bool false]] w fun e w' => (∃ g' c', e = .returned (.tuple #[.slice (some ⟨g', 0, none⟩) (L.length + 1) c', .bool true]) ∧ w'.ownsRow w.heap.size 51 2 (.slice (some ⟨g', 0, none⟩) (L.length + 1) c') (L.length + 1) (cellsF (sortF (L ++ [⟨p, b⟩])))) ∧ Below w.heap.size w w' := by
  have HL : Hid (RdF w.heap.size w (some ⟨g, 0, none⟩) L) := hL
  have HF : Hid (findF L p = none) := hf
  have hcall := fun (W : World) (hW : Below w.heap.size w W) => l4Find_idx _ c L p W (HL.out.up hW) (by omega)
  obtain ⟨k, hk⟩ : ∃ k, idxF L p = k := ⟨_, rfl⟩
  rw [hk] at hcall
  obtain ⟨i0, hi, hz0, hz1, hz2⟩ := info_parts infoF
  clear hL hk hf
  go_enter Try.func55, Try.ntmps55
  go_wp2_with (go_at_call 39; refine (hcall _ ((Below.refl _ _).alloc (Nat.le_refl _) _)).mono ?_; rintro e w1 ⟨⟨rfl, hF⟩ | ⟨rfl, ⟨t, hF⟩⟩, rfl⟩; rotate_left; exact absurd (HF.out.symm.trans hF) (by simp); clear hF hcall)
  have HB1 : Below w.heap.size w (w.alloc (.cells #[.string p, .string b, .bool false] 43)) := (Below.refl _ _).alloc (Nat.le_refl _) _
  have c1 : (w.alloc (.cells #[.string p, .string b, .bool false] 43)).cell? ⟨w.heap.size, 0, none⟩ = some (.string p) := boxCell w _ _ 0 _ rfl
  have c2 : (w.alloc (.cells #[.string p, .string b, .bool false] 43)).cell? ⟨w.heap.size, 1, none⟩ = some (.string b) := boxCell w _ _ 1 _ rfl
  have hbl4 : w.heap.size < (w.alloc (.cells #[.string p, .string b, .bool false] 43)).heap.size := by simp
  obtain ⟨w1, hw1⟩ : ∃ w1, w1 = w.alloc (.cells #[.string p, .string b, .bool false] 43) := ⟨_, rfl⟩
  rw [← hw1] at HB1 c1 c2 hbl4 ⊢
  clear hw1
  have hs1 := HB1.size
  have HR : Hid (RdF w1.heap.size w1 (some ⟨g, 0, none⟩) L) := HL.out.up HB1
  go_region_held_law (fun w' => w'.cell? ⟨w.heap.size, 0, none⟩ = some (.string p) ∧ w'.cell? ⟨w.heap.size, 1, none⟩ = some (.string b)) (first | exact ⟨c1, c2⟩ | exact SS7 | exact SS6 | exact SS | exact ⟨(World.cell?_alloc_lt _ _ _ hbl4).trans c1, (World.cell?_alloc_lt _ _ _ hbl4).trans c2⟩ | exact ⟨(World.cell?_alloc_lt _ _ _ hbl5).trans SS.1, (World.cell?_alloc_lt _ _ _ hbl5).trans SS.2⟩ | go_keep)
    (first
      | (go_at_call 54; refine (l4Copy_on g 0 _ L.length L w1 _ (by first | exact Below.refl _ _ | exact (Below.refl _ _).drew | exact (Below.refl _ _).alloc (Nat.le_refl _) _ | exact ((Below.refl _ _).alloc (Nat.le_refl _) _).drew) HR.out (by omega) rfl).mono ?_; rintro e w5 ⟨g5, cap5, rfl, o5, HB5, hb5⟩; have hs5 := HB5.size; have SS : w5.cell? ⟨w.heap.size, 0, none⟩ = some (.string p) ∧ w5.cell? ⟨w.heap.size, 1, none⟩ = some (.string b) := ⟨(HB5.cell (p := ⟨w.heap.size, 0, none⟩) hbl4).trans c1, (HB5.cell (p := ⟨w.heap.size, 1, none⟩) hbl4).trans c2⟩; have hbl5 : w.heap.size < w5.heap.size := Nat.lt_of_lt_of_le hbl4 hs5; (try have HBK := (hb5.block w1.heap.size (by simp)).trans (heap_alloc_new w1 _)); clear hb5)
      | (refine step_app2 _ (by rfl) (by rfl) _ _ 23 (by rfl) w1.heap.size 51 i0 (.agg #[.string ByteArray.empty, .string ByteArray.empty]) 2 32 Try.underlying23 hi hz0 hz1 hz2 rfl (by omega) (.slice (some ⟨g5, 0, none⟩) L.length cap5) L.length (cellsF L) (by rfl) (by first | exact o5 | exact ownsUnder o5 ((Below.refl _ _).alloc (Nat.le_refl _) _) (Nat.le_refl _)) ⟨w5.heap.size, 0, none⟩ 1 1 [.string p, .string b] (by rfl) rfl (World.news_of_block (heap_alloc_new w5 _)) (fun u hu => by simp at hu; rcases hu with rfl | rfl <;> rfl) (by simp) (by unfold maxLen; omega) (by omega) (by first | exact hs5 | (simp; omega)) ?_; intro g6 cap6 w6 o6 gr6; have HB6 : Below w1.heap.size w1 w6 := growOwn (HB5.alloc hs5 (.cells #[.string p, .string b] 51)) (by simp; omega) (ownsUnder o5 ((Below.refl _ _).alloc (Nat.le_refl _) _) (Nat.le_refl _)) gr6 (Nat.le_refl _); have SS6 : w6.cell? ⟨w.heap.size, 0, none⟩ = some (.string p) ∧ w6.cell? ⟨w.heap.size, 1, none⟩ = some (.string b) := ⟨(HB6.cell (p := ⟨w.heap.size, 0, none⟩) hbl4).trans c1, (HB6.cell (p := ⟨w.heap.size, 1, none⟩) hbl4).trans c2⟩)
      | (refine step_app2 _ (by rfl) (by rfl) _ _ 23 (by rfl) w1.heap.size 51 i0 (.agg #[.string ByteArray.empty, .string ByteArray.empty]) 2 32 Try.underlying23 hi hz0 hz1 hz2 rfl (by omega) (.slice (some ⟨g5, 0, none⟩) L.length cap5) L.length (cellsF L) (by rfl) (by exact o5) ⟨w1.heap.size, 0, none⟩ 1 1 [.string p, .string b] (by rfl) rfl (World.news_of_block HBK) (fun u hu => by simp at hu; rcases hu with rfl | rfl <;> rfl) (by simp) (by unfold maxLen; omega) (by omega) (by exact hs5) ?_; intro g6 cap6 w6 o6 gr6; have HB6 : Below w1.heap.size w1 w6 := growOwn HB5 hs5 o5 gr6 (Nat.le_refl _); have SS6 : w6.cell? ⟨w.heap.size, 0, none⟩ = some (.string p) ∧ w6.cell? ⟨w.heap.size, 1, none⟩ = some (.string b) := ⟨(HB6.cell (p := ⟨w.heap.size, 0, none⟩) hbl4).trans c1, (HB6.cell (p := ⟨w.heap.size, 1, none⟩) hbl4).trans c2⟩)
      | (go_at_call 66; refine (sorted_on g6 cap6 (L.length + 1) (L ++ [⟨p, b⟩]) w1 w6 HB6 (by rw [cellsF_snoc]; exact o6) (by simp) (by simp; omega)).mono ?_; rintro e w7 ⟨g7, cap7, rfl, o7, HB7⟩; have SS7 : w7.cell? ⟨w.heap.size, 0, none⟩ = some (.string p) ∧ w7.cell? ⟨w.heap.size, 1, none⟩ = some (.string b) := ⟨(HB7.cell (p := ⟨w.heap.size, 0, none⟩) hbl4).trans c1, (HB7.cell (p := ⟨w.heap.size, 1, none⟩) hbl4).trans c2⟩))
  all_goals
    go_wp2
    go_ret2
    refine ⟨⟨g7, cap7, ?_, ownsUpF o7 hs1⟩, HB1.trans (HB7.mono hs1)⟩
    first | rfl | trace_state
end Go.Proofs.Ytbceegonaomblaa.W
