
/-
  The walks of the specification's l4Sorted and l4Turn: what one edit makes of files that rise. At most 1000 files.
-/
import Derived.Test.YtbceegonaomblaaWalkTurS
import Derived.Test.YtbceegonaomblaaWalkTreG
import Derived.Test.YtbceegonaomblaaMathExt
import Derived.Deep.RegionHeldLaw
import Derived.Deep.AppendLies
namespace Go.Proofs.Ytbceegonaomblaa.W
open Go.RowKit Go.Lib Go.Proofs.Ytbceegonaomblaa.M

section
variable {P : Program} {w : World}
/-- append to a row of one's own, where something is there behind it -/
theorem run_app (t ty : TypeId) (base : Nat) (e : TypeId) (i : TypeInfo) (z : Value) (size bytes : Nat) (ht : P.underlying t = some (.slice e)) (hi : P.info? e = some i) (hz : i.zero = some z)
    (hsize : i.size = size) (hby : i.bytes = bytes) (hzs : z.cells.size = size) (hsz : 0 < size)
    (v : Value) (n : Nat) (xs : List Value) (hown : w.ownsRow base e size v n xs)
    (ad : Addr) (m c : Nat) (news : List Value) (hl : news.length = m * size) (hnews : ∀ j u, news[j]? = some u → w.cell? (ad.add j) = some u) (h1 : ∀ u ∈ news, u.oneCell' = true)
    (hnm : v ≠ .slice none 0 0) (h63 : n + m ≤ maxLen) (hbytes : (n + m) * bytes ≤ 140737488355328) (hbase : base ≤ w.heap.size) :
    ∃ g cap w', (Builtin.append_ #[t, t] ty #[v, .slice (some ad) m c]).run P w = .ok (.slice (some ⟨g, 0, none⟩) (n + m) cap) w' ∧
      w'.ownsRow base e size (.slice (some ⟨g, 0, none⟩) (n + m) cap) (n + m) (xs ++ news) ∧ w.grownBy w' v.ownBlock := by
  obtain ⟨v', w', hr, h2, h3, h4, _⟩ := Go.run_append_own_at (P := P) w base t ty e i z size bytes ht hi hz hsize hby hzs hsz v n xs hown ad m c news hl hnews h1 h63 hbytes hbase
  rcases h2.2 with ⟨h5, _⟩ | ⟨g, cap, cur, rfl, _⟩
  · exact absurd (h4.1 h5).1 hnm
  · exact ⟨g, cap, w', hr, h2, h3⟩
theorem wp_app {o : Oper} {a : Act} {K : Act → World → Prop} {Q : Exit → Act → World → Prop} (s x : Operand) (t : TypeId)
    (ho : o.op = .call { callee := .builtin .append, args := #[s, x], argTypes := #[t, t] })
    (base : Nat) (e : TypeId) (i : TypeInfo) (z : Value) (size bytes : Nat) (ht : P.underlying t = some (.slice e)) (hi : P.info? e = some i) (hz : i.zero = some z)
    (hsize : i.size = size) (hby : i.bytes = bytes) (hzs : z.cells.size = size) (hsz : 0 < size)
    (v : Value) (n : Nat) (xs : List Value) (hs : a.eval s = v) (hown : w.ownsRow base e size v n xs)
    (ad : Addr) (m c : Nat) (news : List Value) (hx : a.eval x = .slice (some ad) m c) (hl : news.length = m * size) (hnews : ∀ j u, news[j]? = some u → w.cell? (ad.add j) = some u) (h1 : ∀ u ∈ news, u.oneCell' = true)
    (hnm : v ≠ .slice none 0 0) (h63 : n + m ≤ maxLen) (hbytes : (n + m) * bytes ≤ 140737488355328) (hbase : base ≤ w.heap.size)
    (h : ∀ g cap w', w'.ownsRow base e size (.slice (some ⟨g, 0, none⟩) (n + m) cap) (n + m) (xs ++ news) → w.grownBy w' v.ownBlock → K (a.put o.dst (.slice (some ⟨g, 0, none⟩) (n + m) cap)) w') : o.wp P a w K Q := by
  obtain ⟨g, cap, w', hr, h2, h3⟩ := run_app (P := P) t o.type base e i z size bytes ht hi hz hsize hby hzs hsz v n xs hown ad m c news hl hnews h1 hnm h63 hbytes hbase
  unfold Oper.wp execOp
  simp only [ho, resolve, invoke, builtin, Sem.run_bind, Sem.run_pure, Result.andThen_ok, List.map_toArray, List.map_cons, List.map_nil, hs, hx, hr]
  exact h g cap w' h2 h3
theorem step_app {ops : Array Oper} {o : Oper} {a : Act} {K : Act → World → Prop} {Q : Exit → Act → World → Prop} {E : Prop} (hgd : o.guard = none) (s x : Operand) (t : TypeId)
    (ho : o.op = .call { callee := .builtin .append, args := #[s, x], argTypes := #[t, t] })
    (base : Nat) (e : TypeId) (i : TypeInfo) (z : Value) (size bytes : Nat) (ht : P.underlying t = some (.slice e)) (hi : P.info? e = some i) (hz : i.zero = some z)
    (hsize : i.size = size) (hby : i.bytes = bytes) (hzs : z.cells.size = size) (hsz : 0 < size)
    (v : Value) (n : Nat) (xs : List Value) (hs : a.eval s = v) (hown : w.ownsRow base e size v n xs)
    (ad : Addr) (m c : Nat) (news : List Value) (hx : a.eval x = .slice (some ad) m c) (hl : news.length = m * size) (hnews : ∀ j u, news[j]? = some u → w.cell? (ad.add j) = some u) (h1 : ∀ u ∈ news, u.oneCell' = true)
    (hnm : v ≠ .slice none 0 0) (h63 : n + m ≤ maxLen) (hbytes : (n + m) * bytes ≤ 140737488355328) (hbase : base ≤ w.heap.size)
    (h : ∀ g cap w', w'.ownsRow base e size (.slice (some ⟨g, 0, none⟩) (n + m) cap) (n + m) (xs ++ news) → w.grownBy w' v.ownBlock → K (a.put o.dst (.slice (some ⟨g, 0, none⟩) (n + m) cap)) w') :
    if Region.wanted o (yielded ops a.tmps) = true then Oper.wp P o a w K Q else E := by
  have hw : Region.wanted o (yielded ops a.tmps) = true := by simp [Region.wanted, hgd]
  rw [if_pos hw]
  exact wp_app s x t ho base e i z size bytes ht hi hz hsize hby hzs hsz v n xs hs hown ad m c news hx hl hnews h1 hnm h63 hbytes hbase h
end

theorem ins_at (M : List TF) (x : TF) (k : Nat) (hk : k ≤ M.length) (h1 : ∀ i (h : i < M.length), i < k → (M[i]).pa.data.toList < x.pa.data.toList) (h2 : ∀ h : k < M.length, ¬ (M[k]).pa.data.toList < x.pa.data.toList) : insF M x = (M.take k ++ [x]) ++ M.drop k := by
  induction M generalizing k with
  | nil => simp at hk; subst hk; rfl
  | cons y l ih =>
    cases k with
    | zero =>
      have := h2 (by simp)
      have h3 : ¬ y.pa.data.toList < x.pa.data.toList := this
      unfold insF
      rw [if_neg h3]; rfl
    | succ k =>
      have h3 : y.pa.data.toList < x.pa.data.toList := h1 0 (by simp) (by omega)
      unfold insF
      rw [if_pos h3, ih k (by simpa using hk) (fun i h hi => h1 (i + 1) (by simpa using h) (by omega)) (fun h => h2 (by simpa using h))]
      rfl
theorem sort_take (L : List TF) (j : Nat) (h : j < L.length) : sortF (L.take (j + 1)) = insF (sortF (L.take j)) L[j] := by
  unfold sortF
  rw [List.take_succ_eq_append_getElem h, List.foldl_append]; rfl
theorem len_sortF (L : List TF) : (sortF L).length = L.length := by
  have : ∀ (L A : List TF), (L.foldl insF A).length = A.length + L.length := by
    intro L
    induction L with
    | nil => intro A; rfl
    | cons x l ih => intro A; rw [List.foldl_cons, ih, len_insF, List.length_cons]; omega
  have := this L []
  simpa [sortF] using this

theorem cellsF_append (A B : List TF) : cellsF (A ++ B) = cellsF A ++ cellsF B := by simp [cellsF]
theorem infoF' : (Try.prog.info? 51).map (fun i => (i.zero, i.size, i.bytes)) = some (some (.agg #[.string ByteArray.empty, .string ByteArray.empty]), 2, 32) := infoF
theorem rdF_take {B : Nat} {w : World} {A : Option Addr} {L : List TF} (h : RdF B w A L) (k : Nat) : RdF B w A (L.take k) := fun j hj => by
  have hj' : j < L.length := by simp at hj; omega
  obtain ⟨b, o, e, hl, c1, c2⟩ := h j hj'
  have e1 : (L.take k)[j] = L[j] := by simp
  rw [e1]
  exact ⟨b, o, e, hl, c1, c2⟩
theorem rdF_drop {B : Nat} {w : World} {b o : Nat} {L : List TF} (h : RdF B w (some ⟨b, o, none⟩) L) (k : Nat) : RdF B w (some ⟨b, o + k * 2, none⟩) (L.drop k) := fun j hj => by
  have hj' : k + j < L.length := by simp at hj; omega
  obtain ⟨b', o', e, hl, c1, c2⟩ := h (k + j) hj'
  simp only [Option.some.injEq, Addr.mk.injEq] at e
  obtain ⟨rfl, rfl, _⟩ := e
  have e1 : (L.drop k)[j] = L[k + j] := by simp
  rw [e1]
  refine ⟨b, o + k * 2, rfl, hl, ?_, ?_⟩
  · rw [show o + k * 2 + j * 2 = o + (k + j) * 2 by omega]; exact c1
  · rw [show o + k * 2 + j * 2 + 1 = o + (k + j) * 2 + 1 by omega]; exact c2

theorem ownsCap {w : World} {base : Nat} {e : TypeId} {z : Nat} {g : Nat} {n cap : Nat} {xs : List Value} (h : w.ownsRow base e z (.slice (some ⟨g, 0, none⟩) n cap) n xs) : n ≤ cap := by
  rcases h.2 with ⟨h1, _⟩ | ⟨_, _, _, h1, _, _, h2, _⟩
  · cases h1
  · cases h1; exact h2
/-- l4Copy at whatever address -/
theorem l4Copy_at (b o c n : Nat) (L : List TF) (w : World) (hL : RdF w.heap.size w (some ⟨b, o, none⟩) L) (hn : L.length ≤ 1048576) (e : n = L.length) :
    Calls Try.prog 54 #[.slice (some ⟨b, o, none⟩) n c] w fun e w' => (∃ g cap, e = .returned (.slice (some ⟨g, 0, none⟩) n cap) ∧ w'.ownsRow w.heap.size 51 2 (.slice (some ⟨g, 0, none⟩) n cap) n (cellsF L)) ∧ Below w.heap.size w w' := by
  subst e; exact l4Copy_some b o c L w hL hn
theorem ownsUpF {w : World} {base base' n z : Nat} {e : TypeId} {v : Value} {xs : List Value} (h : w.ownsRow base e z v n xs) (hb : base' ≤ base) : w.ownsRow base' e z v n xs := by
  refine ⟨h.1, ?_⟩
  rcases h.2 with h1 | ⟨g, cap, cur, h1, h2, h3⟩
  · exact .inl h1
  · exact .inr ⟨g, cap, cur, h1, by omega, h3⟩
theorem newsOwn {w w' : World} {base : Nat} {e : TypeId} {z g n cap : Nat} {xs : List Value} (h : w.ownsRow base e z (.slice (some ⟨g, 0, none⟩) n cap) n xs) (hb : Below w.heap.size w w') : ∀ j u, xs[j]? = some u → w'.cell? ((⟨g, 0, none⟩ : Addr).add j) = some u := by
  intro j u hu
  have h' := ownsUnder h hb (Nat.le_refl _)
  have hj : j < xs.length := (List.getElem?_eq_some_iff.1 hu).1
  have := h'.cellAt j (by rw [← h'.1]; exact hj)
  rw [hu] at this
  have ea : (⟨g, 0, none⟩ : Addr).add j = ⟨g, j, none⟩ := by unfold Addr.add; split <;> simp_all
  rw [ea]; exact this
/-- a copy that is made somewhere behind a world: told of that world -/
theorem l4Copy_on (b o c n : Nat) (L : List TF) (v W : World) (HB : Below v.heap.size v W) (hL : RdF v.heap.size v (some ⟨b, o, none⟩) L) (hn : L.length ≤ 1048576) (e : n = L.length) :
    Calls Try.prog 54 #[.slice (some ⟨b, o, none⟩) n c] W fun e w' => ∃ g cap, e = .returned (.slice (some ⟨g, 0, none⟩) n cap) ∧ w'.ownsRow v.heap.size 51 2 (.slice (some ⟨g, 0, none⟩) n cap) n (cellsF L) ∧ Below v.heap.size v w' ∧ Below W.heap.size W w' := by
  refine (l4Copy_at b o c n L W (hL.up HB) hn e).mono ?_
  rintro e w' ⟨⟨g, cap, rfl, h⟩, hb⟩
  exact ⟨g, cap, rfl, ownsUpF h HB.size, HB.trans (hb.mono HB.size), hb⟩
set_option maxHeartbeats 4000000 in
set_option maxRecDepth 100000 in
theorem l4Sorted_own (b o c : Nat) (L : List TF) (w : World) (hL : RdF w.heap.size w (some ⟨b, o, none⟩) L) (hn : L.length ≤ 1000) :
    Calls Try.prog 66 #[.slice (some ⟨b, o, none⟩) L.length c] w fun e w' => (∃ g c', e = .returned (.slice (some ⟨g, 0, none⟩) L.length c') ∧ w'.ownsRow w.heap.size 51 2 (.slice (some ⟨g, 0, none⟩) L.length c') L.length (cellsF (sortF L))) ∧ Below w.heap.size w w' := by
  have HL : Hid (RdF w.heap.size w (some ⟨b, o, none⟩) L) := hL
  clear hL
  obtain ⟨i0, hi, hz0, hz1, hz2⟩ := info_parts infoF
  go_enter Try.func66, Try.ntmps66
  go_wp2
  go_loopw [3, 4] (fun vo iv wr => ∃ (j g cap : Nat) (M : List TF), j ≤ L.length ∧ iv = .int .i64 j ∧ vo = .slice (some ⟨g, 0, none⟩) M.length cap ∧ M.length = j ∧ Hid (M = sortF (L.take j)) ∧ wr.ownsRow w.heap.size 51 2 vo M.length (cellsF M) ∧ Below w.heap.size w wr) (fun _ i _ => L.length - (RowKit.intOf i).toNat)
  case atStart => exact ⟨0, w.heap.size, 0, [], Nat.zero_le _, rfl, rfl, rfl, (show ([] : List TF) = sortF (L.take 0) from rfl), World.ownsRow_lit w #[] 0 (Nat.le_refl _) (by unfold maxLen; omega) rfl, (Below.refl _ _).alloc (Nat.le_refl _) _⟩
  case round =>
    obtain ⟨j, g, cap, M, hj, rfl, rfl, hM, HM, hown, hb⟩ := hrel
    have hsz := hb.size
    by_cases hlt : j < L.length
    · obtain ⟨b', o', e', hbl, c1, c2⟩ := (HL.out.below hb (Nat.le_refl _)) j hlt
      simp only [Option.some.injEq, Addr.mk.injEq] at e'
      obtain ⟨rfl, rfl, _⟩ := e'
      obtain ⟨x, hx⟩ : ∃ x, L[j] = x := ⟨_, rfl⟩
      have HX : Hid (L[j] = x) := hx
      rw [hx] at c1 c2
      clear hx
      obtain ⟨A9, c9, e9, HR⟩ := rdF_of_own hown
      have HRd : Hid (RdF wr.heap.size wr (some ⟨g, 0, none⟩) M) := by cases e9; exact HR
      clear HR e9
      obtain ⟨w1, hw1⟩ : ∃ w1, w1 = wr := ⟨_, rfl⟩
      subst hw1
      have HM2 : Hid (M.length = j) := hM
      have hM1 : M.length ≤ 1000 := by omega
      have hcp : M.length ≤ cap := ownsCap hown
      clear hM
      go_wp2
      go_loopw [5] (fun kv w2 => ∃ k : Nat, k ≤ M.length ∧ kv = .int .i64 k ∧ Hid (∀ i (h : i < M.length), i < k → (M[i]).pa.data.toList < x.pa.data.toList) ∧ Below w1.heap.size w1 w2) (fun k _ => M.length - (RowKit.intOf k).toNat)
      case atStart => exact ⟨0, Nat.zero_le _, rfl, (show ∀ i (h : i < M.length), i < 0 → _ from fun i h hi => absurd hi (Nat.not_lt_zero _)), Below.refl _ _⟩
      case round =>
        obtain ⟨k, hk, rfl, HK, hbk⟩ := hrel
        have hszk := hbk.size
        have hne : Nonempty (Ext wr) := ⟨⟨wr, Below.refl _ _⟩⟩
        have x2 : ∀ z : Ext wr, z.world.cell? ⟨b, o + j * 2, none⟩ = some (.string x.pa) := fun z => z.cell ((hbk.cell (p := ⟨b, o + j * 2, none⟩) (by show b < _; omega)).trans c1)
        by_cases hkl : k < M.length
        · obtain ⟨b9, o9, e9, hbl9, d1, d2⟩ := HRd.out k hkl
          simp only [Option.some.injEq, Addr.mk.injEq] at e9
          obtain ⟨rfl, rfl, _⟩ := e9
          obtain ⟨y, hy⟩ : ∃ y, M[k] = y := ⟨_, rfl⟩
          have HY : Hid (M[k] = y) := hy
          rw [hy] at d1 d2
          clear hy
          have g1 : decide (k < M.length) = true := by simpa using hkl
          have x1 : ∀ z : Ext wr, z.world.cell? ⟨g, k * 2, none⟩ = some (.string y.pa) := fun z => z.cell ((hbk.cell (p := ⟨g, k * 2, none⟩) hbl9).trans (by simpa using d1))
          have x3 : ∀ z : Ext wr, z.world.cell? ⟨g, 0 + k * 2, none⟩ = some (.string y.pa) := fun z => z.cell ((hbk.cell (p := ⟨g, 0 + k * 2, none⟩) hbl9).trans d1)
          by_cases hlss : y.pa.data.toList < x.pa.data.toList
          · have f2 : Op.bytesLess y.pa.toList x.pa.toList = true := by rw [Lib.toList_data, Lib.toList_data, bl_lt]; simpa using hlss
            have HK2 : Hid (∀ i (h : i < M.length), i < k + 1 → (M[i]).pa.data.toList < x.pa.data.toList) := (show ∀ i (h : i < M.length), i < k + 1 → (M[i]).pa.data.toList < x.pa.data.toList from fun i h hi => by
              by_cases hik : i < k
              · exact HK.out i h hik
              · obtain rfl : i = k := by omega
                rw [HY.out]; exact hlss)
            clear hlss
            go_wp2
            refine region_ext (by kernel_rfl) (by kernel_rfl) ?_
            repeat (go_big_quiet_step (fail))
            refine wpQuiet_nil ?_
            rintro _ ⟨z, rfl⟩
            have hbz := z.below
            go_wp2
            go_roundw
            case rel => exact ⟨k + 1, by omega, by go_num, HK2, hbk.trans (hbz.mono (by omega))⟩
            case measure => simp [RowKit.intOf]; omega
          · have f2 : Op.bytesLess y.pa.toList x.pa.toList = false := by rw [Lib.toList_data, Lib.toList_data, bl_lt]; simpa using hlss
            have HI : Hid (insF M x = (M.take k ++ [x]) ++ M.drop k) := ins_at M x k hk HK.out (fun h => by rw [HY.out]; exact hlss)
            clear hlss
            go_wp2
            refine region_ext (by kernel_rfl) (by kernel_rfl) ?_
            repeat (go_big_quiet_step (fail))
            refine wpQuiet_nil ?_
            rintro _ ⟨z, rfl⟩
            have hbz := z.below
            clear x1 x2 x3 f2
            obtain ⟨w3, hw3⟩ : ∃ w3, w3 = z.world := ⟨_, rfl⟩
            rw [← hw3] at hbz ⊢
            clear hw3
            have hb3 : Below w1.heap.size w1 w3 := hbk.trans (hbz.mono (by omega))
            have hs3 := hb3.size
            have HR3 : Hid (RdF w3.heap.size w3 (some ⟨g, 0, none⟩) M) := (HRd.out.below hb3 (Nat.le_refl _)).mono hs3
            clear hbz hbk hszk HK hne
            have C1 : Hid (w3.cell? ⟨b, o + j * 2, none⟩ = some (.string x.pa)) := (hb3.cell (p := ⟨b, o + j * 2, none⟩) (by show b < _; omega)).trans c1
            have C2 : Hid (w3.cell? ⟨b, o + j * 2 + 1, none⟩ = some (.string x.by_)) := (hb3.cell (p := ⟨b, o + j * 2 + 1, none⟩) (by show b < _; omega)).trans c2
            clear c1 c2
            have hbl3 : b < w3.heap.size := by omega
            have LD : Hid (M.length - k = (M.drop k).length) := (show M.length - k = (M.drop k).length by simp)
            have LT : Hid (k = (M.take k).length) := (show k = (M.take k).length by simp; omega)
            by_cases hck : k = cap
            · exact absurd hck (by omega)
            · have hck2 : ¬ ((cap : Nat) : Int) = k := by omega
              go_wp2_with (go_at_call 54; refine (l4Copy_at g (k * 2) (cap - k) (M.length - k) (M.drop k) w3 (by have := rdF_drop HR3.out k; rwa [Nat.zero_add] at this) (by have := LD.out; omega) LD.out).mono ?_; rintro e w4 ⟨⟨g4, cap4, rfl, o4⟩, hb4⟩)
              have hs4 := hb4.size
              have c1 : w4.cell? ⟨b, o + j * 2, none⟩ = some (.string x.pa) := (hb4.cell (p := ⟨b, o + j * 2, none⟩) hbl3).trans C1.out
              have c2 : w4.cell? ⟨b, o + j * 2 + 1, none⟩ = some (.string x.by_) := (hb4.cell (p := ⟨b, o + j * 2 + 1, none⟩) hbl3).trans C2.out
              have hbl4 : b < w4.heap.size := by omega
              have HR4 : Hid (RdF w4.heap.size w4 (some ⟨g, 0, none⟩) (M.take k)) := rdF_take (HR3.out.up hb4) k
              have O4 : Hid (w4.ownsRow w3.heap.size 51 2 (.slice (some ⟨g4, 0, none⟩) (M.length - k) cap4) (M.length - k) (cellsF (M.drop k))) := o4
              clear o4
              go_region_held_law (fun w' => w'.cell? ⟨b, o + j * 2, none⟩ = some (.string x.pa) ∧ w'.cell? ⟨b, o + j * 2 + 1, none⟩ = some (.string x.by_)) (first | exact ⟨c1, c2⟩ | exact SS7 | exact SS6 | exact SS | exact ⟨(World.cell?_alloc_lt _ _ _ hbl4).trans c1, (World.cell?_alloc_lt _ _ _ hbl4).trans c2⟩ | exact ⟨(World.cell?_alloc_lt _ _ _ hbl5).trans SS.1, (World.cell?_alloc_lt _ _ _ hbl5).trans SS.2⟩ | go_keep)
                (first
                  | (go_at_call 54; refine (l4Copy_on g 0 cap k (M.take k) w4 _ (by first | exact Below.refl _ _ | exact (Below.refl _ _).drew | exact (Below.refl _ _).alloc (Nat.le_refl _) _ | exact ((Below.refl _ _).alloc (Nat.le_refl _) _).drew) HR4.out (by have := LT.out; omega) LT.out).mono ?_; rintro e w5 ⟨g5, cap5, rfl, o5, HB5, hb5⟩; have hs5 := HB5.size; have SS : w5.cell? ⟨b, o + j * 2, none⟩ = some (.string x.pa) ∧ w5.cell? ⟨b, o + j * 2 + 1, none⟩ = some (.string x.by_) := ⟨(HB5.cell (p := ⟨b, o + j * 2, none⟩) hbl4).trans c1, (HB5.cell (p := ⟨b, o + j * 2 + 1, none⟩) hbl4).trans c2⟩; have hbl5 : b < w5.heap.size := Nat.lt_of_lt_of_le hbl4 hs5; (try have HBK := (hb5.block w4.heap.size (by simp)).trans (heap_alloc_new w4 _)); clear hb5)
                  | (refine step_app (by rfl) _ _ 23 (by rfl) w4.heap.size 51 i0 (.agg #[.string ByteArray.empty, .string ByteArray.empty]) 2 32 Try.underlying23 hi hz0 hz1 hz2 rfl (by omega) (.slice (some ⟨g5, 0, none⟩) k cap5) k (cellsF (M.take k)) (by rfl) (by first | exact o5 | exact ownsUnder o5 ((Below.refl _ _).alloc (Nat.le_refl _) _) (Nat.le_refl _) | exact ownsUnder o5 (((Below.refl _ _).alloc (Nat.le_refl _) _).drew) (Nat.le_refl _)) ⟨w5.heap.size, 0, none⟩ 1 1 [.string x.pa, .string x.by_] (by rfl) rfl (World.news_of_block (heap_alloc_new w5 _)) (fun u hu => by simp at hu; rcases hu with rfl | rfl <;> rfl) (by simp) (by unfold maxLen; omega) (by omega) (by first | exact hs5 | (simp; omega)) ?_; intro g6 cap6 w6 o6 gr6; have HB6 : Below w4.heap.size w4 w6 := (by first | exact growOwn (HB5.alloc hs5 (.cells #[.string x.pa, .string x.by_] 51)) (by simp; omega) (ownsUnder o5 ((Below.refl _ _).alloc (Nat.le_refl _) _) (Nat.le_refl _)) gr6 (Nat.le_refl _) | exact growOwn ((HB5.alloc hs5 (.cells #[.string x.pa, .string x.by_] 51)).drew) (by simp; omega) (ownsUnder o5 (((Below.refl _ _).alloc (Nat.le_refl _) _).drew) (Nat.le_refl _)) gr6 (Nat.le_refl _)); have SS6 : w6.cell? ⟨b, o + j * 2, none⟩ = some (.string x.pa) ∧ w6.cell? ⟨b, o + j * 2 + 1, none⟩ = some (.string x.by_) := ⟨(HB6.cell (p := ⟨b, o + j * 2, none⟩) hbl4).trans c1, (HB6.cell (p := ⟨b, o + j * 2 + 1, none⟩) hbl4).trans c2⟩)
                  | (refine step_app (by rfl) _ _ 23 (by rfl) w4.heap.size 51 i0 (.agg #[.string ByteArray.empty, .string ByteArray.empty]) 2 32 Try.underlying23 hi hz0 hz1 hz2 rfl (by omega) (.slice (some ⟨g5, 0, none⟩) k cap5) k (cellsF (M.take k)) (by rfl) (by exact o5) ⟨w4.heap.size, 0, none⟩ 1 1 [.string x.pa, .string x.by_] (by rfl) rfl (World.news_of_block HBK) (fun u hu => by simp at hu; rcases hu with rfl | rfl <;> rfl) (by simp) (by unfold maxLen; omega) (by omega) (by first | exact hs5 | (simp; omega)) ?_; intro g6 cap6 w6 o6 gr6; have HB6 : Below w4.heap.size w4 w6 := (by first | exact growOwn HB5 hs5 o5 gr6 (Nat.le_refl _) | exact growOwn HB5.drew (by simp; omega) (ownsUnder o5 ((Below.refl _ _).drew) (Nat.le_refl _)) gr6 (Nat.le_refl _)); have SS6 : w6.cell? ⟨b, o + j * 2, none⟩ = some (.string x.pa) ∧ w6.cell? ⟨b, o + j * 2 + 1, none⟩ = some (.string x.by_) := ⟨(HB6.cell (p := ⟨b, o + j * 2, none⟩) hbl4).trans c1, (HB6.cell (p := ⟨b, o + j * 2 + 1, none⟩) hbl4).trans c2⟩)
                  | (refine step_app (by rfl) _ _ 23 (by rfl) w4.heap.size 51 i0 (.agg #[.string ByteArray.empty, .string ByteArray.empty]) 2 32 Try.underlying23 hi hz0 hz1 hz2 rfl (by omega) (.slice (some ⟨g6, 0, none⟩) (k + 1) cap6) (k + 1) (cellsF (M.take k) ++ [.string x.pa, .string x.by_]) (by rfl) (by exact o6) ⟨g4, 0, none⟩ (M.length - k) cap4 (cellsF (M.drop k)) (by rfl) (by rw [cellsF_length]; have := LD.out; omega) (newsOwn O4.out HB6) (cellsF_one _) (by simp) (by unfold maxLen; omega) (by omega) (by first | exact HB6.size | (have := HB6.size; simp; omega)) ?_; intro g7 cap7 w7 o7 gr7; have HB7 : Below w4.heap.size w4 w7 := (by first | exact growOwn HB6 HB6.size o6 gr7 (Nat.le_refl _) | exact growOwn HB6.drew (by have := HB6.size; simp; omega) (ownsUnder o6 ((Below.refl _ _).drew) (Nat.le_refl _)) gr7 (Nat.le_refl _)); have SS7 : w7.cell? ⟨b, o + j * 2, none⟩ = some (.string x.pa) ∧ w7.cell? ⟨b, o + j * 2 + 1, none⟩ = some (.string x.by_) := ⟨(HB7.cell (p := ⟨b, o + j * 2, none⟩) hbl4).trans c1, (HB7.cell (p := ⟨b, o + j * 2 + 1, none⟩) hbl4).trans c2⟩))
              all_goals
                go_wp2
                go_roundw
                case rel =>
                  have hMl := HM2.out
                  have eM : insF M x = (M.take k ++ [x]) ++ M.drop k := HI.out
                  have eC : cellsF (M.take k) ++ [.string x.pa, .string x.by_] ++ cellsF (M.drop k) = cellsF (insF M x) := by rw [eM, cellsF_append, cellsF_append]; rfl
                  have hl7 : k + 1 + (M.length - k) = (insF M x).length := by rw [len_insF]; omega
                  refine ⟨j + 1, g7, cap7, insF M x, by omega, by go_num, by rw [← hl7], by rw [len_insF]; omega, ?_, ?_, (hb.trans (hb3.mono hsz)).trans ((hb4.trans (HB7.mono hs4)).mono (by omega))⟩
                  · show insF M x = sortF (L.take (j + 1))
                    rw [sort_take L j hlt, ← HM.out, HX.out]
                  · rw [← hl7, ← eC]
                    exact ownsUpF o7 (by omega)
                case measure => simp [RowKit.intOf]; omega
        · have g1 : decide (k < M.length) = false := by simpa using hkl
          have HkM : Hid (k = M.length) := (show k = M.length by omega)
          have HI : Hid (insF M x = (M.take k ++ [x]) ++ M.drop k) := ins_at M x k hk HK.out (fun h => absurd h hkl)
          go_wp2
          refine region_ext (by kernel_rfl) (by kernel_rfl) ?_
          repeat (go_big_quiet_step (fail))
          refine wpQuiet_nil ?_
          rintro _ ⟨z, rfl⟩
          have hbz := z.below
          clear x2 g1
          obtain ⟨w3, hw3⟩ : ∃ w3, w3 = z.world := ⟨_, rfl⟩
          rw [← hw3] at hbz ⊢
          clear hw3
          have hb3 : Below w1.heap.size w1 w3 := hbk.trans (hbz.mono (by omega))
          have hs3 := hb3.size
          have HR3 : Hid (RdF w3.heap.size w3 (some ⟨g, 0, none⟩) M) := (HRd.out.below hb3 (Nat.le_refl _)).mono hs3
          clear hbz hbk hszk HK hne
          have C1 : Hid (w3.cell? ⟨b, o + j * 2, none⟩ = some (.string x.pa)) := (hb3.cell (p := ⟨b, o + j * 2, none⟩) (by show b < _; omega)).trans c1
          have C2 : Hid (w3.cell? ⟨b, o + j * 2 + 1, none⟩ = some (.string x.by_)) := (hb3.cell (p := ⟨b, o + j * 2 + 1, none⟩) (by show b < _; omega)).trans c2
          clear c1 c2
          have hbl3 : b < w3.heap.size := by omega
          have LD : Hid (M.length - k = (M.drop k).length) := (show M.length - k = (M.drop k).length by simp)
          have LT : Hid (k = (M.take k).length) := (show k = (M.take k).length by simp; omega)
          by_cases hck : k = cap
          · have hck2 : ((cap : Nat) : Int) = k := by omega
            have LD0 : Hid (0 = (M.drop k).length) := (show 0 = (M.drop k).length by have := HkM.out; simp; omega)
            go_wp2_with (go_at_call 54; refine (l4Copy_at g 0 0 0 (M.drop k) w3 (fun j hj => by have := LD0.out; omega) (by have := LD0.out; omega) LD0.out).mono ?_; rintro e w4 ⟨⟨g4, cap4, rfl, o4⟩, hb4⟩)
            have HCK : Hid (k = cap) := hck
            clear hck hck2
            have hs4 := hb4.size
            have c1 : w4.cell? ⟨b, o + j * 2, none⟩ = some (.string x.pa) := (hb4.cell (p := ⟨b, o + j * 2, none⟩) hbl3).trans C1.out
            have c2 : w4.cell? ⟨b, o + j * 2 + 1, none⟩ = some (.string x.by_) := (hb4.cell (p := ⟨b, o + j * 2 + 1, none⟩) hbl3).trans C2.out
            have hbl4 : b < w4.heap.size := by omega
            have HR4 : Hid (RdF w4.heap.size w4 (some ⟨g, 0, none⟩) (M.take k)) := rdF_take (HR3.out.up hb4) k
            have O4 : Hid (w4.ownsRow w3.heap.size 51 2 (.slice (some ⟨g4, 0, none⟩) 0 cap4) 0 (cellsF (M.drop k))) := o4
            clear o4
            go_region_held_law (fun w' => w'.cell? ⟨b, o + j * 2, none⟩ = some (.string x.pa) ∧ w'.cell? ⟨b, o + j * 2 + 1, none⟩ = some (.string x.by_)) (first | exact ⟨c1, c2⟩ | exact SS7 | exact SS6 | exact SS | exact ⟨(World.cell?_alloc_lt _ _ _ hbl4).trans c1, (World.cell?_alloc_lt _ _ _ hbl4).trans c2⟩ | exact ⟨(World.cell?_alloc_lt _ _ _ hbl5).trans SS.1, (World.cell?_alloc_lt _ _ _ hbl5).trans SS.2⟩ | go_keep)
              (first
                | (go_at_call 54; refine (l4Copy_on g 0 cap k (M.take k) w4 _ (by first | exact Below.refl _ _ | exact (Below.refl _ _).drew | exact (Below.refl _ _).alloc (Nat.le_refl _) _ | exact ((Below.refl _ _).alloc (Nat.le_refl _) _).drew) HR4.out (by have := LT.out; omega) LT.out).mono ?_; rintro e w5 ⟨g5, cap5, rfl, o5, HB5, hb5⟩; have hs5 := HB5.size; have SS : w5.cell? ⟨b, o + j * 2, none⟩ = some (.string x.pa) ∧ w5.cell? ⟨b, o + j * 2 + 1, none⟩ = some (.string x.by_) := ⟨(HB5.cell (p := ⟨b, o + j * 2, none⟩) hbl4).trans c1, (HB5.cell (p := ⟨b, o + j * 2 + 1, none⟩) hbl4).trans c2⟩; have hbl5 : b < w5.heap.size := Nat.lt_of_lt_of_le hbl4 hs5; (try have HBK := (hb5.block w4.heap.size (by simp)).trans (heap_alloc_new w4 _)); clear hb5)
                | (refine step_app (by rfl) _ _ 23 (by rfl) w4.heap.size 51 i0 (.agg #[.string ByteArray.empty, .string ByteArray.empty]) 2 32 Try.underlying23 hi hz0 hz1 hz2 rfl (by omega) (.slice (some ⟨g5, 0, none⟩) k cap5) k (cellsF (M.take k)) (by rfl) (by first | exact o5 | exact ownsUnder o5 ((Below.refl _ _).alloc (Nat.le_refl _) _) (Nat.le_refl _) | exact ownsUnder o5 (((Below.refl _ _).alloc (Nat.le_refl _) _).drew) (Nat.le_refl _)) ⟨w5.heap.size, 0, none⟩ 1 1 [.string x.pa, .string x.by_] (by rfl) rfl (World.news_of_block (heap_alloc_new w5 _)) (fun u hu => by simp at hu; rcases hu with rfl | rfl <;> rfl) (by simp) (by unfold maxLen; omega) (by omega) (by first | exact hs5 | (simp; omega)) ?_; intro g6 cap6 w6 o6 gr6; have HB6 : Below w4.heap.size w4 w6 := (by first | exact growOwn (HB5.alloc hs5 (.cells #[.string x.pa, .string x.by_] 51)) (by simp; omega) (ownsUnder o5 ((Below.refl _ _).alloc (Nat.le_refl _) _) (Nat.le_refl _)) gr6 (Nat.le_refl _) | exact growOwn ((HB5.alloc hs5 (.cells #[.string x.pa, .string x.by_] 51)).drew) (by simp; omega) (ownsUnder o5 (((Below.refl _ _).alloc (Nat.le_refl _) _).drew) (Nat.le_refl _)) gr6 (Nat.le_refl _)); have SS6 : w6.cell? ⟨b, o + j * 2, none⟩ = some (.string x.pa) ∧ w6.cell? ⟨b, o + j * 2 + 1, none⟩ = some (.string x.by_) := ⟨(HB6.cell (p := ⟨b, o + j * 2, none⟩) hbl4).trans c1, (HB6.cell (p := ⟨b, o + j * 2 + 1, none⟩) hbl4).trans c2⟩)
                | (refine step_app (by rfl) _ _ 23 (by rfl) w4.heap.size 51 i0 (.agg #[.string ByteArray.empty, .string ByteArray.empty]) 2 32 Try.underlying23 hi hz0 hz1 hz2 rfl (by omega) (.slice (some ⟨g5, 0, none⟩) k cap5) k (cellsF (M.take k)) (by rfl) (by exact o5) ⟨w4.heap.size, 0, none⟩ 1 1 [.string x.pa, .string x.by_] (by rfl) rfl (World.news_of_block HBK) (fun u hu => by simp at hu; rcases hu with rfl | rfl <;> rfl) (by simp) (by unfold maxLen; omega) (by omega) (by first | exact hs5 | (simp; omega)) ?_; intro g6 cap6 w6 o6 gr6; have HB6 : Below w4.heap.size w4 w6 := (by first | exact growOwn HB5 hs5 o5 gr6 (Nat.le_refl _) | exact growOwn HB5.drew (by simp; omega) (ownsUnder o5 ((Below.refl _ _).drew) (Nat.le_refl _)) gr6 (Nat.le_refl _)); have SS6 : w6.cell? ⟨b, o + j * 2, none⟩ = some (.string x.pa) ∧ w6.cell? ⟨b, o + j * 2 + 1, none⟩ = some (.string x.by_) := ⟨(HB6.cell (p := ⟨b, o + j * 2, none⟩) hbl4).trans c1, (HB6.cell (p := ⟨b, o + j * 2 + 1, none⟩) hbl4).trans c2⟩)
                | (refine step_app (by rfl) _ _ 23 (by rfl) w4.heap.size 51 i0 (.agg #[.string ByteArray.empty, .string ByteArray.empty]) 2 32 Try.underlying23 hi hz0 hz1 hz2 rfl (by omega) (.slice (some ⟨g6, 0, none⟩) (k + 1) cap6) (k + 1) (cellsF (M.take k) ++ [.string x.pa, .string x.by_]) (by rfl) (by exact o6) ⟨g4, 0, none⟩ 0 cap4 (cellsF (M.drop k)) (by rfl) (by rw [cellsF_length]; have := LD0.out; omega) (newsOwn O4.out HB6) (cellsF_one _) (by simp) (by unfold maxLen; omega) (by omega) (by first | exact HB6.size | (have := HB6.size; simp; omega)) ?_; intro g7 cap7 w7 o7 gr7; have HB7 : Below w4.heap.size w4 w7 := (by first | exact growOwn HB6 HB6.size o6 gr7 (Nat.le_refl _) | exact growOwn HB6.drew (by have := HB6.size; simp; omega) (ownsUnder o6 ((Below.refl _ _).drew) (Nat.le_refl _)) gr7 (Nat.le_refl _)); have SS7 : w7.cell? ⟨b, o + j * 2, none⟩ = some (.string x.pa) ∧ w7.cell? ⟨b, o + j * 2 + 1, none⟩ = some (.string x.by_) := ⟨(HB7.cell (p := ⟨b, o + j * 2, none⟩) hbl4).trans c1, (HB7.cell (p := ⟨b, o + j * 2 + 1, none⟩) hbl4).trans c2⟩))
            all_goals
              go_wp2
              go_roundw
              case rel =>
                have hMl := HM2.out
                have hkM := HkM.out
                have eM : insF M x = (M.take k ++ [x]) ++ M.drop k := HI.out
                have eC : cellsF (M.take k) ++ [.string x.pa, .string x.by_] ++ cellsF (M.drop k) = cellsF (insF M x) := by rw [eM, cellsF_append, cellsF_append]; rfl
                have hl7 : k + 1 + 0 = (insF M x).length := by rw [len_insF]; omega
                refine ⟨j + 1, g7, cap7, insF M x, by omega, by go_num, by rw [← hl7], by rw [len_insF]; omega, ?_, ?_, (hb.trans (hb3.mono hsz)).trans ((hb4.trans (HB7.mono hs4)).mono (by omega))⟩
                · show insF M x = sortF (L.take (j + 1))
                  rw [sort_take L j hlt, ← HM.out, HX.out]
                · rw [← hl7, ← eC]
                  exact ownsUpF o7 (by omega)
              case measure => simp [RowKit.intOf]; omega
          · have hck2 : ¬ ((cap : Nat) : Int) = k := by omega
            go_wp2_with (go_at_call 54; refine (l4Copy_at g (k * 2) (cap - k) (M.length - k) (M.drop k) w3 (by have := rdF_drop HR3.out k; rwa [Nat.zero_add] at this) (by have := LD.out; omega) LD.out).mono ?_; rintro e w4 ⟨⟨g4, cap4, rfl, o4⟩, hb4⟩)
            have hs4 := hb4.size
            have c1 : w4.cell? ⟨b, o + j * 2, none⟩ = some (.string x.pa) := (hb4.cell (p := ⟨b, o + j * 2, none⟩) hbl3).trans C1.out
            have c2 : w4.cell? ⟨b, o + j * 2 + 1, none⟩ = some (.string x.by_) := (hb4.cell (p := ⟨b, o + j * 2 + 1, none⟩) hbl3).trans C2.out
            have hbl4 : b < w4.heap.size := by omega
            have HR4 : Hid (RdF w4.heap.size w4 (some ⟨g, 0, none⟩) (M.take k)) := rdF_take (HR3.out.up hb4) k
            have O4 : Hid (w4.ownsRow w3.heap.size 51 2 (.slice (some ⟨g4, 0, none⟩) (M.length - k) cap4) (M.length - k) (cellsF (M.drop k))) := o4
            clear o4
            go_region_held_law (fun w' => w'.cell? ⟨b, o + j * 2, none⟩ = some (.string x.pa) ∧ w'.cell? ⟨b, o + j * 2 + 1, none⟩ = some (.string x.by_)) (first | exact ⟨c1, c2⟩ | exact SS7 | exact SS6 | exact SS | exact ⟨(World.cell?_alloc_lt _ _ _ hbl4).trans c1, (World.cell?_alloc_lt _ _ _ hbl4).trans c2⟩ | exact ⟨(World.cell?_alloc_lt _ _ _ hbl5).trans SS.1, (World.cell?_alloc_lt _ _ _ hbl5).trans SS.2⟩ | go_keep)
              (first
                | (go_at_call 54; refine (l4Copy_on g 0 cap k (M.take k) w4 _ (by first | exact Below.refl _ _ | exact (Below.refl _ _).drew | exact (Below.refl _ _).alloc (Nat.le_refl _) _ | exact ((Below.refl _ _).alloc (Nat.le_refl _) _).drew) HR4.out (by have := LT.out; omega) LT.out).mono ?_; rintro e w5 ⟨g5, cap5, rfl, o5, HB5, hb5⟩; have hs5 := HB5.size; have SS : w5.cell? ⟨b, o + j * 2, none⟩ = some (.string x.pa) ∧ w5.cell? ⟨b, o + j * 2 + 1, none⟩ = some (.string x.by_) := ⟨(HB5.cell (p := ⟨b, o + j * 2, none⟩) hbl4).trans c1, (HB5.cell (p := ⟨b, o + j * 2 + 1, none⟩) hbl4).trans c2⟩; have hbl5 : b < w5.heap.size := Nat.lt_of_lt_of_le hbl4 hs5; (try have HBK := (hb5.block w4.heap.size (by simp)).trans (heap_alloc_new w4 _)); clear hb5)
                | (refine step_app (by rfl) _ _ 23 (by rfl) w4.heap.size 51 i0 (.agg #[.string ByteArray.empty, .string ByteArray.empty]) 2 32 Try.underlying23 hi hz0 hz1 hz2 rfl (by omega) (.slice (some ⟨g5, 0, none⟩) k cap5) k (cellsF (M.take k)) (by rfl) (by first | exact o5 | exact ownsUnder o5 ((Below.refl _ _).alloc (Nat.le_refl _) _) (Nat.le_refl _) | exact ownsUnder o5 (((Below.refl _ _).alloc (Nat.le_refl _) _).drew) (Nat.le_refl _)) ⟨w5.heap.size, 0, none⟩ 1 1 [.string x.pa, .string x.by_] (by rfl) rfl (World.news_of_block (heap_alloc_new w5 _)) (fun u hu => by simp at hu; rcases hu with rfl | rfl <;> rfl) (by simp) (by unfold maxLen; omega) (by omega) (by first | exact hs5 | (simp; omega)) ?_; intro g6 cap6 w6 o6 gr6; have HB6 : Below w4.heap.size w4 w6 := (by first | exact growOwn (HB5.alloc hs5 (.cells #[.string x.pa, .string x.by_] 51)) (by simp; omega) (ownsUnder o5 ((Below.refl _ _).alloc (Nat.le_refl _) _) (Nat.le_refl _)) gr6 (Nat.le_refl _) | exact growOwn ((HB5.alloc hs5 (.cells #[.string x.pa, .string x.by_] 51)).drew) (by simp; omega) (ownsUnder o5 (((Below.refl _ _).alloc (Nat.le_refl _) _).drew) (Nat.le_refl _)) gr6 (Nat.le_refl _)); have SS6 : w6.cell? ⟨b, o + j * 2, none⟩ = some (.string x.pa) ∧ w6.cell? ⟨b, o + j * 2 + 1, none⟩ = some (.string x.by_) := ⟨(HB6.cell (p := ⟨b, o + j * 2, none⟩) hbl4).trans c1, (HB6.cell (p := ⟨b, o + j * 2 + 1, none⟩) hbl4).trans c2⟩)
                | (refine step_app (by rfl) _ _ 23 (by rfl) w4.heap.size 51 i0 (.agg #[.string ByteArray.empty, .string ByteArray.empty]) 2 32 Try.underlying23 hi hz0 hz1 hz2 rfl (by omega) (.slice (some ⟨g5, 0, none⟩) k cap5) k (cellsF (M.take k)) (by rfl) (by exact o5) ⟨w4.heap.size, 0, none⟩ 1 1 [.string x.pa, .string x.by_] (by rfl) rfl (World.news_of_block HBK) (fun u hu => by simp at hu; rcases hu with rfl | rfl <;> rfl) (by simp) (by unfold maxLen; omega) (by omega) (by first | exact hs5 | (simp; omega)) ?_; intro g6 cap6 w6 o6 gr6; have HB6 : Below w4.heap.size w4 w6 := (by first | exact growOwn HB5 hs5 o5 gr6 (Nat.le_refl _) | exact growOwn HB5.drew (by simp; omega) (ownsUnder o5 ((Below.refl _ _).drew) (Nat.le_refl _)) gr6 (Nat.le_refl _)); have SS6 : w6.cell? ⟨b, o + j * 2, none⟩ = some (.string x.pa) ∧ w6.cell? ⟨b, o + j * 2 + 1, none⟩ = some (.string x.by_) := ⟨(HB6.cell (p := ⟨b, o + j * 2, none⟩) hbl4).trans c1, (HB6.cell (p := ⟨b, o + j * 2 + 1, none⟩) hbl4).trans c2⟩)
                | (refine step_app (by rfl) _ _ 23 (by rfl) w4.heap.size 51 i0 (.agg #[.string ByteArray.empty, .string ByteArray.empty]) 2 32 Try.underlying23 hi hz0 hz1 hz2 rfl (by omega) (.slice (some ⟨g6, 0, none⟩) (k + 1) cap6) (k + 1) (cellsF (M.take k) ++ [.string x.pa, .string x.by_]) (by rfl) (by exact o6) ⟨g4, 0, none⟩ (M.length - k) cap4 (cellsF (M.drop k)) (by rfl) (by rw [cellsF_length]; have := LD.out; omega) (newsOwn O4.out HB6) (cellsF_one _) (by simp) (by unfold maxLen; omega) (by omega) (by first | exact HB6.size | (have := HB6.size; simp; omega)) ?_; intro g7 cap7 w7 o7 gr7; have HB7 : Below w4.heap.size w4 w7 := (by first | exact growOwn HB6 HB6.size o6 gr7 (Nat.le_refl _) | exact growOwn HB6.drew (by have := HB6.size; simp; omega) (ownsUnder o6 ((Below.refl _ _).drew) (Nat.le_refl _)) gr7 (Nat.le_refl _)); have SS7 : w7.cell? ⟨b, o + j * 2, none⟩ = some (.string x.pa) ∧ w7.cell? ⟨b, o + j * 2 + 1, none⟩ = some (.string x.by_) := ⟨(HB7.cell (p := ⟨b, o + j * 2, none⟩) hbl4).trans c1, (HB7.cell (p := ⟨b, o + j * 2 + 1, none⟩) hbl4).trans c2⟩))
            all_goals
              go_wp2
              go_roundw
              case rel =>
                have hMl := HM2.out
                have eM : insF M x = (M.take k ++ [x]) ++ M.drop k := HI.out
                have eC : cellsF (M.take k) ++ [.string x.pa, .string x.by_] ++ cellsF (M.drop k) = cellsF (insF M x) := by rw [eM, cellsF_append, cellsF_append]; rfl
                have hl7 : k + 1 + (M.length - k) = (insF M x).length := by rw [len_insF]; omega
                refine ⟨j + 1, g7, cap7, insF M x, by omega, by go_num, by rw [← hl7], by rw [len_insF]; omega, ?_, ?_, (hb.trans (hb3.mono hsz)).trans ((hb4.trans (HB7.mono hs4)).mono (by omega))⟩
                · show insF M x = sortF (L.take (j + 1))
                  rw [sort_take L j hlt, ← HM.out, HX.out]
                · rw [← hl7, ← eC]
                  exact ownsUpF o7 (by omega)
              case measure => simp [RowKit.intOf]; omega
    · go_wp2
      go_ret
      obtain rfl : j = L.length := by omega
      have e := HM.out
      rw [List.take_length] at e
      rw [← hM]
      exact ⟨⟨g, cap, rfl, by rw [← e]; exact hown⟩, hb⟩
end Go.Proofs.Ytbceegonaomblaa.W
