/-
  The walks of the specification's l4Sorted and l4Turn: what one edit makes of files that rise. At most 1000 files.
  The walk of the specification's l4Turn: what one edit makes of files that rise. At most 500 files.
  Rows of TreEdit: what it is that a slice reads as such a row; the walks of the exact laws' own helpers 'sz', 'to' and 'eq' on them. No condition but those named. (Written by genstruct.py.)
-/
import Derived.Test.YthfffpdkmoclbaaGreatDoorMg18
import Derived.Test.YthfffpdkmoclbaaGreatDoorMg11
import Derived.Deep.RegionHeldLaw
import Derived.Deep.AppendLies
import Derived.Test.YthfffpdkmoclbaaGreatDoorMg01
import Derived.Test.YthfffpdkmoclbaaGreatDoorMg07
import Derived.OwnWalk
import Derived.Below
import Derived.BigQuiet
import Derived.Deep.QuietTactic
import Derived.Deep.RegionWith
namespace Go.Proofs.YthfffpdkmoclbaaGreatDoor.W
open Go.RowKit Go.Lib Go.Proofs.YthfffpdkmoclbaaGreatDoor.M

section
variable {P : Program} {w : World}
/-- append to a row of one's own, where something is there behind it -/
theorem run_app (t ty : TypeId) (base : Nat) (e : TypeId) (i : TypeInfo) (z : Value) (size bytes : Nat) (ht : P.underlying t = some (.slice e)) (hi : P.info? e = some i) (hz : i.zero = some z)
    (hsize : i.size = size) (hby : i.bytes = bytes) (hzs : z.cells.size = size) (hsz : 0 < size)
    (v : Value) (n : Nat) (xs : List Value) (hown : w.ownsRow base e size v n xs)
    (ad : Addr) (m c : Nat) (news : List Value) (hl : news.length = m * size) (hnews : ∀ j u, news[j]? = some u → w.cell? (ad.add j) = some u) (h1 : ∀ u ∈ news, u.oneCell' = true)
    (hnm : v ≠ .slice none 0 0) (h63 : n + m ≤ maxLen) (hbytes : (n + m) * bytes ≤ 140737488355328) (hbase : base ≤ w.heap.size) :
    ∃ g cap w', (Builtin.append_ #[t, t] ty #[v, .slice (some ad) m c]).run P w = .ok (.slice (some ⟨g, 0, none⟩) (n + m) cap) w' ∧
      w'.ownsRow base e size (.slice (some ⟨g, 0, none⟩) (n + m) cap) (n + m) (xs ++ news) ∧ w.grownBy w' v.ownBlock := by
  obtain ⟨v', w', hr, h2, h3, h4, _⟩ := Go.run_append_own_at (P := P) w base t ty e i z size bytes ht hi hz hsize hby hzs hsz v n xs hown ad m c news hl hnews h1 h63 hbytes hbase
  rcases h2.2 with ⟨h5, _⟩ | ⟨g, cap, cur, rfl, _⟩
  · exact absurd (h4.1 h5).1 hnm
  · exact ⟨g, cap, w', hr, h2, h3⟩
theorem wp_app {o : Oper} {a : Act} {K : Act → World → Prop} {Q : Exit → Act → World → Prop} (s x : Operand) (t : TypeId)
    (ho : o.op = .call { callee := .builtin .append, args := #[s, x], argTypes := #[t, t] })
    (base : Nat) (e : TypeId) (i : TypeInfo) (z : Value) (size bytes : Nat) (ht : P.underlying t = some (.slice e)) (hi : P.info? e = some i) (hz : i.zero = some z)
    (hsize : i.size = size) (hby : i.bytes = bytes) (hzs : z.cells.size = size) (hsz : 0 < size)
    (v : Value) (n : Nat) (xs : List Value) (hs : a.eval s = v) (hown : w.ownsRow base e size v n xs)
    (ad : Addr) (m c : Nat) (news : List Value) (hx : a.eval x = .slice (some ad) m c) (hl : news.length = m * size) (hnews : ∀ j u, news[j]? = some u → w.cell? (ad.add j) = some u) (h1 : ∀ u ∈ news, u.oneCell' = true)
    (hnm : v ≠ .slice none 0 0) (h63 : n + m ≤ maxLen) (hbytes : (n + m) * bytes ≤ 140737488355328) (hbase : base ≤ w.heap.size)
    (h : ∀ g cap w', w'.ownsRow base e size (.slice (some ⟨g, 0, none⟩) (n + m) cap) (n + m) (xs ++ news) → w.grownBy w' v.ownBlock → K (a.put o.dst (.slice (some ⟨g, 0, none⟩) (n + m) cap)) w') : o.wp P a w K Q := by
  obtain ⟨g, cap, w', hr, h2, h3⟩ := run_app (P := P) t o.type base e i z size bytes ht hi hz hsize hby hzs hsz v n xs hown ad m c news hl hnews h1 hnm h63 hbytes hbase
  unfold Oper.wp execOp
  simp only [ho, resolve, invoke, builtin, Sem.run_bind, Sem.run_pure, Result.andThen_ok, List.map_toArray, List.map_cons, List.map_nil, hs, hx, hr]
  exact h g cap w' h2 h3
theorem step_app {ops : Array Oper} {o : Oper} {a : Act} {K : Act → World → Prop} {Q : Exit → Act → World → Prop} {E : Prop} (hgd : o.guard = none) (s x : Operand) (t : TypeId)
    (ho : o.op = .call { callee := .builtin .append, args := #[s, x], argTypes := #[t, t] })
    (base : Nat) (e : TypeId) (i : TypeInfo) (z : Value) (size bytes : Nat) (ht : P.underlying t = some (.slice e)) (hi : P.info? e = some i) (hz : i.zero = some z)
    (hsize : i.size = size) (hby : i.bytes = bytes) (hzs : z.cells.size = size) (hsz : 0 < size)
    (v : Value) (n : Nat) (xs : List Value) (hs : a.eval s = v) (hown : w.ownsRow base e size v n xs)
    (ad : Addr) (m c : Nat) (news : List Value) (hx : a.eval x = .slice (some ad) m c) (hl : news.length = m * size) (hnews : ∀ j u, news[j]? = some u → w.cell? (ad.add j) = some u) (h1 : ∀ u ∈ news, u.oneCell' = true)
    (hnm : v ≠ .slice none 0 0) (h63 : n + m ≤ maxLen) (hbytes : (n + m) * bytes ≤ 140737488355328) (hbase : base ≤ w.heap.size)
    (h : ∀ g cap w', w'.ownsRow base e size (.slice (some ⟨g, 0, none⟩) (n + m) cap) (n + m) (xs ++ news) → w.grownBy w' v.ownBlock → K (a.put o.dst (.slice (some ⟨g, 0, none⟩) (n + m) cap)) w') :
    if Region.wanted o (yielded ops a.tmps) = true then Oper.wp P o a w K Q else E := by
  have hw : Region.wanted o (yielded ops a.tmps) = true := by simp [Region.wanted, hgd]
  rw [if_pos hw]
  exact wp_app s x t ho base e i z size bytes ht hi hz hsize hby hzs hsz v n xs hs hown ad m c news hx hl hnews h1 hnm h63 hbytes hbase h
end

theorem ins_at (M : List TF) (x : TF) (k : Nat) (hk : k ≤ M.length) (h1 : ∀ i (h : i < M.length), i < k → (M[i]).pa.data.toList < x.pa.data.toList) (h2 : ∀ h : k < M.length, ¬ (M[k]).pa.data.toList < x.pa.data.toList) : insF M x = (M.take k ++ [x]) ++ M.drop k := by
  induction M generalizing k with
  | nil => simp at hk; subst hk; rfl
  | cons y l ih =>
    cases k with
    | zero =>
      have := h2 (by simp)
      have h3 : ¬ y.pa.data.toList < x.pa.data.toList := this
      unfold insF
      rw [if_neg h3]; rfl
    | succ k =>
      have h3 : y.pa.data.toList < x.pa.data.toList := h1 0 (by simp) (by omega)
      unfold insF
      rw [if_pos h3, ih k (by simpa using hk) (fun i h hi => h1 (i + 1) (by simpa using h) (by omega)) (fun h => h2 (by simpa using h))]
      rfl
theorem sort_take (L : List TF) (j : Nat) (h : j < L.length) : sortF (L.take (j + 1)) = insF (sortF (L.take j)) L[j] := by
  unfold sortF
  rw [List.take_succ_eq_append_getElem h, List.foldl_append]; rfl
theorem len_sortF (L : List TF) : (sortF L).length = L.length := by
  have : ∀ (L A : List TF), (L.foldl insF A).length = A.length + L.length := by
    intro L
    induction L with
    | nil => intro A; rfl
    | cons x l ih => intro A; rw [List.foldl_cons, ih, len_insF, List.length_cons]; omega
  have := this L []
  simpa [sortF] using this

theorem cellsF_append (A B : List TF) : cellsF (A ++ B) = cellsF A ++ cellsF B := by simp [cellsF]
theorem infoF' : (Tryz.prog.info? 98).map (fun i => (i.zero, i.size, i.bytes)) = some (some (.agg #[.string ByteArray.empty, .string ByteArray.empty]), 2, 32) := infoF
theorem rdF_take {B : Nat} {w : World} {A : Option Addr} {L : List TF} (h : RdF B w A L) (k : Nat) : RdF B w A (L.take k) := fun j hj => by
  have hj' : j < L.length := by simp at hj; omega
  obtain ⟨b, o, e, hl, c1, c2⟩ := h j hj'
  have e1 : (L.take k)[j] = L[j] := by simp
  rw [e1]
  exact ⟨b, o, e, hl, c1, c2⟩
theorem rdF_drop {B : Nat} {w : World} {b o : Nat} {L : List TF} (h : RdF B w (some ⟨b, o, none⟩) L) (k : Nat) : RdF B w (some ⟨b, o + k * 2, none⟩) (L.drop k) := fun j hj => by
  have hj' : k + j < L.length := by simp at hj; omega
  obtain ⟨b', o', e, hl, c1, c2⟩ := h (k + j) hj'
  simp only [Option.some.injEq, Addr.mk.injEq] at e
  obtain ⟨rfl, rfl, _⟩ := e
  have e1 : (L.drop k)[j] = L[k + j] := by simp
  rw [e1]
  refine ⟨b, o + k * 2, rfl, hl, ?_, ?_⟩
  · rw [show o + k * 2 + j * 2 = o + (k + j) * 2 by omega]; exact c1
  · rw [show o + k * 2 + j * 2 + 1 = o + (k + j) * 2 + 1 by omega]; exact c2

theorem ownsCap {w : World} {base : Nat} {e : TypeId} {z : Nat} {g : Nat} {n cap : Nat} {xs : List Value} (h : w.ownsRow base e z (.slice (some ⟨g, 0, none⟩) n cap) n xs) : n ≤ cap := by
  rcases h.2 with ⟨h1, _⟩ | ⟨_, _, _, h1, _, _, h2, _⟩
  · cases h1
  · cases h1; exact h2
/-- l4Copy at whatever address -/
theorem l4Copy_at (b o c n : Nat) (L : List TF) (w : World) (hL : RdF w.heap.size w (some ⟨b, o, none⟩) L) (hn : L.length ≤ 1048576) (e : n = L.length) :
    Calls Tryz.prog 108 #[.slice (some ⟨b, o, none⟩) n c] w fun e w' => (∃ g cap, e = .returned (.slice (some ⟨g, 0, none⟩) n cap) ∧ w'.ownsRow w.heap.size 98 2 (.slice (some ⟨g, 0, none⟩) n cap) n (cellsF L)) ∧ Below w.heap.size w w' := by
  subst e; exact l4Copy_some b o c L w hL hn
theorem ownsUpF {w : World} {base base' n z : Nat} {e : TypeId} {v : Value} {xs : List Value} (h : w.ownsRow base e z v n xs) (hb : base' ≤ base) : w.ownsRow base' e z v n xs := by
  refine ⟨h.1, ?_⟩
  rcases h.2 with h1 | ⟨g, cap, cur, h1, h2, h3⟩
  · exact .inl h1
  · exact .inr ⟨g, cap, cur, h1, by omega, h3⟩
theorem newsOwn {w w' : World} {base : Nat} {e : TypeId} {z g n cap : Nat} {xs : List Value} (h : w.ownsRow base e z (.slice (some ⟨g, 0, none⟩) n cap) n xs) (hb : Below w.heap.size w w') : ∀ j u, xs[j]? = some u → w'.cell? ((⟨g, 0, none⟩ : Addr).add j) = some u := by
  intro j u hu
  have h' := ownsUnder h hb (Nat.le_refl _)
  have hj : j < xs.length := (List.getElem?_eq_some_iff.1 hu).1
  have := h'.cellAt j (by rw [← h'.1]; exact hj)
  rw [hu] at this
  have ea : (⟨g, 0, none⟩ : Addr).add j = ⟨g, j, none⟩ := by unfold Addr.add; split <;> simp_all
  rw [ea]; exact this
/-- a copy that is made somewhere behind a world: told of that world -/
theorem l4Copy_on (b o c n : Nat) (L : List TF) (v W : World) (HB : Below v.heap.size v W) (hL : RdF v.heap.size v (some ⟨b, o, none⟩) L) (hn : L.length ≤ 1048576) (e : n = L.length) :
    Calls Tryz.prog 108 #[.slice (some ⟨b, o, none⟩) n c] W fun e w' => ∃ g cap, e = .returned (.slice (some ⟨g, 0, none⟩) n cap) ∧ w'.ownsRow v.heap.size 98 2 (.slice (some ⟨g, 0, none⟩) n cap) n (cellsF L) ∧ Below v.heap.size v w' ∧ Below W.heap.size W w' := by
  refine (l4Copy_at b o c n L W (hL.up HB) hn e).mono ?_
  rintro e w' ⟨⟨g, cap, rfl, h⟩, hb⟩
  exact ⟨g, cap, rfl, ownsUpF h HB.size, HB.trans (hb.mono HB.size), hb⟩
set_option maxHeartbeats 4000000 in
set_option maxRecDepth 100000 in
theorem l4Sorted_own (b o c : Nat) (L : List TF) (w : World) (hL : RdF w.heap.size w (some ⟨b, o, none⟩) L) (hn : L.length ≤ 1000) :
    Calls Tryz.prog 134 #[.slice (some ⟨b, o, none⟩) L.length c] w fun e w' => (∃ g c', e = .returned (.slice (some ⟨g, 0, none⟩) L.length c') ∧ w'.ownsRow w.heap.size 98 2 (.slice (some ⟨g, 0, none⟩) L.length c') L.length (cellsF (sortF L))) ∧ Below w.heap.size w w' := by
  have HL : Hid (RdF w.heap.size w (some ⟨b, o, none⟩) L) := hL
  clear hL
  obtain ⟨i0, hi, hz0, hz1, hz2⟩ := info_parts infoF
  go_enter Tryz.func134, Tryz.ntmps134
  go_wp2
  go_loopw [3, 4] (fun vo iv wr => ∃ (j g cap : Nat) (M : List TF), j ≤ L.length ∧ iv = .int .i64 j ∧ vo = .slice (some ⟨g, 0, none⟩) M.length cap ∧ M.length = j ∧ Hid (M = sortF (L.take j)) ∧ wr.ownsRow w.heap.size 98 2 vo M.length (cellsF M) ∧ Below w.heap.size w wr) (fun _ i _ => L.length - (RowKit.intOf i).toNat)
  case atStart => exact ⟨0, w.heap.size, 0, [], Nat.zero_le _, rfl, rfl, rfl, (show ([] : List TF) = sortF (L.take 0) from rfl), World.ownsRow_lit w #[] 0 (Nat.le_refl _) (by unfold maxLen; omega) rfl, (Below.refl _ _).alloc (Nat.le_refl _) _⟩
  case round =>
    obtain ⟨j, g, cap, M, hj, rfl, rfl, hM, HM, hown, hb⟩ := hrel
    have hsz := hb.size
    by_cases hlt : j < L.length
    · obtain ⟨b', o', e', hbl, c1, c2⟩ := (HL.out.below hb (Nat.le_refl _)) j hlt
      simp only [Option.some.injEq, Addr.mk.injEq] at e'
      obtain ⟨rfl, rfl, _⟩ := e'
      obtain ⟨x, hx⟩ : ∃ x, L[j] = x := ⟨_, rfl⟩
      have HX : Hid (L[j] = x) := hx
      rw [hx] at c1 c2
      clear hx
      obtain ⟨A9, c9, e9, HR⟩ := rdF_of_own hown
      have HRd : Hid (RdF wr.heap.size wr (some ⟨g, 0, none⟩) M) := by cases e9; exact HR
      clear HR e9
      obtain ⟨w1, hw1⟩ : ∃ w1, w1 = wr := ⟨_, rfl⟩
      subst hw1
      have HM2 : Hid (M.length = j) := hM
      have hM1 : M.length ≤ 1000 := by omega
      have hcp : M.length ≤ cap := ownsCap hown
      clear hM
      go_wp2
      go_loopw [5] (fun kv w2 => ∃ k : Nat, k ≤ M.length ∧ kv = .int .i64 k ∧ Hid (∀ i (h : i < M.length), i < k → (M[i]).pa.data.toList < x.pa.data.toList) ∧ Below w1.heap.size w1 w2) (fun k _ => M.length - (RowKit.intOf k).toNat)
      case atStart => exact ⟨0, Nat.zero_le _, rfl, (show ∀ i (h : i < M.length), i < 0 → _ from fun i h hi => absurd hi (Nat.not_lt_zero _)), Below.refl _ _⟩
      case round =>
        obtain ⟨k, hk, rfl, HK, hbk⟩ := hrel
        have hszk := hbk.size
        have hne : Nonempty (Ext wr) := ⟨⟨wr, Below.refl _ _⟩⟩
        have x2 : ∀ z : Ext wr, z.world.cell? ⟨b, o + j * 2, none⟩ = some (.string x.pa) := fun z => z.cell ((hbk.cell (p := ⟨b, o + j * 2, none⟩) (by show b < _; omega)).trans c1)
        by_cases hkl : k < M.length
        · obtain ⟨b9, o9, e9, hbl9, d1, d2⟩ := HRd.out k hkl
          simp only [Option.some.injEq, Addr.mk.injEq] at e9
          obtain ⟨rfl, rfl, _⟩ := e9
          obtain ⟨y, hy⟩ : ∃ y, M[k] = y := ⟨_, rfl⟩
          have HY : Hid (M[k] = y) := hy
          rw [hy] at d1 d2
          clear hy
          have g1 : decide (k < M.length) = true := by simpa using hkl
          have x1 : ∀ z : Ext wr, z.world.cell? ⟨g, k * 2, none⟩ = some (.string y.pa) := fun z => z.cell ((hbk.cell (p := ⟨g, k * 2, none⟩) hbl9).trans (by simpa using d1))
          have x3 : ∀ z : Ext wr, z.world.cell? ⟨g, 0 + k * 2, none⟩ = some (.string y.pa) := fun z => z.cell ((hbk.cell (p := ⟨g, 0 + k * 2, none⟩) hbl9).trans d1)
          by_cases hlss : y.pa.data.toList < x.pa.data.toList
          · have f2 : Op.bytesLess y.pa.toList x.pa.toList = true := by rw [Lib.toList_data, Lib.toList_data, bl_lt]; simpa using hlss
            have HK2 : Hid (∀ i (h : i < M.length), i < k + 1 → (M[i]).pa.data.toList < x.pa.data.toList) := (show ∀ i (h : i < M.length), i < k + 1 → (M[i]).pa.data.toList < x.pa.data.toList from fun i h hi => by
              by_cases hik : i < k
              · exact HK.out i h hik
              · obtain rfl : i = k := by omega
                rw [HY.out]; exact hlss)
            clear hlss
            go_wp2
            refine region_ext (by kernel_rfl) (by kernel_rfl) ?_
            repeat (go_big_quiet_step (fail))
            refine wpQuiet_nil ?_
            rintro _ ⟨z, rfl⟩
            have hbz := z.below
            go_wp2
            go_roundw
            case rel => exact ⟨k + 1, by omega, by go_num, HK2, hbk.trans (hbz.mono (by omega))⟩
            case measure => simp [RowKit.intOf]; omega
          · have f2 : Op.bytesLess y.pa.toList x.pa.toList = false := by rw [Lib.toList_data, Lib.toList_data, bl_lt]; simpa using hlss
            have HI : Hid (insF M x = (M.take k ++ [x]) ++ M.drop k) := ins_at M x k hk HK.out (fun h => by rw [HY.out]; exact hlss)
            clear hlss
            go_wp2
            refine region_ext (by kernel_rfl) (by kernel_rfl) ?_
            repeat (go_big_quiet_step (fail))
            refine wpQuiet_nil ?_
            rintro _ ⟨z, rfl⟩
            have hbz := z.below
            clear x1 x2 x3 f2
            obtain ⟨w3, hw3⟩ : ∃ w3, w3 = z.world := ⟨_, rfl⟩
            rw [← hw3] at hbz ⊢
            clear hw3
            have hb3 : Below w1.heap.size w1 w3 := hbk.trans (hbz.mono (by omega))
            have hs3 := hb3.size
            have HR3 : Hid (RdF w3.heap.size w3 (some ⟨g, 0, none⟩) M) := (HRd.out.below hb3 (Nat.le_refl _)).mono hs3
            clear hbz hbk hszk HK hne
            have C1 : Hid (w3.cell? ⟨b, o + j * 2, none⟩ = some (.string x.pa)) := (hb3.cell (p := ⟨b, o + j * 2, none⟩) (by show b < _; omega)).trans c1
            have C2 : Hid (w3.cell? ⟨b, o + j * 2 + 1, none⟩ = some (.string x.by_)) := (hb3.cell (p := ⟨b, o + j * 2 + 1, none⟩) (by show b < _; omega)).trans c2
            clear c1 c2
            have hbl3 : b < w3.heap.size := by omega
            have LD : Hid (M.length - k = (M.drop k).length) := (show M.length - k = (M.drop k).length by simp)
            have LT : Hid (k = (M.take k).length) := (show k = (M.take k).length by simp; omega)
            by_cases hck : k = cap
            · exact absurd hck (by omega)
            · have hck2 : ¬ ((cap : Nat) : Int) = k := by omega
              go_wp2_with (go_at_call 108; refine (l4Copy_at g (k * 2) (cap - k) (M.length - k) (M.drop k) w3 (by have := rdF_drop HR3.out k; rwa [Nat.zero_add] at this) (by have := LD.out; omega) LD.out).mono ?_; rintro e w4 ⟨⟨g4, cap4, rfl, o4⟩, hb4⟩)
              have hs4 := hb4.size
              have c1 : w4.cell? ⟨b, o + j * 2, none⟩ = some (.string x.pa) := (hb4.cell (p := ⟨b, o + j * 2, none⟩) hbl3).trans C1.out
              have c2 : w4.cell? ⟨b, o + j * 2 + 1, none⟩ = some (.string x.by_) := (hb4.cell (p := ⟨b, o + j * 2 + 1, none⟩) hbl3).trans C2.out
              have hbl4 : b < w4.heap.size := by omega
              have HR4 : Hid (RdF w4.heap.size w4 (some ⟨g, 0, none⟩) (M.take k)) := rdF_take (HR3.out.up hb4) k
              have O4 : Hid (w4.ownsRow w3.heap.size 98 2 (.slice (some ⟨g4, 0, none⟩) (M.length - k) cap4) (M.length - k) (cellsF (M.drop k))) := o4
              clear o4
              go_region_held_law (fun w' => w'.cell? ⟨b, o + j * 2, none⟩ = some (.string x.pa) ∧ w'.cell? ⟨b, o + j * 2 + 1, none⟩ = some (.string x.by_)) (first | exact ⟨c1, c2⟩ | exact SS7 | exact SS6 | exact SS | exact ⟨(World.cell?_alloc_lt _ _ _ hbl4).trans c1, (World.cell?_alloc_lt _ _ _ hbl4).trans c2⟩ | exact ⟨(World.cell?_alloc_lt _ _ _ hbl5).trans SS.1, (World.cell?_alloc_lt _ _ _ hbl5).trans SS.2⟩ | go_keep)
                (first
                  | (go_at_call 108; refine (l4Copy_on g 0 cap k (M.take k) w4 _ (by first | exact Below.refl _ _ | exact (Below.refl _ _).drew | exact (Below.refl _ _).alloc (Nat.le_refl _) _ | exact ((Below.refl _ _).alloc (Nat.le_refl _) _).drew) HR4.out (by have := LT.out; omega) LT.out).mono ?_; rintro e w5 ⟨g5, cap5, rfl, o5, HB5, hb5⟩; have hs5 := HB5.size; have SS : w5.cell? ⟨b, o + j * 2, none⟩ = some (.string x.pa) ∧ w5.cell? ⟨b, o + j * 2 + 1, none⟩ = some (.string x.by_) := ⟨(HB5.cell (p := ⟨b, o + j * 2, none⟩) hbl4).trans c1, (HB5.cell (p := ⟨b, o + j * 2 + 1, none⟩) hbl4).trans c2⟩; have hbl5 : b < w5.heap.size := Nat.lt_of_lt_of_le hbl4 hs5; (try have HBK := (hb5.block w4.heap.size (by simp)).trans (heap_alloc_new w4 _)); clear hb5)
                  | (refine step_app (by rfl) _ _ 49 (by rfl) w4.heap.size 98 i0 (.agg #[.string ByteArray.empty, .string ByteArray.empty]) 2 32 Tryz.underlying49 hi hz0 hz1 hz2 rfl (by omega) (.slice (some ⟨g5, 0, none⟩) k cap5) k (cellsF (M.take k)) (by rfl) (by first | exact o5 | exact ownsUnder o5 ((Below.refl _ _).alloc (Nat.le_refl _) _) (Nat.le_refl _) | exact ownsUnder o5 (((Below.refl _ _).alloc (Nat.le_refl _) _).drew) (Nat.le_refl _)) ⟨w5.heap.size, 0, none⟩ 1 1 [.string x.pa, .string x.by_] (by rfl) rfl (World.news_of_block (heap_alloc_new w5 _)) (fun u hu => by simp at hu; rcases hu with rfl | rfl <;> rfl) (by simp) (by unfold maxLen; omega) (by omega) (by first | exact hs5 | (simp; omega)) ?_; intro g6 cap6 w6 o6 gr6; have HB6 : Below w4.heap.size w4 w6 := (by first | exact growOwn (HB5.alloc hs5 (.cells #[.string x.pa, .string x.by_] 98)) (by simp; omega) (ownsUnder o5 ((Below.refl _ _).alloc (Nat.le_refl _) _) (Nat.le_refl _)) gr6 (Nat.le_refl _) | exact growOwn ((HB5.alloc hs5 (.cells #[.string x.pa, .string x.by_] 98)).drew) (by simp; omega) (ownsUnder o5 (((Below.refl _ _).alloc (Nat.le_refl _) _).drew) (Nat.le_refl _)) gr6 (Nat.le_refl _)); have SS6 : w6.cell? ⟨b, o + j * 2, none⟩ = some (.string x.pa) ∧ w6.cell? ⟨b, o + j * 2 + 1, none⟩ = some (.string x.by_) := ⟨(HB6.cell (p := ⟨b, o + j * 2, none⟩) hbl4).trans c1, (HB6.cell (p := ⟨b, o + j * 2 + 1, none⟩) hbl4).trans c2⟩)
                  | (refine step_app (by rfl) _ _ 49 (by rfl) w4.heap.size 98 i0 (.agg #[.string ByteArray.empty, .string ByteArray.empty]) 2 32 Tryz.underlying49 hi hz0 hz1 hz2 rfl (by omega) (.slice (some ⟨g5, 0, none⟩) k cap5) k (cellsF (M.take k)) (by rfl) (by exact o5) ⟨w4.heap.size, 0, none⟩ 1 1 [.string x.pa, .string x.by_] (by rfl) rfl (World.news_of_block HBK) (fun u hu => by simp at hu; rcases hu with rfl | rfl <;> rfl) (by simp) (by unfold maxLen; omega) (by omega) (by first | exact hs5 | (simp; omega)) ?_; intro g6 cap6 w6 o6 gr6; have HB6 : Below w4.heap.size w4 w6 := (by first | exact growOwn HB5 hs5 o5 gr6 (Nat.le_refl _) | exact growOwn HB5.drew (by simp; omega) (ownsUnder o5 ((Below.refl _ _).drew) (Nat.le_refl _)) gr6 (Nat.le_refl _)); have SS6 : w6.cell? ⟨b, o + j * 2, none⟩ = some (.string x.pa) ∧ w6.cell? ⟨b, o + j * 2 + 1, none⟩ = some (.string x.by_) := ⟨(HB6.cell (p := ⟨b, o + j * 2, none⟩) hbl4).trans c1, (HB6.cell (p := ⟨b, o + j * 2 + 1, none⟩) hbl4).trans c2⟩)
                  | (refine step_app (by rfl) _ _ 49 (by rfl) w4.heap.size 98 i0 (.agg #[.string ByteArray.empty, .string ByteArray.empty]) 2 32 Tryz.underlying49 hi hz0 hz1 hz2 rfl (by omega) (.slice (some ⟨g6, 0, none⟩) (k + 1) cap6) (k + 1) (cellsF (M.take k) ++ [.string x.pa, .string x.by_]) (by rfl) (by exact o6) ⟨g4, 0, none⟩ (M.length - k) cap4 (cellsF (M.drop k)) (by rfl) (by rw [cellsF_length]; have := LD.out; omega) (newsOwn O4.out HB6) (cellsF_one _) (by simp) (by unfold maxLen; omega) (by omega) (by first | exact HB6.size | (have := HB6.size; simp; omega)) ?_; intro g7 cap7 w7 o7 gr7; have HB7 : Below w4.heap.size w4 w7 := (by first | exact growOwn HB6 HB6.size o6 gr7 (Nat.le_refl _) | exact growOwn HB6.drew (by have := HB6.size; simp; omega) (ownsUnder o6 ((Below.refl _ _).drew) (Nat.le_refl _)) gr7 (Nat.le_refl _)); have SS7 : w7.cell? ⟨b, o + j * 2, none⟩ = some (.string x.pa) ∧ w7.cell? ⟨b, o + j * 2 + 1, none⟩ = some (.string x.by_) := ⟨(HB7.cell (p := ⟨b, o + j * 2, none⟩) hbl4).trans c1, (HB7.cell (p := ⟨b, o + j * 2 + 1, none⟩) hbl4).trans c2⟩))
              all_goals
                go_wp2
                go_roundw
                case rel =>
                  have hMl := HM2.out
                  have eM : insF M x = (M.take k ++ [x]) ++ M.drop k := HI.out
                  have eC : cellsF (M.take k) ++ [.string x.pa, .string x.by_] ++ cellsF (M.drop k) = cellsF (insF M x) := by rw [eM, cellsF_append, cellsF_append]; rfl
                  have hl7 : k + 1 + (M.length - k) = (insF M x).length := by rw [len_insF]; omega
                  refine ⟨j + 1, g7, cap7, insF M x, by omega, by go_num, by rw [← hl7], by rw [len_insF]; omega, ?_, ?_, (hb.trans (hb3.mono hsz)).trans ((hb4.trans (HB7.mono hs4)).mono (by omega))⟩
                  · show insF M x = sortF (L.take (j + 1))
                    rw [sort_take L j hlt, ← HM.out, HX.out]
                  · rw [← hl7, ← eC]
                    exact ownsUpF o7 (by omega)
                case measure => simp [RowKit.intOf]; omega
        · have g1 : decide (k < M.length) = false := by simpa using hkl
          have HkM : Hid (k = M.length) := (show k = M.length by omega)
          have HI : Hid (insF M x = (M.take k ++ [x]) ++ M.drop k) := ins_at M x k hk HK.out (fun h => absurd h hkl)
          go_wp2
          refine region_ext (by kernel_rfl) (by kernel_rfl) ?_
          repeat (go_big_quiet_step (fail))
          refine wpQuiet_nil ?_
          rintro _ ⟨z, rfl⟩
          have hbz := z.below
          clear x2 g1
          obtain ⟨w3, hw3⟩ : ∃ w3, w3 = z.world := ⟨_, rfl⟩
          rw [← hw3] at hbz ⊢
          clear hw3
          have hb3 : Below w1.heap.size w1 w3 := hbk.trans (hbz.mono (by omega))
          have hs3 := hb3.size
          have HR3 : Hid (RdF w3.heap.size w3 (some ⟨g, 0, none⟩) M) := (HRd.out.below hb3 (Nat.le_refl _)).mono hs3
          clear hbz hbk hszk HK hne
          have C1 : Hid (w3.cell? ⟨b, o + j * 2, none⟩ = some (.string x.pa)) := (hb3.cell (p := ⟨b, o + j * 2, none⟩) (by show b < _; omega)).trans c1
          have C2 : Hid (w3.cell? ⟨b, o + j * 2 + 1, none⟩ = some (.string x.by_)) := (hb3.cell (p := ⟨b, o + j * 2 + 1, none⟩) (by show b < _; omega)).trans c2
          clear c1 c2
          have hbl3 : b < w3.heap.size := by omega
          have LD : Hid (M.length - k = (M.drop k).length) := (show M.length - k = (M.drop k).length by simp)
          have LT : Hid (k = (M.take k).length) := (show k = (M.take k).length by simp; omega)
          by_cases hck : k = cap
          · have hck2 : ((cap : Nat) : Int) = k := by omega
            have LD0 : Hid (0 = (M.drop k).length) := (show 0 = (M.drop k).length by have := HkM.out; simp; omega)
            go_wp2_with (go_at_call 108; refine (l4Copy_at g 0 0 0 (M.drop k) w3 (fun j hj => by have := LD0.out; omega) (by have := LD0.out; omega) LD0.out).mono ?_; rintro e w4 ⟨⟨g4, cap4, rfl, o4⟩, hb4⟩)
            have HCK : Hid (k = cap) := hck
            clear hck hck2
            have hs4 := hb4.size
            have c1 : w4.cell? ⟨b, o + j * 2, none⟩ = some (.string x.pa) := (hb4.cell (p := ⟨b, o + j * 2, none⟩) hbl3).trans C1.out
            have c2 : w4.cell? ⟨b, o + j * 2 + 1, none⟩ = some (.string x.by_) := (hb4.cell (p := ⟨b, o + j * 2 + 1, none⟩) hbl3).trans C2.out
            have hbl4 : b < w4.heap.size := by omega
            have HR4 : Hid (RdF w4.heap.size w4 (some ⟨g, 0, none⟩) (M.take k)) := rdF_take (HR3.out.up hb4) k
            have O4 : Hid (w4.ownsRow w3.heap.size 98 2 (.slice (some ⟨g4, 0, none⟩) 0 cap4) 0 (cellsF (M.drop k))) := o4
            clear o4
            go_region_held_law (fun w' => w'.cell? ⟨b, o + j * 2, none⟩ = some (.string x.pa) ∧ w'.cell? ⟨b, o + j * 2 + 1, none⟩ = some (.string x.by_)) (first | exact ⟨c1, c2⟩ | exact SS7 | exact SS6 | exact SS | exact ⟨(World.cell?_alloc_lt _ _ _ hbl4).trans c1, (World.cell?_alloc_lt _ _ _ hbl4).trans c2⟩ | exact ⟨(World.cell?_alloc_lt _ _ _ hbl5).trans SS.1, (World.cell?_alloc_lt _ _ _ hbl5).trans SS.2⟩ | go_keep)
              (first
                | (go_at_call 108; refine (l4Copy_on g 0 cap k (M.take k) w4 _ (by first | exact Below.refl _ _ | exact (Below.refl _ _).drew | exact (Below.refl _ _).alloc (Nat.le_refl _) _ | exact ((Below.refl _ _).alloc (Nat.le_refl _) _).drew) HR4.out (by have := LT.out; omega) LT.out).mono ?_; rintro e w5 ⟨g5, cap5, rfl, o5, HB5, hb5⟩; have hs5 := HB5.size; have SS : w5.cell? ⟨b, o + j * 2, none⟩ = some (.string x.pa) ∧ w5.cell? ⟨b, o + j * 2 + 1, none⟩ = some (.string x.by_) := ⟨(HB5.cell (p := ⟨b, o + j * 2, none⟩) hbl4).trans c1, (HB5.cell (p := ⟨b, o + j * 2 + 1, none⟩) hbl4).trans c2⟩; have hbl5 : b < w5.heap.size := Nat.lt_of_lt_of_le hbl4 hs5; (try have HBK := (hb5.block w4.heap.size (by simp)).trans (heap_alloc_new w4 _)); clear hb5)
                | (refine step_app (by rfl) _ _ 49 (by rfl) w4.heap.size 98 i0 (.agg #[.string ByteArray.empty, .string ByteArray.empty]) 2 32 Tryz.underlying49 hi hz0 hz1 hz2 rfl (by omega) (.slice (some ⟨g5, 0, none⟩) k cap5) k (cellsF (M.take k)) (by rfl) (by first | exact o5 | exact ownsUnder o5 ((Below.refl _ _).alloc (Nat.le_refl _) _) (Nat.le_refl _) | exact ownsUnder o5 (((Below.refl _ _).alloc (Nat.le_refl _) _).drew) (Nat.le_refl _)) ⟨w5.heap.size, 0, none⟩ 1 1 [.string x.pa, .string x.by_] (by rfl) rfl (World.news_of_block (heap_alloc_new w5 _)) (fun u hu => by simp at hu; rcases hu with rfl | rfl <;> rfl) (by simp) (by unfold maxLen; omega) (by omega) (by first | exact hs5 | (simp; omega)) ?_; intro g6 cap6 w6 o6 gr6; have HB6 : Below w4.heap.size w4 w6 := (by first | exact growOwn (HB5.alloc hs5 (.cells #[.string x.pa, .string x.by_] 98)) (by simp; omega) (ownsUnder o5 ((Below.refl _ _).alloc (Nat.le_refl _) _) (Nat.le_refl _)) gr6 (Nat.le_refl _) | exact growOwn ((HB5.alloc hs5 (.cells #[.string x.pa, .string x.by_] 98)).drew) (by simp; omega) (ownsUnder o5 (((Below.refl _ _).alloc (Nat.le_refl _) _).drew) (Nat.le_refl _)) gr6 (Nat.le_refl _)); have SS6 : w6.cell? ⟨b, o + j * 2, none⟩ = some (.string x.pa) ∧ w6.cell? ⟨b, o + j * 2 + 1, none⟩ = some (.string x.by_) := ⟨(HB6.cell (p := ⟨b, o + j * 2, none⟩) hbl4).trans c1, (HB6.cell (p := ⟨b, o + j * 2 + 1, none⟩) hbl4).trans c2⟩)
                | (refine step_app (by rfl) _ _ 49 (by rfl) w4.heap.size 98 i0 (.agg #[.string ByteArray.empty, .string ByteArray.empty]) 2 32 Tryz.underlying49 hi hz0 hz1 hz2 rfl (by omega) (.slice (some ⟨g5, 0, none⟩) k cap5) k (cellsF (M.take k)) (by rfl) (by exact o5) ⟨w4.heap.size, 0, none⟩ 1 1 [.string x.pa, .string x.by_] (by rfl) rfl (World.news_of_block HBK) (fun u hu => by simp at hu; rcases hu with rfl | rfl <;> rfl) (by simp) (by unfold maxLen; omega) (by omega) (by first | exact hs5 | (simp; omega)) ?_; intro g6 cap6 w6 o6 gr6; have HB6 : Below w4.heap.size w4 w6 := (by first | exact growOwn HB5 hs5 o5 gr6 (Nat.le_refl _) | exact growOwn HB5.drew (by simp; omega) (ownsUnder o5 ((Below.refl _ _).drew) (Nat.le_refl _)) gr6 (Nat.le_refl _)); have SS6 : w6.cell? ⟨b, o + j * 2, none⟩ = some (.string x.pa) ∧ w6.cell? ⟨b, o + j * 2 + 1, none⟩ = some (.string x.by_) := ⟨(HB6.cell (p := ⟨b, o + j * 2, none⟩) hbl4).trans c1, (HB6.cell (p := ⟨b, o + j * 2 + 1, none⟩) hbl4).trans c2⟩)
                | (refine step_app (by rfl) _ _ 49 (by rfl) w4.heap.size 98 i0 (.agg #[.string ByteArray.empty, .string ByteArray.empty]) 2 32 Tryz.underlying49 hi hz0 hz1 hz2 rfl (by omega) (.slice (some ⟨g6, 0, none⟩) (k + 1) cap6) (k + 1) (cellsF (M.take k) ++ [.string x.pa, .string x.by_]) (by rfl) (by exact o6) ⟨g4, 0, none⟩ 0 cap4 (cellsF (M.drop k)) (by rfl) (by rw [cellsF_length]; have := LD0.out; omega) (newsOwn O4.out HB6) (cellsF_one _) (by simp) (by unfold maxLen; omega) (by omega) (by first | exact HB6.size | (have := HB6.size; simp; omega)) ?_; intro g7 cap7 w7 o7 gr7; have HB7 : Below w4.heap.size w4 w7 := (by first | exact growOwn HB6 HB6.size o6 gr7 (Nat.le_refl _) | exact growOwn HB6.drew (by have := HB6.size; simp; omega) (ownsUnder o6 ((Below.refl _ _).drew) (Nat.le_refl _)) gr7 (Nat.le_refl _)); have SS7 : w7.cell? ⟨b, o + j * 2, none⟩ = some (.string x.pa) ∧ w7.cell? ⟨b, o + j * 2 + 1, none⟩ = some (.string x.by_) := ⟨(HB7.cell (p := ⟨b, o + j * 2, none⟩) hbl4).trans c1, (HB7.cell (p := ⟨b, o + j * 2 + 1, none⟩) hbl4).trans c2⟩))
            all_goals
              go_wp2
              go_roundw
              case rel =>
                have hMl := HM2.out
                have hkM := HkM.out
                have eM : insF M x = (M.take k ++ [x]) ++ M.drop k := HI.out
                have eC : cellsF (M.take k) ++ [.string x.pa, .string x.by_] ++ cellsF (M.drop k) = cellsF (insF M x) := by rw [eM, cellsF_append, cellsF_append]; rfl
                have hl7 : k + 1 + 0 = (insF M x).length := by rw [len_insF]; omega
                refine ⟨j + 1, g7, cap7, insF M x, by omega, by go_num, by rw [← hl7], by rw [len_insF]; omega, ?_, ?_, (hb.trans (hb3.mono hsz)).trans ((hb4.trans (HB7.mono hs4)).mono (by omega))⟩
                · show insF M x = sortF (L.take (j + 1))
                  rw [sort_take L j hlt, ← HM.out, HX.out]
                · rw [← hl7, ← eC]
                  exact ownsUpF o7 (by omega)
              case measure => simp [RowKit.intOf]; omega
          · have hck2 : ¬ ((cap : Nat) : Int) = k := by omega
            go_wp2_with (go_at_call 108; refine (l4Copy_at g (k * 2) (cap - k) (M.length - k) (M.drop k) w3 (by have := rdF_drop HR3.out k; rwa [Nat.zero_add] at this) (by have := LD.out; omega) LD.out).mono ?_; rintro e w4 ⟨⟨g4, cap4, rfl, o4⟩, hb4⟩)
            have hs4 := hb4.size
            have c1 : w4.cell? ⟨b, o + j * 2, none⟩ = some (.string x.pa) := (hb4.cell (p := ⟨b, o + j * 2, none⟩) hbl3).trans C1.out
            have c2 : w4.cell? ⟨b, o + j * 2 + 1, none⟩ = some (.string x.by_) := (hb4.cell (p := ⟨b, o + j * 2 + 1, none⟩) hbl3).trans C2.out
            have hbl4 : b < w4.heap.size := by omega
            have HR4 : Hid (RdF w4.heap.size w4 (some ⟨g, 0, none⟩) (M.take k)) := rdF_take (HR3.out.up hb4) k
            have O4 : Hid (w4.ownsRow w3.heap.size 98 2 (.slice (some ⟨g4, 0, none⟩) (M.length - k) cap4) (M.length - k) (cellsF (M.drop k))) := o4
            clear o4
            go_region_held_law (fun w' => w'.cell? ⟨b, o + j * 2, none⟩ = some (.string x.pa) ∧ w'.cell? ⟨b, o + j * 2 + 1, none⟩ = some (.string x.by_)) (first | exact ⟨c1, c2⟩ | exact SS7 | exact SS6 | exact SS | exact ⟨(World.cell?_alloc_lt _ _ _ hbl4).trans c1, (World.cell?_alloc_lt _ _ _ hbl4).trans c2⟩ | exact ⟨(World.cell?_alloc_lt _ _ _ hbl5).trans SS.1, (World.cell?_alloc_lt _ _ _ hbl5).trans SS.2⟩ | go_keep)
              (first
                | (go_at_call 108; refine (l4Copy_on g 0 cap k (M.take k) w4 _ (by first | exact Below.refl _ _ | exact (Below.refl _ _).drew | exact (Below.refl _ _).alloc (Nat.le_refl _) _ | exact ((Below.refl _ _).alloc (Nat.le_refl _) _).drew) HR4.out (by have := LT.out; omega) LT.out).mono ?_; rintro e w5 ⟨g5, cap5, rfl, o5, HB5, hb5⟩; have hs5 := HB5.size; have SS : w5.cell? ⟨b, o + j * 2, none⟩ = some (.string x.pa) ∧ w5.cell? ⟨b, o + j * 2 + 1, none⟩ = some (.string x.by_) := ⟨(HB5.cell (p := ⟨b, o + j * 2, none⟩) hbl4).trans c1, (HB5.cell (p := ⟨b, o + j * 2 + 1, none⟩) hbl4).trans c2⟩; have hbl5 : b < w5.heap.size := Nat.lt_of_lt_of_le hbl4 hs5; (try have HBK := (hb5.block w4.heap.size (by simp)).trans (heap_alloc_new w4 _)); clear hb5)
                | (refine step_app (by rfl) _ _ 49 (by rfl) w4.heap.size 98 i0 (.agg #[.string ByteArray.empty, .string ByteArray.empty]) 2 32 Tryz.underlying49 hi hz0 hz1 hz2 rfl (by omega) (.slice (some ⟨g5, 0, none⟩) k cap5) k (cellsF (M.take k)) (by rfl) (by first | exact o5 | exact ownsUnder o5 ((Below.refl _ _).alloc (Nat.le_refl _) _) (Nat.le_refl _) | exact ownsUnder o5 (((Below.refl _ _).alloc (Nat.le_refl _) _).drew) (Nat.le_refl _)) ⟨w5.heap.size, 0, none⟩ 1 1 [.string x.pa, .string x.by_] (by rfl) rfl (World.news_of_block (heap_alloc_new w5 _)) (fun u hu => by simp at hu; rcases hu with rfl | rfl <;> rfl) (by simp) (by unfold maxLen; omega) (by omega) (by first | exact hs5 | (simp; omega)) ?_; intro g6 cap6 w6 o6 gr6; have HB6 : Below w4.heap.size w4 w6 := (by first | exact growOwn (HB5.alloc hs5 (.cells #[.string x.pa, .string x.by_] 98)) (by simp; omega) (ownsUnder o5 ((Below.refl _ _).alloc (Nat.le_refl _) _) (Nat.le_refl _)) gr6 (Nat.le_refl _) | exact growOwn ((HB5.alloc hs5 (.cells #[.string x.pa, .string x.by_] 98)).drew) (by simp; omega) (ownsUnder o5 (((Below.refl _ _).alloc (Nat.le_refl _) _).drew) (Nat.le_refl _)) gr6 (Nat.le_refl _)); have SS6 : w6.cell? ⟨b, o + j * 2, none⟩ = some (.string x.pa) ∧ w6.cell? ⟨b, o + j * 2 + 1, none⟩ = some (.string x.by_) := ⟨(HB6.cell (p := ⟨b, o + j * 2, none⟩) hbl4).trans c1, (HB6.cell (p := ⟨b, o + j * 2 + 1, none⟩) hbl4).trans c2⟩)
                | (refine step_app (by rfl) _ _ 49 (by rfl) w4.heap.size 98 i0 (.agg #[.string ByteArray.empty, .string ByteArray.empty]) 2 32 Tryz.underlying49 hi hz0 hz1 hz2 rfl (by omega) (.slice (some ⟨g5, 0, none⟩) k cap5) k (cellsF (M.take k)) (by rfl) (by exact o5) ⟨w4.heap.size, 0, none⟩ 1 1 [.string x.pa, .string x.by_] (by rfl) rfl (World.news_of_block HBK) (fun u hu => by simp at hu; rcases hu with rfl | rfl <;> rfl) (by simp) (by unfold maxLen; omega) (by omega) (by first | exact hs5 | (simp; omega)) ?_; intro g6 cap6 w6 o6 gr6; have HB6 : Below w4.heap.size w4 w6 := (by first | exact growOwn HB5 hs5 o5 gr6 (Nat.le_refl _) | exact growOwn HB5.drew (by simp; omega) (ownsUnder o5 ((Below.refl _ _).drew) (Nat.le_refl _)) gr6 (Nat.le_refl _)); have SS6 : w6.cell? ⟨b, o + j * 2, none⟩ = some (.string x.pa) ∧ w6.cell? ⟨b, o + j * 2 + 1, none⟩ = some (.string x.by_) := ⟨(HB6.cell (p := ⟨b, o + j * 2, none⟩) hbl4).trans c1, (HB6.cell (p := ⟨b, o + j * 2 + 1, none⟩) hbl4).trans c2⟩)
                | (refine step_app (by rfl) _ _ 49 (by rfl) w4.heap.size 98 i0 (.agg #[.string ByteArray.empty, .string ByteArray.empty]) 2 32 Tryz.underlying49 hi hz0 hz1 hz2 rfl (by omega) (.slice (some ⟨g6, 0, none⟩) (k + 1) cap6) (k + 1) (cellsF (M.take k) ++ [.string x.pa, .string x.by_]) (by rfl) (by exact o6) ⟨g4, 0, none⟩ (M.length - k) cap4 (cellsF (M.drop k)) (by rfl) (by rw [cellsF_length]; have := LD.out; omega) (newsOwn O4.out HB6) (cellsF_one _) (by simp) (by unfold maxLen; omega) (by omega) (by first | exact HB6.size | (have := HB6.size; simp; omega)) ?_; intro g7 cap7 w7 o7 gr7; have HB7 : Below w4.heap.size w4 w7 := (by first | exact growOwn HB6 HB6.size o6 gr7 (Nat.le_refl _) | exact growOwn HB6.drew (by have := HB6.size; simp; omega) (ownsUnder o6 ((Below.refl _ _).drew) (Nat.le_refl _)) gr7 (Nat.le_refl _)); have SS7 : w7.cell? ⟨b, o + j * 2, none⟩ = some (.string x.pa) ∧ w7.cell? ⟨b, o + j * 2 + 1, none⟩ = some (.string x.by_) := ⟨(HB7.cell (p := ⟨b, o + j * 2, none⟩) hbl4).trans c1, (HB7.cell (p := ⟨b, o + j * 2 + 1, none⟩) hbl4).trans c2⟩))
            all_goals
              go_wp2
              go_roundw
              case rel =>
                have hMl := HM2.out
                have eM : insF M x = (M.take k ++ [x]) ++ M.drop k := HI.out
                have eC : cellsF (M.take k) ++ [.string x.pa, .string x.by_] ++ cellsF (M.drop k) = cellsF (insF M x) := by rw [eM, cellsF_append, cellsF_append]; rfl
                have hl7 : k + 1 + (M.length - k) = (insF M x).length := by rw [len_insF]; omega
                refine ⟨j + 1, g7, cap7, insF M x, by omega, by go_num, by rw [← hl7], by rw [len_insF]; omega, ?_, ?_, (hb.trans (hb3.mono hsz)).trans ((hb4.trans (HB7.mono hs4)).mono (by omega))⟩
                · show insF M x = sortF (L.take (j + 1))
                  rw [sort_take L j hlt, ← HM.out, HX.out]
                · rw [← hl7, ← eC]
                  exact ownsUpF o7 (by omega)
              case measure => simp [RowKit.intOf]; omega
    · go_wp2
      go_ret
      obtain rfl : j = L.length := by omega
      have e := HM.out
      rw [List.take_length] at e
      rw [← hM]
      exact ⟨⟨g, cap, rfl, by rw [← e]; exact hown⟩, hb⟩
end Go.Proofs.YthfffpdkmoclbaaGreatDoor.W
namespace Go.Proofs.YthfffpdkmoclbaaGreatDoor.W
open Go.RowKit Go.Lib Go.Proofs.YthfffpdkmoclbaaGreatDoor.M

def idxF : List TF → ByteArray → Nat
  | [], _ => 0
  | x :: l, p => if x.pa = p then 0 else idxF l p + 1
theorem idxF_none (L : List TF) (p : ByteArray) (h : findF L p = none) : idxF L p = L.length := by
  induction L with
  | nil => rfl
  | cons y l ih =>
    unfold findF at h
    split at h
    · cases h
    · rename_i hn; unfold idxF; rw [if_neg hn, ih h]; rfl
theorem idxF_lt (L : List TF) (p t : ByteArray) (h : findF L p = some t) : idxF L p < L.length := by
  induction L with
  | nil => cases h
  | cons y l ih =>
    unfold findF at h
    unfold idxF
    split at h
    · rename_i hn; rw [if_pos hn]; simp
    · rename_i hn; rw [if_neg hn]; have := ih h; simp; omega
theorem cutF_at (L : List TF) (p t : ByteArray) (h : findF L p = some t) : cutF L p = L.take (idxF L p) ++ L.drop (idxF L p + 1) := by
  induction L with
  | nil => cases h
  | cons y l ih =>
    unfold findF at h
    unfold idxF cutF
    split at h
    · rename_i hn; rw [if_pos hn, if_pos hn]; rfl
    · rename_i hn; rw [if_neg hn, if_neg hn, ih h]; rfl
theorem putF_at (L : List TF) (p b t : ByteArray) (h : findF L p = some t) : putF L p b = L.set (idxF L p) ⟨p, b⟩ := by
  induction L with
  | nil => cases h
  | cons y l ih =>
    unfold findF at h
    unfold idxF putF
    split at h
    · rename_i hn; rw [if_pos hn, if_pos hn, hn]; rfl
    · rename_i hn; rw [if_neg hn, if_neg hn, ih h]; rfl
theorem idxF_get (L : List TF) (p t : ByteArray) (h : findF L p = some t) (hl : idxF L p < L.length) : (L[idxF L p]).pa = p := by
  induction L with
  | nil => cases h
  | cons y l ih =>
    unfold findF at h
    split at h
    · rename_i hn
      have e : idxF (y :: l) p = 0 := by unfold idxF; rw [if_pos hn]
      simp only [e]; exact hn
    · rename_i hn
      have e : idxF (y :: l) p = idxF l p + 1 := by conv => lhs; unfold idxF; rw [if_neg hn]
      simp only [e]
      exact ih h (idxF_lt l p t h)
theorem cellsF_set1 (L : List TF) (j : Nat) (b : ByteArray) (h : j < L.length) : (cellsF L).set (j * 2 + 1) (.string b) = cellsF (L.set j ⟨(L[j]).pa, b⟩) := by
  induction L generalizing j with
  | nil => simp at h
  | cons y l ih =>
    cases j with
    | zero => rw [List.set_cons_zero, cellsF_cons, cellsF_cons]; rfl
    | succ j =>
      rw [List.set_cons_succ, cellsF_cons, cellsF_cons, show (j + 1) * 2 + 1 = j * 2 + 1 + 1 + 1 by omega]
      have := ih j (by simpa using h)
      simpa using this
theorem boxCell (w : World) (cs : Array Value) (t : TypeId) (j : Nat) (u : Value) (h : cs.toList[j]? = some u) : (w.alloc (.cells cs t)).cell? ⟨w.heap.size, j, none⟩ = some u := by
  have h1 := cells_new w cs t j u h
  have ea : (⟨w.heap.size, 0, none⟩ : Addr).add j = ⟨w.heap.size, j, none⟩ := by unfold Addr.add; split <;> simp_all
  rwa [ea] at h1
theorem idxF_step (L : List TF) (p : ByteArray) (j : Nat) (h : j < L.length) : idxF (L.drop j) p = if (L[j]).pa = p then 0 else idxF (L.drop (j + 1)) p + 1 := by
  rw [List.drop_eq_getElem_cons h]; rfl
set_option maxHeartbeats 1000000 in
theorem l4Find_idx (A : Option Addr) (c : Nat) (L : List TF) (p : ByteArray) (w : World) (hL : RdF w.heap.size w A L) (hn : L.length ≤ 1048576) :
    Calls Tryz.prog 133 #[.slice A L.length c, .string p] w fun e w' => ((e = .returned (.int .i64 (-1)) ∧ findF L p = none) ∨ (e = .returned (.int .i64 (idxF L p)) ∧ ∃ t, findF L p = some t)) ∧ w = w' := by
  have HL : Hid (RdF w.heap.size w A L) := hL
  clear hL
  go_enter Tryz.func133, Tryz.ntmps133
  go_wp2
  go_loopw [5] (fun iv wr => ∃ j : Nat, j ≤ L.length ∧ iv = .int .i64 j ∧ Hid (findF L p = findF (L.drop j) p ∧ idxF L p = j + idxF (L.drop j) p) ∧ w = wr) (fun i _ => L.length - (RowKit.intOf i).toNat)
  case atStart => exact ⟨0, Nat.zero_le _, rfl, (show findF L p = findF (L.drop 0) p ∧ idxF L p = 0 + idxF (L.drop 0) p from ⟨rfl, by simp⟩), rfl⟩
  case round =>
    obtain ⟨j, hj, rfl, HS, rfl⟩ := hrel
    by_cases hlt : j < L.length
    · have HX : Hid (findF L p = _) := HS.out.1.trans (findF_step L p j hlt)
      have HZ : Hid (idxF L p = j + _) := HS.out.2.trans (by rw [idxF_step L p j hlt])
      obtain ⟨b, o, rfl, hbl, c1, c2⟩ := HL.out j hlt
      by_cases hq : (L[j]).pa = p
      · have HY : Hid (∃ t, findF L p = some t) := (show ∃ t, findF L p = some t from ⟨(L[j]).by_, by have := HX.out; rwa [if_pos hq] at this⟩)
        have HW : Hid (idxF L p = j) := (show idxF L p = j by have := HZ.out; rwa [if_pos hq, Nat.add_zero] at this)
        rw [hq] at c1
        clear HX HZ hq HS
        go_wp2
        go_ret
        exact ⟨Or.inr ⟨by rw [HW.out]; rfl, HY.out⟩, rfl⟩
      · have HY : Hid (findF L p = findF (L.drop (j + 1)) p ∧ idxF L p = j + 1 + idxF (L.drop (j + 1)) p) := (show _ ∧ _ from ⟨by have := HX.out; rwa [if_neg hq] at this, by have := HZ.out; rw [if_neg hq] at this; omega⟩)
        generalize (L[j]).pa = f at *
        generalize (L[j]).by_ = f' at *
        have hbe := bytes_ne hq
        clear HX HZ HS
        go_wp2
        go_roundw
        case rel => exact ⟨j + 1, by omega, by go_num, HY, trivial⟩
        case measure => simp [RowKit.intOf]; omega
    · go_wp2
      go_ret
      obtain rfl : j = L.length := by omega
      have e := HS.out.1
      rw [List.drop_length] at e
      exact ⟨Or.inl ⟨rfl, e⟩, rfl⟩

theorem step_app2 {P : Program} {w : World} {ops : Array Oper} {o : Oper} {a : Act} {K : Act → World → Prop} {Q : Exit → Act → World → Prop} {E : Prop} (d : Tmp) (hd : o.dst = some d) (hgd : o.guard = none) (s x : Operand) (t : TypeId)
    (ho : o.op = .call { callee := .builtin .append, args := #[s, x], argTypes := #[t, t] })
    (base : Nat) (e : TypeId) (i : TypeInfo) (z : Value) (size bytes : Nat) (ht : P.underlying t = some (.slice e)) (hi : P.info? e = some i) (hz : i.zero = some z)
    (hsize : i.size = size) (hby : i.bytes = bytes) (hzs : z.cells.size = size) (hsz : 0 < size)
    (v : Value) (n : Nat) (xs : List Value) (hs : a.eval s = v) (hown : w.ownsRow base e size v n xs)
    (ad : Addr) (m c : Nat) (news : List Value) (hx : a.eval x = .slice (some ad) m c) (hl : news.length = m * size) (hnews : ∀ j u, news[j]? = some u → w.cell? (ad.add j) = some u) (h1 : ∀ u ∈ news, u.oneCell' = true)
    (hnm : v ≠ .slice none 0 0) (h63 : n + m ≤ maxLen) (hbytes : (n + m) * bytes ≤ 140737488355328) (hbase : base ≤ w.heap.size)
    (h : ∀ g cap w', w'.ownsRow base e size (.slice (some ⟨g, 0, none⟩) (n + m) cap) (n + m) (xs ++ news) → w.grownBy w' v.ownBlock → K (a.put (some d) (.slice (some ⟨g, 0, none⟩) (n + m) cap)) w') :
    if Region.wanted o (yielded ops a.tmps) = true then Oper.wp P o a w K Q else E :=
  step_app hgd s x t ho base e i z size bytes ht hi hz hsize hby hzs hsz v n xs hs hown ad m c news hx hl hnews h1 hnm h63 hbytes hbase fun g cap w' h2 h3 => by rw [hd]; exact h g cap w' h2 h3
/-- l4Sorted of a row that was made behind a world: told of that world -/
theorem sorted_on (g cap n : Nat) (L : List TF) (v W : World) (HB : Below v.heap.size v W) (ho : W.ownsRow v.heap.size 98 2 (.slice (some ⟨g, 0, none⟩) n cap) n (cellsF L)) (e : n = L.length) (hn : n ≤ 1000) :
    Calls Tryz.prog 134 #[.slice (some ⟨g, 0, none⟩) n cap] W fun e w' => ∃ g' c', e = .returned (.slice (some ⟨g', 0, none⟩) n c') ∧ w'.ownsRow v.heap.size 98 2 (.slice (some ⟨g', 0, none⟩) n c') n (cellsF (sortF L)) ∧ Below v.heap.size v w' := by
  subst e
  obtain ⟨A, c, e1, hR⟩ := rdF_of_own ho
  cases e1
  refine (l4Sorted_own g 0 cap L W hR hn).mono ?_
  rintro e w' ⟨⟨g', c', rfl, h⟩, hb⟩
  exact ⟨g', c', rfl, ownsUpF h HB.size, HB.trans (hb.mono HB.size)⟩
set_option maxHeartbeats 2000000 in
set_option maxRecDepth 100000 in
/-- nothing is turned -/
theorem l4Turn_no (g c : Nat) (L : List TF) (p b : ByteArray) (w : World) (hL : RdF w.heap.size w (some ⟨g, 0, none⟩) L) (hn : L.length ≤ 500) (ht : findF L p = none ∨ b ≠ ByteArray.empty) :
    Calls Tryz.prog 109 #[.slice (some ⟨g, 0, none⟩) L.length c, .agg #[.string p, .string b, .bool true]] w fun e w' => (∃ v, e = .returned (.tuple #[v, .bool false])) ∧ Below w.heap.size w w' := by
  have HL : Hid (RdF w.heap.size w (some ⟨g, 0, none⟩) L) := hL
  have hcall := fun (W : World) (hW : Below w.heap.size w W) => l4Find_idx _ c L p W (HL.out.up hW) (by omega)
  obtain ⟨k, hk⟩ : ∃ k, idxF L p = k := ⟨_, rfl⟩
  rw [hk] at hcall
  clear hL hk
  cases hf : findF L p with
  | none =>
    have HF : Hid (findF L p = none) := hf
    clear ht hf
    go_enter Tryz.func109, Tryz.ntmps109
    go_wp2_with (go_at_call 133; refine (hcall _ ((Below.refl _ _).alloc (Nat.le_refl _) _)).mono ?_; rintro e w1 ⟨⟨rfl, hF⟩ | ⟨rfl, ⟨t, hF⟩⟩, rfl⟩; rotate_left; exact absurd (HF.out.symm.trans hF) (by simp))
    go_ret2
    exact ⟨⟨_, rfl⟩, (Below.refl _ _).alloc (Nat.le_refl _) _⟩
  | some t =>
    have HF : Hid (findF L p = some t) := hf
    have z1 : b.toList.isEmpty = false := by
      rcases ht with h | h
      · rw [hf] at h; cases h
      · rw [Lib.toList_data]
        cases h9 : b.data.toList with
        | nil => exact absurd (pa_eq (by rw [h9]; rfl)) h
        | cons => rfl
    have z2 : ¬ ((k : Nat) : Int) < 0 := by omega
    clear ht hf
    go_enter Tryz.func109, Tryz.ntmps109
    go_wp2_with (go_at_call 133; refine (hcall _ ((Below.refl _ _).alloc (Nat.le_refl _) _)).mono ?_; rintro e w1 ⟨⟨rfl, hF⟩ | ⟨rfl, hF⟩, rfl⟩; exact absurd (HF.out.symm.trans hF) (by simp))
    go_ret2
    exact ⟨⟨_, rfl⟩, (Below.refl _ _).alloc (Nat.le_refl _) _⟩

set_option maxHeartbeats 4000000 in
set_option maxRecDepth 100000 in
/-- a file is cut out -/
theorem l4Turn_cut (g c : Nat) (L : List TF) (p b : ByteArray) (w : World) (hL : RdF w.heap.size w (some ⟨g, 0, none⟩) L) (hn : L.length ≤ 500) (hc : L.length ≤ c) (t : ByteArray) (hf : findF L p = some t) (hb : b = ByteArray.empty) :
    Calls Tryz.prog 109 #[.slice (some ⟨g, 0, none⟩) L.length c, .agg #[.string p, .string b, .bool true]] w fun e w' => (∃ g' c', e = .returned (.tuple #[.slice (some ⟨g', 0, none⟩) (cutF L p).length c', .bool true]) ∧ w'.ownsRow w.heap.size 98 2 (.slice (some ⟨g', 0, none⟩) (cutF L p).length c') (cutF L p).length (cellsF (cutF L p))) ∧ Below w.heap.size w w' := by
  have HL : Hid (RdF w.heap.size w (some ⟨g, 0, none⟩) L) := hL
  have hkl := idxF_lt L p t hf
  have HC : Hid (cutF L p = _) := cutF_at L p t hf
  obtain ⟨i0, hi, hz0, hz1, hz2⟩ := info_parts infoF
  subst hb
  clear hL
  have HF : Hid (findF L p = some t) := hf
  have hcall := fun (W : World) (hW : Below w.heap.size w W) => l4Find_idx _ c L p W (HL.out.up hW) (by omega)
  obtain ⟨k, hk⟩ : ∃ k, idxF L p = k := ⟨_, rfl⟩
  rw [hk] at hkl HC hcall
  clear hk hf
  go_enter Tryz.func109, Tryz.ntmps109
  go_wp2_with (go_at_call 133; refine (hcall _ ((Below.refl _ _).alloc (Nat.le_refl _) _)).mono ?_; rintro e w1 ⟨⟨rfl, hF⟩ | ⟨rfl, hF⟩, rfl⟩; exact absurd (HF.out.symm.trans hF) (by simp); have z2 : ¬ ((k : Nat) : Int) < 0 := by omega)
  have HB1 : Below w.heap.size w (w.alloc (.cells #[.string p, .string ByteArray.empty, .bool true] 144)) := (Below.refl _ _).alloc (Nat.le_refl _) _
  obtain ⟨w1, hw1⟩ : ∃ w1, w1 = w.alloc (.cells #[.string p, .string ByteArray.empty, .bool true] 144) := ⟨_, rfl⟩
  rw [← hw1] at HB1 ⊢
  clear hw1 hF hcall
  have hs1 := HB1.size
  have HR : Hid (RdF w1.heap.size w1 (some ⟨g, 0, none⟩) L) := HL.out.up HB1
  have LT : Hid (k = (L.take k).length) := (show k = (L.take k).length by simp; omega)
  have HN : Hid ((cutF L p).length = k + (L.length - (k + 1))) := (show (cutF L p).length = _ by rw [HC.out, List.length_append, List.length_take, List.length_drop]; omega)
  have HX : Hid (cellsF (L.take k) ++ cellsF (L.drop (k + 1)) = cellsF (cutF L p)) := (show _ = _ by rw [HC.out, cellsF_append])
  have HN2 : Hid ((cutF L p).length = k + (L.length - (k + 1))) := HN
  clear HN
  obtain ⟨m, hm⟩ : ∃ m : Nat, m = k + 1 := ⟨_, rfl⟩
  rw [← hm] at HN2 HX
  have hmI : (k : Int) + 1 = (m : Int) := by omega
  have HM : Hid (m = k + 1) := hm
  have hm5 : m ≤ 500 := by omega
  have hmL : m ≤ L.length := by omega
  have hmc : m ≤ c := by omega
  have hkc : k ≤ c := by omega
  have hkL : k ≤ L.length := by omega
  have HD : Hid (L.length - m = (L.drop m).length) := (show L.length - m = (L.drop m).length by simp)
  have HKL : Hid (k < L.length) := hkl
  clear hm hkl
  have hAB : (0 : Int) ≤ (m : Int) ∧ (m : Int) ≤ (L.length : Int) := by omega
  have hAB1 : (m : Int) ≤ (L.length : Int) := by omega
  have hAB2 : (0 : Int) ≤ (m : Int) := by omega
  have hwm : IntKind.i64.wrap (m : Int) = (m : Int) := by rw [IntKind.wrap_i64]; omega
  by_cases hck : c = m
  · subst hck
    have HR2 : Hid (RdF w1.heap.size w1 (some ⟨g, 0, none⟩) (L.drop c)) := (show RdF _ _ _ _ from fun j hj => by have := HD.out; omega)
    go_region_held_law (fun _ => True) (trivial)
      (first
        | (go_at_call 108; refine (l4Copy_on g 0 _ k (L.take k) w1 _ (by first | exact Below.refl _ _ | exact (Below.refl _ _).drew | exact (Below.refl _ _).alloc (Nat.le_refl _) _ | exact ((Below.refl _ _).alloc (Nat.le_refl _) _).drew) (rdF_take HR.out k) (by have := LT.out; omega) LT.out).mono ?_; rintro e w2 ⟨g5, cap5, rfl, o5, HB5, hb5⟩; have hs5 := HB5.size; clear hb5)
        | (refine step_app2 _ (by rfl) (by rfl) _ _ 49 (by rfl) w1.heap.size 98 i0 (.agg #[.string ByteArray.empty, .string ByteArray.empty]) 2 32 Tryz.underlying49 hi hz0 hz1 hz2 rfl (by omega) (.slice (some ⟨g5, 0, none⟩) k cap5) k (cellsF (L.take k)) (by rfl) (by exact o5) ⟨g, 0, none⟩ 0 0 (cellsF (L.drop c)) (by rfl) (by have := HD.out; rw [cellsF_length]; omega) (rdF_cells (HR2.out.below HB5 (Nat.le_refl _))) (cellsF_one _) (by simp) (by unfold maxLen; omega) (by omega) (by exact hs5) ?_; intro g6 cap6 w6 o6 gr6; have HB6 : Below w1.heap.size w1 w6 := growOwn HB5 hs5 o5 gr6 (Nat.le_refl _)))
    all_goals
      go_wp2
      go_ret2
      have hl := HN2.out
      have hx := HX.out
      rw [show (cutF L p).length = k + 0 by omega]
      refine ⟨⟨g6, cap6, ?_, by rw [← hx]; exact ownsUpF o6 hs1⟩, HB1.trans (HB6.mono hs1)⟩
      first | rfl | trace_state
  · have hck2 : ¬ ((c : Nat) : Int) = (m : Int) := by omega
    have HR2 : Hid (RdF w1.heap.size w1 (some ⟨g, m * 2, none⟩) (L.drop m)) := (show RdF _ _ _ _ from by have := rdF_drop HR.out m; rwa [Nat.zero_add] at this)
    go_region_held_law (fun _ => True) (trivial)
      (first
        | (go_at_call 108; refine (l4Copy_on g 0 _ k (L.take k) w1 _ (by first | exact Below.refl _ _ | exact (Below.refl _ _).drew | exact (Below.refl _ _).alloc (Nat.le_refl _) _ | exact ((Below.refl _ _).alloc (Nat.le_refl _) _).drew) (rdF_take HR.out k) (by have := LT.out; omega) LT.out).mono ?_; rintro e w2 ⟨g5, cap5, rfl, o5, HB5, hb5⟩; have hs5 := HB5.size; clear hb5)
        | (refine step_app2 _ (by rfl) (by rfl) _ _ 49 (by rfl) w1.heap.size 98 i0 (.agg #[.string ByteArray.empty, .string ByteArray.empty]) 2 32 Tryz.underlying49 hi hz0 hz1 hz2 rfl (by omega) (.slice (some ⟨g5, 0, none⟩) k cap5) k (cellsF (L.take k)) (by rfl) (by exact o5) ⟨g, m * 2, none⟩ (L.length - m) (c - m) (cellsF (L.drop m)) (by rfl) (by rw [cellsF_length, ← HD.out]) (rdF_cells (HR2.out.below HB5 (Nat.le_refl _))) (cellsF_one _) (by simp) (by unfold maxLen; omega) (by omega) (by exact hs5) ?_; intro g6 cap6 w6 o6 gr6; have HB6 : Below w1.heap.size w1 w6 := growOwn HB5 hs5 o5 gr6 (Nat.le_refl _)))
    all_goals
      go_wp2
      go_ret2
      have hl := HN2.out
      have hx := HX.out
      rw [hl]
      refine ⟨⟨g6, cap6, ?_, by rw [← hx]; exact ownsUpF o6 hs1⟩, HB1.trans (HB6.mono hs1)⟩
      first | rfl | trace_state

set_option maxHeartbeats 4000000 in
set_option maxRecDepth 100000 in
/-- a file that is there has other bytes -/
theorem l4Turn_put (g c : Nat) (L : List TF) (p b : ByteArray) (w : World) (hL : RdF w.heap.size w (some ⟨g, 0, none⟩) L) (hn : L.length ≤ 500) (t : ByteArray) (hf : findF L p = some t) :
    Calls Tryz.prog 109 #[.slice (some ⟨g, 0, none⟩) L.length c, .agg #[.string p, .string b, .bool false]] w fun e w' => (∃ g' c', e = .returned (.tuple #[.slice (some ⟨g', 0, none⟩) L.length c', .bool true]) ∧ w'.ownsRow w.heap.size 98 2 (.slice (some ⟨g', 0, none⟩) L.length c') L.length (cellsF (putF L p b))) ∧ Below w.heap.size w w' := by
  have HL : Hid (RdF w.heap.size w (some ⟨g, 0, none⟩) L) := hL
  have hkl := idxF_lt L p t hf
  have HP : Hid ((cellsF L).set (idxF L p * 2 + 1) (.string b) = cellsF (putF L p b)) := (show _ = _ by rw [putF_at L p b t hf, cellsF_set1 L _ b hkl, idxF_get L p t hf hkl])
  have HF : Hid (findF L p = some t) := hf
  have hcall := fun (W : World) (hW : Below w.heap.size w W) => l4Find_idx _ c L p W (HL.out.up hW) (by omega)
  obtain ⟨k, hk⟩ : ∃ k, idxF L p = k := ⟨_, rfl⟩
  rw [hk] at hkl HP hcall
  clear hL hk hf
  have hcop := fun (W : World) (hW : Below w.heap.size w W) => l4Copy_some g 0 c L W (HL.out.up hW) (by omega)
  go_enter Tryz.func109, Tryz.ntmps109
  go_wp2_with (first
    | (go_at_call 133; refine (hcall _ ((Below.refl _ _).alloc (Nat.le_refl _) _)).mono ?_; rintro e w1 ⟨⟨rfl, hF⟩ | ⟨rfl, hF⟩, rfl⟩; exact absurd (HF.out.symm.trans hF) (by simp); have z2 : (0 : Int) ≤ ((k : Nat) : Int) := Int.natCast_nonneg k; clear hF)
    | (go_at_call 108; refine (hcop _ ((Below.refl _ _).alloc (Nat.le_refl _) _)).mono ?_; rintro e w2 ⟨⟨g5, cap5, rfl, o5⟩, hb2⟩; have HB2 : Below w.heap.size w w2 := ((Below.refl _ _).alloc (Nat.le_refl _) _).trans (hb2.mono (by simp)); have hs2 := HB2.size; have e1 : w2.cell? ⟨w.heap.size, 1, none⟩ = some (.string b) := (hb2.cell (p := ⟨w.heap.size, 1, none⟩) (by simp)).trans (boxCell w _ _ 1 _ rfl); have hf5 := o5.frozenAt (k * 2 + 1); obtain ⟨u5, hu5⟩ := ownsCell o5 (k * 2 + 1) (by omega); have HO : Hid (w2.ownsRow (w.heap.size + 1) 98 2 (.slice (some ⟨g5, 0, none⟩) L.length cap5) L.length (cellsF L)) := (show w2.ownsRow (w.heap.size + 1) 98 2 (.slice (some ⟨g5, 0, none⟩) L.length cap5) L.length (cellsF L) by simpa using o5); clear o5 hb2 hcop))
  go_ret2
  have ho := (HO.out.stored (k * 2 + 1) (.string b)).1
  rw [HP.out] at ho
  have hg5 : w.heap.size ≤ g5 := by
    rcases HO.out.2 with ⟨h1, _⟩ | ⟨_, _, _, h1, h2, _⟩
    · cases h1
    · cases h1; omega
  exact ⟨⟨g5, cap5, rfl, ownsUpF ho (by omega)⟩, HB2.setCell (p := ⟨g5, k * 2 + 1, none⟩) hg5 _⟩

set_option maxHeartbeats 4000000 in
set_option maxRecDepth 100000 in
/-- a file is put among the others -/
theorem l4Turn_ins (g c : Nat) (L : List TF) (p b : ByteArray) (w : World) (hL : RdF w.heap.size w (some ⟨g, 0, none⟩) L) (hn : L.length ≤ 500) (hf : findF L p = none) :
    Calls Tryz.prog 109 #[.slice (some ⟨g, 0, none⟩) L.length c, .agg #[.string p, .string b, .bool false]] w fun e w' => (∃ g' c', e = .returned (.tuple #[.slice (some ⟨g', 0, none⟩) (L.length + 1) c', .bool true]) ∧ w'.ownsRow w.heap.size 98 2 (.slice (some ⟨g', 0, none⟩) (L.length + 1) c') (L.length + 1) (cellsF (sortF (L ++ [⟨p, b⟩])))) ∧ Below w.heap.size w w' := by
  have HL : Hid (RdF w.heap.size w (some ⟨g, 0, none⟩) L) := hL
  have HF : Hid (findF L p = none) := hf
  have hcall := fun (W : World) (hW : Below w.heap.size w W) => l4Find_idx _ c L p W (HL.out.up hW) (by omega)
  obtain ⟨k, hk⟩ : ∃ k, idxF L p = k := ⟨_, rfl⟩
  rw [hk] at hcall
  obtain ⟨i0, hi, hz0, hz1, hz2⟩ := info_parts infoF
  clear hL hk hf
  go_enter Tryz.func109, Tryz.ntmps109
  go_wp2_with (go_at_call 133; refine (hcall _ ((Below.refl _ _).alloc (Nat.le_refl _) _)).mono ?_; rintro e w1 ⟨⟨rfl, hF⟩ | ⟨rfl, ⟨t, hF⟩⟩, rfl⟩; rotate_left; exact absurd (HF.out.symm.trans hF) (by simp); clear hF hcall)
  have HB1 : Below w.heap.size w (w.alloc (.cells #[.string p, .string b, .bool false] 144)) := (Below.refl _ _).alloc (Nat.le_refl _) _
  have c1 : (w.alloc (.cells #[.string p, .string b, .bool false] 144)).cell? ⟨w.heap.size, 0, none⟩ = some (.string p) := boxCell w _ _ 0 _ rfl
  have c2 : (w.alloc (.cells #[.string p, .string b, .bool false] 144)).cell? ⟨w.heap.size, 1, none⟩ = some (.string b) := boxCell w _ _ 1 _ rfl
  have hbl4 : w.heap.size < (w.alloc (.cells #[.string p, .string b, .bool false] 144)).heap.size := by simp
  obtain ⟨w1, hw1⟩ : ∃ w1, w1 = w.alloc (.cells #[.string p, .string b, .bool false] 144) := ⟨_, rfl⟩
  rw [← hw1] at HB1 c1 c2 hbl4 ⊢
  clear hw1
  have hs1 := HB1.size
  have HR : Hid (RdF w1.heap.size w1 (some ⟨g, 0, none⟩) L) := HL.out.up HB1
  go_region_held_law (fun w' => w'.cell? ⟨w.heap.size, 0, none⟩ = some (.string p) ∧ w'.cell? ⟨w.heap.size, 1, none⟩ = some (.string b)) (first | exact ⟨c1, c2⟩ | exact SS7 | exact SS6 | exact SS | exact ⟨(World.cell?_alloc_lt _ _ _ hbl4).trans c1, (World.cell?_alloc_lt _ _ _ hbl4).trans c2⟩ | exact ⟨(World.cell?_alloc_lt _ _ _ hbl5).trans SS.1, (World.cell?_alloc_lt _ _ _ hbl5).trans SS.2⟩ | go_keep)
    (first
      | (go_at_call 108; refine (l4Copy_on g 0 _ L.length L w1 _ (by first | exact Below.refl _ _ | exact (Below.refl _ _).drew | exact (Below.refl _ _).alloc (Nat.le_refl _) _ | exact ((Below.refl _ _).alloc (Nat.le_refl _) _).drew) HR.out (by omega) rfl).mono ?_; rintro e w5 ⟨g5, cap5, rfl, o5, HB5, hb5⟩; have hs5 := HB5.size; have SS : w5.cell? ⟨w.heap.size, 0, none⟩ = some (.string p) ∧ w5.cell? ⟨w.heap.size, 1, none⟩ = some (.string b) := ⟨(HB5.cell (p := ⟨w.heap.size, 0, none⟩) hbl4).trans c1, (HB5.cell (p := ⟨w.heap.size, 1, none⟩) hbl4).trans c2⟩; have hbl5 : w.heap.size < w5.heap.size := Nat.lt_of_lt_of_le hbl4 hs5; (try have HBK := (hb5.block w1.heap.size (by simp)).trans (heap_alloc_new w1 _)); clear hb5)
      | (refine step_app2 _ (by rfl) (by rfl) _ _ 49 (by rfl) w1.heap.size 98 i0 (.agg #[.string ByteArray.empty, .string ByteArray.empty]) 2 32 Tryz.underlying49 hi hz0 hz1 hz2 rfl (by omega) (.slice (some ⟨g5, 0, none⟩) L.length cap5) L.length (cellsF L) (by rfl) (by first | exact o5 | exact ownsUnder o5 ((Below.refl _ _).alloc (Nat.le_refl _) _) (Nat.le_refl _)) ⟨w5.heap.size, 0, none⟩ 1 1 [.string p, .string b] (by rfl) rfl (World.news_of_block (heap_alloc_new w5 _)) (fun u hu => by simp at hu; rcases hu with rfl | rfl <;> rfl) (by simp) (by unfold maxLen; omega) (by omega) (by first | exact hs5 | (simp; omega)) ?_; intro g6 cap6 w6 o6 gr6; have HB6 : Below w1.heap.size w1 w6 := growOwn (HB5.alloc hs5 (.cells #[.string p, .string b] 98)) (by simp; omega) (ownsUnder o5 ((Below.refl _ _).alloc (Nat.le_refl _) _) (Nat.le_refl _)) gr6 (Nat.le_refl _); have SS6 : w6.cell? ⟨w.heap.size, 0, none⟩ = some (.string p) ∧ w6.cell? ⟨w.heap.size, 1, none⟩ = some (.string b) := ⟨(HB6.cell (p := ⟨w.heap.size, 0, none⟩) hbl4).trans c1, (HB6.cell (p := ⟨w.heap.size, 1, none⟩) hbl4).trans c2⟩)
      | (refine step_app2 _ (by rfl) (by rfl) _ _ 49 (by rfl) w1.heap.size 98 i0 (.agg #[.string ByteArray.empty, .string ByteArray.empty]) 2 32 Tryz.underlying49 hi hz0 hz1 hz2 rfl (by omega) (.slice (some ⟨g5, 0, none⟩) L.length cap5) L.length (cellsF L) (by rfl) (by exact o5) ⟨w1.heap.size, 0, none⟩ 1 1 [.string p, .string b] (by rfl) rfl (World.news_of_block HBK) (fun u hu => by simp at hu; rcases hu with rfl | rfl <;> rfl) (by simp) (by unfold maxLen; omega) (by omega) (by exact hs5) ?_; intro g6 cap6 w6 o6 gr6; have HB6 : Below w1.heap.size w1 w6 := growOwn HB5 hs5 o5 gr6 (Nat.le_refl _); have SS6 : w6.cell? ⟨w.heap.size, 0, none⟩ = some (.string p) ∧ w6.cell? ⟨w.heap.size, 1, none⟩ = some (.string b) := ⟨(HB6.cell (p := ⟨w.heap.size, 0, none⟩) hbl4).trans c1, (HB6.cell (p := ⟨w.heap.size, 1, none⟩) hbl4).trans c2⟩)
      | (go_at_call 134; refine (sorted_on g6 cap6 (L.length + 1) (L ++ [⟨p, b⟩]) w1 w6 HB6 (by rw [cellsF_snoc]; exact o6) (by simp) (by simp; omega)).mono ?_; rintro e w7 ⟨g7, cap7, rfl, o7, HB7⟩; have SS7 : w7.cell? ⟨w.heap.size, 0, none⟩ = some (.string p) ∧ w7.cell? ⟨w.heap.size, 1, none⟩ = some (.string b) := ⟨(HB7.cell (p := ⟨w.heap.size, 0, none⟩) hbl4).trans c1, (HB7.cell (p := ⟨w.heap.size, 1, none⟩) hbl4).trans c2⟩))
  all_goals
    go_wp2
    go_ret2
    refine ⟨⟨g7, cap7, ?_, ownsUpF o7 hs1⟩, HB1.trans (HB7.mono hs1)⟩
    first | rfl | trace_state
end Go.Proofs.YthfffpdkmoclbaaGreatDoor.W
namespace Go.Proofs.YthfffpdkmoclbaaGreatDoor.W
open Go.RowKit

structure TE where
  pa : ByteArray
  by_ : ByteArray
  gone : Bool

def cellsE (L : List TE) : List Value := L.flatMap fun x => [.string x.pa, .string x.by_, .bool x.gone]
theorem cellsE_cons (x : TE) (l : List TE) : cellsE (x :: l) = .string x.pa :: .string x.by_ :: .bool x.gone :: cellsE l := by simp [cellsE]
theorem cellsE_length (L : List TE) : (cellsE L).length = L.length * 3 := by
  induction L with
  | nil => rfl
  | cons x l ih => rw [cellsE_cons]; simp; omega
theorem cellsE_snoc (L : List TE) (x : TE) : cellsE (L ++ [x]) = cellsE L ++ [.string x.pa, .string x.by_, .bool x.gone] := by simp [cellsE]
theorem cellsE_get (L : List TE) (j : Nat) (h : j < L.length) : (cellsE L)[j * 3]? = some (.string (L[j]).pa) ∧ (cellsE L)[j * 3 + 1]? = some (.string (L[j]).by_) ∧ (cellsE L)[j * 3 + 2]? = some (.bool (L[j]).gone) := by
  induction L generalizing j with
  | nil => simp at h
  | cons x l ih =>
    rw [cellsE_cons]
    cases j with
    | zero => simp
    | succ j =>
      have := ih j (by simpa using h)
      rw [show (j + 1) * 3 = j * 3 + 1 + 1 + 1 by omega]
      simpa using this
def RdE (B : Nat) (w : World) (A : Option Addr) (L : List TE) : Prop :=
  ∀ j (h : j < L.length), ∃ b o, A = some ⟨b, o, none⟩ ∧ b < B ∧ w.cell? ⟨b, o + j * 3, none⟩ = some (.string (L[j]).pa) ∧ w.cell? ⟨b, o + j * 3 + 1, none⟩ = some (.string (L[j]).by_) ∧ w.cell? ⟨b, o + j * 3 + 2, none⟩ = some (.bool (L[j]).gone)
theorem RdE.below {B B' : Nat} {w w' : World} {A : Option Addr} {L : List TE} (h : RdE B w A L) (hb : Below B' w w') (hB : B ≤ B') : RdE B w' A L := fun j hj => by
  obtain ⟨b, o, e, hl, c1, c2, c3⟩ := h j hj
  exact ⟨b, o, e, hl, (hb.cell (p := ⟨b, _, none⟩) (by show b < B'; omega)).trans c1, (hb.cell (p := ⟨b, _, none⟩) (by show b < B'; omega)).trans c2, (hb.cell (p := ⟨b, _, none⟩) (by show b < B'; omega)).trans c3⟩
theorem RdE.mono {B B' : Nat} {w : World} {A : Option Addr} {L : List TE} (h : RdE B w A L) (hB : B ≤ B') : RdE B' w A L := fun j hj => by
  obtain ⟨b, o, e, hl, c⟩ := h j hj
  exact ⟨b, o, e, by omega, c⟩
theorem RdE.up {w w' : World} {A : Option Addr} {L : List TE} (h : RdE w.heap.size w A L) (hb : Below w.heap.size w w') : RdE w'.heap.size w' A L := (h.below hb (Nat.le_refl _)).mono hb.size
theorem rdE_of_own {w : World} {base : Nat} {e : TypeId} {v : Value} {L : List TE} (h : w.ownsRow base e 3 v L.length (cellsE L)) : ∃ A c, v = .slice A L.length c ∧ RdE w.heap.size w A L := by
  have hl := h.lt
  rcases h.2 with ⟨rfl, hn⟩ | ⟨g, cap, cur, rfl, _⟩
  · exact ⟨none, 0, by rw [hn], fun j hj => by omega⟩
  · refine ⟨some ⟨g, 0, none⟩, cap, rfl, fun j hj => ⟨g, 0, rfl, (hl g rfl).2, ?_, ?_, ?_⟩⟩
    · rw [Nat.zero_add, h.cellAt (j * 3) (by omega)]; exact (cellsE_get L j hj).1
    · rw [Nat.zero_add, h.cellAt (j * 3 + 1) (by omega)]; exact (cellsE_get L j hj).2.1
    · rw [Nat.zero_add, h.cellAt (j * 3 + 2) (by omega)]; exact (cellsE_get L j hj).2.2

def szE (L : List TE) : Nat := (L.map fun x => x.pa.size + x.by_.size).sum
theorem szE_snoc (L : List TE) (j : Nat) (h : j < L.length) : szE (L.take (j + 1)) = szE (L.take j) + ((L[j]).pa.size + (L[j]).by_.size) := by
  unfold szE
  rw [List.take_succ_eq_append_getElem h]
  simp only [List.map_append, List.sum_append, List.map_cons, List.map_nil, List.sum_cons, List.sum_nil, Nat.add_zero]
theorem szE_le (L : List TE) (j : Nat) : szE (L.take j) ≤ szE L := by
  unfold szE
  conv => rhs; rw [← List.take_append_drop j L]
  simp only [List.map_append, List.sum_append]
  omega

theorem infoE : (Tryz.prog.info? 144).map (fun i => (i.zero, i.size, i.bytes)) = some (some (.agg #[.string ByteArray.empty, .string ByteArray.empty, .bool false]), 3, 40) := by kernel_rfl
def laidE (L : List TE) (j : Nat) : List Value := cellsE (L.take j) ++ (List.replicate (L.length - j) [Value.string ByteArray.empty, .string ByteArray.empty, .bool false]).flatten
theorem laidE_zero (L : List TE) : laidE L 0 = (madeCells #[.string ByteArray.empty, .string ByteArray.empty, .bool false] (L.length * 3)).toList := by
  rw [made_flat _ _ 3 rfl (by decide)]; simp [laidE, cellsE]
theorem laidE_all (L : List TE) : laidE L L.length = cellsE L := by simp [laidE]
theorem laidE_step (L : List TE) (j : Nat) (h : j < L.length) : ((((laidE L j).set (j * 3) (.string (L[j]).pa)).set (j * 3 + 1) (.string (L[j]).by_)).set (j * 3 + 2) (.bool (L[j]).gone)) = laidE L (j + 1) := by
  unfold laidE
  have hl : (cellsE (L.take j)).length = j * 3 := by rw [cellsE_length]; simp; omega
  obtain ⟨m, hm⟩ : ∃ m, L.length - j = m + 1 := ⟨L.length - j - 1, by omega⟩
  have hm' : L.length - (j + 1) = m := by omega
  rw [hm, hm', List.replicate_succ, List.flatten_cons, List.take_succ_eq_append_getElem h, cellsE_snoc]
  rw [List.set_append_right _ _ (by omega), hl, show j * 3 - j * 3 = 0 by omega]
  simp only [List.cons_append, List.nil_append, List.set_cons_zero]
  rw [List.set_append_right _ _ (by omega), hl, show j * 3 + 1 - j * 3 = 1 by omega]
  simp only [List.set_cons_zero, List.set_cons_succ]
  rw [List.set_append_right _ _ (by omega), hl, show j * 3 + 2 - j * 3 = 2 by omega]
  simp only [List.set_cons_zero, List.set_cons_succ]
  simp

end Go.Proofs.YthfffpdkmoclbaaGreatDoor.W
