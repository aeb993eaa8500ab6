/-
  ObjKids of the program and of the specification. Texts of at most 1048576 bytes.
  What some ids lead to in a pool: all that they name, and what that names. Rising lists of such ids are one. No condition.
  What is found behind edits: what the last edit of a path says, else what was there. No condition.
-/
import Derived.Test.YthfffpdkmoclbaaGreatDoorMg28
import Derived.Test.YthfffpdkmoclbaaGreatDoorMg33
import Derived.Maps.AppendAt
import Derived.Test.YthfffpdkmoclbaaGreatDoorMg32
import Derived.Test.YthfffpdkmoclbaaGreatDoorMg18
namespace Go.Proofs.YthfffpdkmoclbaaGreatDoor.W
open Go.RowKit Go.Proofs.YthfffpdkmoclbaaGreatDoor.M

theorem infoI3 : (Tryz.prog.info? 3).map (fun i => (i.zero, i.size, i.bytes)) = some (some (.int .i64 0), 1, 8) := by kernel_rfl
/-- the ids of entries -/
def idsO (L : List OE) : List Int := L.map (·.id)
theorem idsO_take (L : List OE) (j : Nat) (h : j < L.length) : idsO (L.take (j + 1)) = idsO (L.take j) ++ [(L[j]).id] := by
  unfold idsO; rw [List.take_succ_eq_append_getElem h, List.map_append]; rfl
theorem idsO_len (L : List OE) : (idsO L).length = L.length := by simp [idsO]

set_option maxRecDepth 100000 in
set_option maxHeartbeats 2000000 in
theorem kids_impl (s : ByteArray) (w : World) (hs : s.size ≤ 1048576) (hg : TypeCell w) :
    Calls Tryz.prog 30 #[.string s] w fun e w' => (∃ v, e = .returned v ∧ w'.ownsRow w.heap.size 3 1 v (idsO (enL s)).length (cellsI (idsO (enL s)))) ∧ Below w.heap.size w w' := by
  obtain ⟨i0, hi, hz0, hz1, hz2⟩ := info_parts infoI3
  have q := fun w hg => enI_any s w hs hg
  have hL := enL_len s
  generalize enL s = L at *
  generalize decide (kd s = 2) = b at *
  go_enter Tryz.func30, Tryz.ntmps30
  go_wp2_with (go_at_call 64; refine (q _ hg).mono ?_; rintro e w1 ⟨⟨v, rfl, ow⟩, B⟩; obtain ⟨A, c, rfl, rd⟩ := rdO_of_own ow)
  have HL : Hid (RdO w1.heap.size w1 A L) := rd
  have hb1 := B.size
  clear rd ow
  go_loopw [5, 15] (fun kv iv wr => ∃ (j : Nat) (M : List Int), j ≤ L.length ∧ iv = .int .i64 j ∧ Hid (M = idsO (L.take j)) ∧ M.length ≤ j ∧ wr.ownsRow w1.heap.size 3 1 kv M.length (cellsI M) ∧ Below w1.heap.size w1 wr) (fun _ i _ => L.length - (intOf i).toNat)
  case atStart => exact ⟨0, [], Nat.zero_le _, rfl, rfl, Nat.le_refl _, World.ownsRow_nil _ _ _ _, Below.refl _ _⟩
  case round =>
    obtain ⟨j, M, hj, rfl, HM, hm, hown, hb⟩ := hrel
    have hsz := hb.size
    by_cases hlt : j < L.length
    · obtain ⟨b', o, rfl, hbl, c1, c2, c3⟩ := (HL.out.below hb (Nat.le_refl _)) j hlt
      have est := idsO_take L j hlt
      rw [← HM.out] at est
      have HE : Hid (M ++ [(L[j]).id] = idsO (L.take (j + 1))) := est.symm
      generalize (L[j]).id = i at *
      generalize (L[j]).nm = nm at *
      generalize (L[j]).sh = sh at *
      clear est HM
      go_wp2_with (at_builtin; refine wpList_append_own _ rfl _ _ 41 rfl w1.heap.size 3 i0 (.int .i64 0) 1 8 Tryz.underlying41 hi hz0 hz1 hz2 rfl (by decide) _ _ _ rfl ((hown.alloc _).alloc _) ⟨wr.heap.size + 1, 0, none⟩ 1 1 [.int .i64 i] rfl rfl (cells_new' _ #[.int .i64 i] _ _ (by simp)) (fun u hu => by simp at hu; subst hu; rfl) (by unfold maxLen; omega) (by omega) (by simp; omega) ?_; intro v' w3 hown' hgrow3 hnil3)
      go_roundw
      case rel =>
        refine ⟨j + 1, M ++ [i], by omega, by go_num, HE, by simp; omega, ?_, ?_⟩
        · rw [List.length_append, show cellsI (M ++ [i]) = cellsI M ++ [.int .i64 i] by simp [cellsI]]; exact hown'
        · exact growOwn ((hb.alloc (by omega) _).alloc (by simp; omega) _) (by simp; omega) ((hown.alloc _).alloc _) hgrow3 (Nat.le_refl _)
      case measure => simp [intOf]; omega
    · go_wp2
      go_ret
      obtain rfl : j = L.length := by omega
      have e := HM.out
      rw [List.take_length] at e
      rw [e] at hown
      exact ⟨⟨_, rfl, ownsUpO hown hb1⟩, B.trans (hb.mono hb1)⟩

set_option maxRecDepth 100000 in
set_option maxHeartbeats 2000000 in
theorem kids_spec (s : ByteArray) (w : World) (hs : s.size ≤ 1048576) :
    Calls Tryz.prog 94 #[.string s] w fun e w' => (∃ v, e = .returned v ∧ w'.ownsRow w.heap.size 3 1 v (idsO (enL s)).length (cellsI (idsO (enL s)))) ∧ Below w.heap.size w w' := by
  obtain ⟨i0, hi, hz0, hz1, hz2⟩ := info_parts infoI3
  have q := fun w => enS_any s w hs
  have hL := enL_len s
  generalize enL s = L at *
  generalize decide (kd s = 2) = b at *
  have O0 : (w.alloc (.cells #[] 3)).ownsRow w.heap.size 3 1 (.slice (some ⟨w.heap.size, 0, none⟩) 0 0) 0 [] := World.ownsRow_lit w #[] 0 (Nat.le_refl _) (by unfold maxLen; omega) rfl
  have B0 : Below w.heap.size w (w.alloc (.cells #[] 3)) := (Below.refl _ w).alloc (Nat.le_refl _) _
  go_enter Tryz.func94, Tryz.ntmps94
  go_wp2_with (go_at_call 56; refine (q _).mono ?_; rintro e w1 ⟨⟨v, rfl, ow⟩, hb⟩; have o1 := ownsUnder O0 hb (Nat.le_refl _); have B := B0.trans (hb.mono B0.size); have hlv := ow.lt; simp at hlv; obtain ⟨A, c, rfl, _⟩ := rdO_of_own ow)
  go_loopw [3, 6] (fun kv iv wr => ∃ (j : Nat) (M : List Int), j ≤ L.length ∧ iv = .int .i64 j ∧ Hid (M = idsO (L.take j)) ∧ M.length ≤ j ∧ wr.ownsRow w.heap.size 3 1 kv M.length (cellsI M) ∧ wr.ownsRow w.heap.size 90 3 (.slice A L.length c) L.length (cellsO L) ∧ Hid (∀ k, kv.ownBlock = some k → (Value.slice A L.length c).ownBlock ≠ some k) ∧ Below w.heap.size w wr) (fun _ i _ => L.length - (intOf i).toNat)
  case atStart => exact ⟨0, [], Nat.zero_le _, rfl, rfl, Nat.le_refl _, o1, ownsUpO ow (by simp), (show ∀ k, (Value.slice (some ⟨w.heap.size, 0, none⟩) 0 0).ownBlock = some k → _ from fun k e e2 => by simp [Value.ownBlock] at e; have := (hlv k e2).1; omega), B⟩
  case round =>
    clear o1 ow O0 hb
    obtain ⟨j, M, hj, rfl, HM, hm, hown, ow, DJ, hb⟩ := hrel
    have hsz := hb.size
    by_cases hlt : j < L.length
    · have rd : RdO wr.heap.size wr A L := by
        obtain ⟨A2, c2, e2, rd⟩ := rdO_of_own ow
        cases e2; exact rd
      have OW : Hid (wr.ownsRow w.heap.size 90 3 (.slice A L.length c) L.length (cellsO L)) := ow
      obtain ⟨b', o, rfl, hbl, c1, c2, c3⟩ := rd j hlt
      have est := idsO_take L j hlt
      rw [← HM.out] at est
      have HE : Hid (M ++ [(L[j]).id] = idsO (L.take (j + 1))) := est.symm
      generalize (L[j]).id = i at *
      clear est HM ow c1 c2
      go_wp2_with (at_builtin; refine wpList_append_own_at _ rfl _ _ 41 rfl w.heap.size 3 i0 (.int .i64 0) 1 8 Tryz.underlying41 hi hz0 hz1 hz2 rfl (by decide) u3 M.length (cellsI M) rfl (hown.alloc _) ⟨wr.heap.size, 0, none⟩ 1 1 [.int .i64 i] rfl rfl (cells_new _ #[.int .i64 i] _) (fun u hu => by simp at hu; subst hu; rfl) (by unfold maxLen; omega) (by omega) (by simp; omega) ?_; intro v' w3 hown' hgrow3 hnil3 hat3)
      go_roundw
      case rel =>
        refine ⟨j + 1, M ++ [i], by omega, by go_num, HE, by simp; omega, ?_, ?_, ?_, ?_⟩
        · rw [List.length_append, show cellsI (M ++ [i]) = cellsI M ++ [.int .i64 i] by simp [cellsI]]; exact hown'
        · refine (OW.out.alloc _).kept hgrow3 ?_
          cases h : (Value.slice (some ⟨b', o, none⟩) L.length c).ownBlock with
          | none => exact .inl rfl
          | some k => exact .inr fun e => DJ.out k e.symm h
        · show ∀ k, _ → _
          intro k e e2
          rcases hat3 with h | h
          · rw [h] at e; exact DJ.out k e e2
          · rw [h] at e
            have := (OW.out.lt k e2).2
            simp at e
            omega
        · exact growOwn (hb.alloc (by omega) _) (by simp; omega) (hown.alloc _) hgrow3 (Nat.le_refl _)
      case measure => simp [intOf]; omega
    · go_wp2
      go_ret
      obtain rfl : j = L.length := by omega
      have e := HM.out
      rw [List.take_length] at e
      rw [e] at hown
      exact ⟨⟨_, rfl, hown⟩, hb⟩
end Go.Proofs.YthfffpdkmoclbaaGreatDoor.W
namespace Go.Proofs.YthfffpdkmoclbaaGreatDoor.W
open Go.Proofs.YthfffpdkmoclbaaGreatDoor.M

/-- the ids that a text names -/
def kidsN (s : ByteArray) : List Int := idsO (enL s)
inductive Led (L : List PI) (ids : List Int) : Int → Prop where
  | here (n : Int) (h : n ∈ ids) : Led L ids n
  | kid (m n : Int) (t : ByteArray) (h : Led L ids m) (hf : findP L m = some t) (hn : n ∈ kidsN t) : Led L ids n
def RiseI (N : List Int) : Prop := N.Pairwise (· < ·)
/-- a list of what is there, and whether all is -/
structure IsLed (L : List PI) (ids : List Int) (N : List Int) (all : Bool) : Prop where
  rise : RiseI N
  mem : ∀ n, n ∈ N ↔ Led L ids n ∧ (findP L n).isSome = true
  all : all = true ↔ ∀ n, Led L ids n → (findP L n).isSome = true
theorem riseI_uniq : ∀ A B : List Int, RiseI A → RiseI B → (∀ n, n ∈ A ↔ n ∈ B) → A = B := by
  intro A
  induction A with
  | nil =>
    intro B _ _ h
    cases B with
    | nil => rfl
    | cons b l => exact absurd ((h b).2 (List.mem_cons_self ..)) (by simp)
  | cons a A ih =>
    intro B hA hB h
    cases B with
    | nil => exact absurd ((h a).1 (List.mem_cons_self ..)) (by simp)
    | cons b B =>
      obtain ⟨a1, a2⟩ := List.pairwise_cons.1 hA
      obtain ⟨b1, b2⟩ := List.pairwise_cons.1 hB
      have e : a = b := by
        have h1 := (h a).1 (List.mem_cons_self ..)
        have h2 := (h b).2 (List.mem_cons_self ..)
        rcases List.mem_cons.1 h1 with h1 | h1
        · exact h1
        · rcases List.mem_cons.1 h2 with h2 | h2
          · exact h2.symm
          · have := a1 b h2; have := b1 a h1; omega
      subst e
      rw [ih B a2 b2 fun n => ?_]
      have := h n
      simp only [List.mem_cons] at this
      constructor
      · intro hn
        rcases this.1 (.inr hn) with e | h'
        · have := a1 n hn; omega
        · exact h'
      · intro hn
        rcases this.2 (.inr hn) with e | h'
        · have := b1 n hn; omega
        · exact h'
theorem IsLed.uniq {L : List PI} {ids N M : List Int} {a b : Bool} (h : IsLed L ids N a) (k : IsLed L ids M b) : N = M ∧ a = b := by
  refine ⟨riseI_uniq N M h.rise k.rise fun n => (h.mem n).trans (k.mem n).symm, ?_⟩
  cases a <;> cases b
  · rfl
  · exact absurd (h.all.2 (k.all.1 rfl)) (by decide)
  · exact absurd (k.all.2 (h.all.1 rfl)) (by decide)
  · rfl
/-- what stands while one looks: what was found, what waits, whether nothing lacked -/
structure Looks (L : List PI) (ids : List Int) (found todo : List Int) (all : Bool) : Prop where
  led : ∀ n ∈ todo, Led L ids n
  there : ∀ n ∈ found, Led L ids n ∧ (findP L n).isSome = true
  first : ∀ n ∈ ids, n ∈ todo ∨ n ∈ found ∨ (findP L n = none ∧ all = false)
  next : ∀ m ∈ found, ∀ t, findP L m = some t → ∀ n ∈ kidsN t, n ∈ todo ∨ n ∈ found ∨ (findP L n = none ∧ all = false)
  lacks : all = false → ∃ n, Led L ids n ∧ findP L n = none
theorem Looks.start (L : List PI) (ids : List Int) : Looks L ids [] ids true :=
  by
  refine ⟨fun n h => .here n h, ?_, fun n h => .inl h, ?_, ?_⟩
  · intro n h; cases h
  · intro m h; cases h
  · intro h; cases h
/-- one more waits no longer: it was found before -/
theorem Looks.seen {L : List PI} {ids found todo todo' : List Int} {all : Bool} {n : Int} (h : Looks L ids found todo all) (ht : ∀ m, m ∈ todo ↔ m = n ∨ m ∈ todo') (hn : n ∈ found) : Looks L ids found todo' all := by
  have step : ∀ m, m ∈ todo ∨ m ∈ found ∨ (findP L m = none ∧ all = false) → m ∈ todo' ∨ m ∈ found ∨ (findP L m = none ∧ all = false) := by
    intro m hm
    rcases hm with hm | hm | hm
    · rcases (ht m).1 hm with rfl | hm
      · exact .inr (.inl hn)
      · exact .inl hm
    · exact .inr (.inl hm)
    · exact .inr (.inr hm)
  exact ⟨fun m hm => h.led m ((ht m).2 (.inr hm)), h.there, fun m hm => step m (h.first m hm), fun m hm t hf k hk => step k (h.next m hm t hf k hk), h.lacks⟩
/-- it is not there -/
theorem Looks.lack {L : List PI} {ids found todo todo' : List Int} {all : Bool} {n : Int} (h : Looks L ids found todo all) (ht : ∀ m, m ∈ todo ↔ m = n ∨ m ∈ todo') (hn : findP L n = none) : Looks L ids found todo' false := by
  have step : ∀ m, m ∈ todo ∨ m ∈ found ∨ (findP L m = none ∧ all = false) → m ∈ todo' ∨ m ∈ found ∨ (findP L m = none ∧ false = false) := by
    intro m hm
    rcases hm with hm | hm | hm
    · rcases (ht m).1 hm with rfl | hm
      · exact .inr (.inr ⟨hn, rfl⟩)
      · exact .inl hm
    · exact .inr (.inl hm)
    · exact .inr (.inr ⟨hm.1, rfl⟩)
  exact ⟨fun m hm => h.led m ((ht m).2 (.inr hm)), h.there, fun m hm => step m (h.first m hm), fun m hm t hf k hk => step k (h.next m hm t hf k hk), fun _ => ⟨n, h.led n ((ht n).2 (.inl rfl)), hn⟩⟩
/-- it is there: what it names waits -/
theorem Looks.find {L : List PI} {ids found found' todo todo' todo2 : List Int} {all : Bool} {n : Int} {t : ByteArray} (h : Looks L ids found todo all) (ht : ∀ m, m ∈ todo ↔ m = n ∨ m ∈ todo') (hn : findP L n = some t)
    (hF : ∀ m, m ∈ found' ↔ m = n ∨ m ∈ found) (h2 : ∀ m, m ∈ todo2 ↔ m ∈ todo' ∨ m ∈ kidsN t) : Looks L ids found' todo2 all := by
  have hl : Led L ids n := h.led n ((ht n).2 (.inl rfl))
  have step : ∀ m, m ∈ todo ∨ m ∈ found ∨ (findP L m = none ∧ all = false) → m ∈ todo2 ∨ m ∈ found' ∨ (findP L m = none ∧ all = false) := by
    intro m hm
    rcases hm with hm | hm | hm
    · rcases (ht m).1 hm with rfl | hm
      · exact .inr (.inl ((hF _).2 (.inl rfl)))
      · exact .inl ((h2 m).2 (.inl hm))
    · exact .inr (.inl ((hF m).2 (.inr hm)))
    · exact .inr (.inr hm)
  refine ⟨fun m hm => ?_, fun m hm => ?_, fun m hm => step m (h.first m hm), fun m hm t' hf k hk => ?_, h.lacks⟩
  · rcases (h2 m).1 hm with hm | hm
    · exact h.led m ((ht m).2 (.inr hm))
    · exact .kid n m t hl hn hm
  · rcases (hF m).1 hm with rfl | hm
    · exact ⟨hl, by rw [hn]; rfl⟩
    · exact h.there m hm
  · rcases (hF m).1 hm with rfl | hm
    · rw [hn] at hf; cases hf
      exact .inl ((h2 k).2 (.inr hk))
    · exact step k (h.next m hm t' hf k hk)
/-- nothing waits: what was found is what they lead to -/
theorem Looks.ends {L : List PI} {ids found : List Int} {all : Bool} (h : Looks L ids found [] all) (N : List Int) (hr : RiseI N) (hN : ∀ n, n ∈ N ↔ n ∈ found) : IsLed L ids N all := by
  have reach : ∀ n, Led L ids n → n ∈ found ∨ (findP L n = none ∧ all = false) := by
    intro n hl
    induction hl with
    | here n hn =>
      rcases h.first n hn with h1 | h1 | h1
      · cases h1
      · exact .inl h1
      · exact .inr h1
    | kid m n t hm hf hn ih =>
      rcases ih with ih | ih
      · rcases h.next m ih t hf n hn with h1 | h1 | h1
        · cases h1
        · exact .inl h1
        · exact .inr h1
      · rw [ih.1] at hf; cases hf
  refine ⟨hr, fun n => ?_, ?_⟩
  · rw [hN]
    constructor
    · exact h.there n
    · rintro ⟨h1, h2⟩
      rcases reach n h1 with h3 | h3
      · exact h3
      · rw [h3.1] at h2; cases h2
  · constructor
    · intro ha n hn
      rcases reach n hn with h1 | h1
      · exact (h.there n h1).2
      · rw [ha] at h1; cases h1.2
    · intro ha
      cases hb : all with
      | true => rfl
      | false =>
        obtain ⟨n, h1, h2⟩ := h.lacks hb
        have := ha n h1
        rw [h2] at this; cases this
/-- what is found leads to itself alone -/
theorem IsLed.again {L : List PI} {ids N : List Int} {a : Bool} (h : IsLed L ids N a) : ∀ M b, IsLed L N M b → M = N := by
  intro M b k
  have back : ∀ n, Led L N n → Led L ids n := by
    intro n hn
    induction hn with
    | here n hm => exact ((h.mem n).1 hm).1
    | kid m n t _ hf hk ih => exact .kid m n t ih hf hk
  refine riseI_uniq M N k.rise h.rise fun n => ?_
  rw [k.mem]
  constructor
  · rintro ⟨h1, h2⟩
    exact (h.mem n).2 ⟨back n h1, h2⟩
  · intro hn
    exact ⟨.here n hn, ((h.mem n).1 hn).2⟩
/-- a number in its place -/
def insI : List Int → Int → List Int
  | [], n => [n]
  | x :: l, n => if n < x then n :: x :: l else x :: insI l n
theorem mem_insI (L : List Int) (n m : Int) : m ∈ insI L n ↔ m = n ∨ m ∈ L := by
  induction L with
  | nil => simp [insI]
  | cons x l ih =>
    unfold insI
    split
    · simp
    · rw [List.mem_cons, ih, List.mem_cons]
      constructor
      · rintro (h | h | h)
        · exact .inr (.inl h)
        · exact .inl h
        · exact .inr (.inr h)
      · rintro (h | h | h)
        · exact .inr (.inl h)
        · exact .inl h
        · exact .inr (.inr h)
theorem len_insI (L : List Int) (n : Int) : (insI L n).length = L.length + 1 := by
  induction L with
  | nil => rfl
  | cons x l ih => unfold insI; split <;> simp; exact ih
theorem rise_insI (L : List Int) (n : Int) (h : RiseI L) (hn : n ∉ L) : RiseI (insI L n) := by
  induction L with
  | nil => exact List.pairwise_singleton _ _
  | cons x l ih =>
    obtain ⟨h1, h2⟩ := List.pairwise_cons.1 h
    unfold insI
    split
    · rename_i hlt
      refine List.pairwise_cons.2 ⟨fun y hy => ?_, h⟩
      rcases List.mem_cons.1 hy with rfl | hy
      · exact hlt
      · exact Int.lt_trans hlt (h1 y hy)
    · rename_i hlt
      refine List.pairwise_cons.2 ⟨fun y hy => ?_, ih h2 (fun hm => hn (List.mem_cons_of_mem _ hm))⟩
      rcases (mem_insI ..).1 hy with rfl | hy
      · have : x ≠ y := fun e => hn (by rw [e]; exact List.mem_cons_self ..)
        omega
      · exact h1 y hy
theorem insI_none (M : List Int) (n : Int) (h : ∀ y ∈ M, ¬ n < y) : insI M n = M ++ [n] := by
  induction M with
  | nil => rfl
  | cons x l ih =>
    unfold insI
    rw [if_neg (h x (List.mem_cons_self ..)), ih fun y hy => h y (List.mem_cons_of_mem _ hy)]
    rfl
theorem insI_here (M : List Int) (n x : Int) (h : ∀ y ∈ M, ¬ n < y) (hx : n < x) : insI (M ++ [x]) n = M ++ [n] ++ [x] := by
  induction M with
  | nil => simp [insI, hx]
  | cons y l ih =>
    rw [List.cons_append]
    unfold insI
    rw [if_neg (h y (List.mem_cons_self ..)), ih fun z hz => h z (List.mem_cons_of_mem _ hz)]
    simp
theorem insI_done (M : List Int) (n x : Int) (h : ∃ y ∈ M, n < y) : insI (M ++ [x]) n = insI M n ++ [x] := by
  induction M with
  | nil => obtain ⟨y, hy, _⟩ := h; cases hy
  | cons y l ih =>
    rw [List.cons_append]
    unfold insI
    split
    · simp
    · rename_i hlt
      obtain ⟨z, hz, hz2⟩ := h
      rcases List.mem_cons.1 hz with rfl | hz
      · exact absurd hz2 hlt
      · rw [ih ⟨z, hz, hz2⟩]; rfl
theorem found_le : ∀ (L : List PI) (N : List Int), N.Nodup → (∀ n ∈ N, (findP L n).isSome = true) → N.length ≤ L.length := by
  intro L
  induction L with
  | nil =>
    intro N _ h
    cases N with
    | nil => exact Nat.le_refl _
    | cons n N => have := h n (List.mem_cons_self ..); simp [findP] at this
  | cons x l ih =>
    intro N hd h
    by_cases hx : x.id ∈ N
    · have h1 := ih (N.erase x.id) (hd.erase _) (fun n hn => by
        obtain ⟨h2, h3⟩ := (List.Nodup.mem_erase_iff hd).1 hn
        have := h n h3
        unfold findP at this
        rwa [if_neg (fun e => h2 e.symm)] at this)
      rw [List.length_erase_of_mem hx] at h1
      simp; omega
    · have h1 := ih N hd (fun n hn => by
        have := h n hn
        unfold findP at this
        rwa [if_neg (fun e => hx (by rw [e]; exact hn))] at this)
      simp; omega
theorem RiseI.nodup {N : List Int} (h : RiseI N) : N.Nodup := List.Pairwise.imp (fun {a b} hab => by omega) h
theorem kidsN_len (s : ByteArray) : (kidsN s).length ≤ 60 := by
  unfold kidsN
  rw [idsO_len]
  exact enL_len s
/-- what PolReach answers -/
def ReachIs (L : List PI) (ids N : List Int) (al : Bool) : Prop := (okP L = true ∧ ids.length ≤ 700 ∧ IsLed L ids N al) ∨ ((okP L = false ∨ 700 < ids.length) ∧ N = [] ∧ al = false)
theorem ReachIs.uniq {L : List PI} {ids N M : List Int} {a b : Bool} (h : ReachIs L ids N a) (k : ReachIs L ids M b) : N = M ∧ a = b := by
  rcases h with ⟨h1, h2, h3⟩ | ⟨h1, h2, h3⟩
  · rcases k with ⟨_, _, k3⟩ | ⟨k1, _⟩
    · exact h3.uniq k3
    · rcases k1 with k1 | k1
      · rw [h1] at k1; cases k1
      · omega
  · rcases k with ⟨k1, k2, _⟩ | ⟨_, k2, k3⟩
    · rcases h1 with h1 | h1
      · rw [h1] at k1; cases k1
      · omega
    · exact ⟨h2.trans k2.symm, h3.trans k3.symm⟩
theorem ReachIs.len {L : List PI} {ids N : List Int} {a : Bool} (h : ReachIs L ids N a) : N.length ≤ 700 := by
  rcases h with ⟨h1, _, h3⟩ | ⟨_, rfl, _⟩
  · have := found_le L N (RiseI.nodup h3.rise) (fun n hn => ((h3.mem n).1 hn).2)
    have := ((okP_iff L).1 h1).1
    omega
  · simp
end Go.Proofs.YthfffpdkmoclbaaGreatDoor.W
namespace Go.Proofs.YthfffpdkmoclbaaGreatDoor.W
open Go.Proofs.YthfffpdkmoclbaaGreatDoor.M

/-- the last edit of a path -/
def lastE : List (Bool × ByteArray × ByteArray) → ByteArray → Option (Bool × ByteArray)
  | [], _ => none
  | e :: es, q => match lastE es q with
    | some r => some r
    | none => if e.2.1 = q then some (e.1, e.2.2) else none
theorem lastE_cons (e : Bool × ByteArray × ByteArray) (es : List (Bool × ByteArray × ByteArray)) (q : ByteArray) : lastE (e :: es) q = match lastE es q with | some r => some r | none => if e.2.1 = q then some (e.1, e.2.2) else none := rfl
theorem lastE_none (E : List (Bool × ByteArray × ByteArray)) (q : ByteArray) : lastE E q = none ↔ ∀ e ∈ E, e.2.1 ≠ q := by
  induction E with
  | nil => simp [lastE]
  | cons x l ih =>
    unfold lastE
    cases h : lastE l q with
    | some r =>
      have h2 : ¬ ∀ e ∈ l, e.2.1 ≠ q := fun h3 => by rw [ih.2 h3] at h; cases h
      simp only [List.mem_cons, forall_eq_or_imp]
      constructor
      · intro h3; cases h3
      · intro h3; exact absurd h3.2 h2
    | none =>
      have h2 := ih.1 h
      by_cases hx : x.2.1 = q
      · simp [hx]
      · simp only [if_neg hx, List.mem_cons, forall_eq_or_imp, true_iff]
        exact ⟨hx, h2⟩
theorem turnAll_find (L K : List TF) (E : List (Bool × ByteArray × ByteArray)) (h : RiseF L) (ht : turnAll L E = some K) : ∀ q, findF K q = match lastE E q with
    | none => findF L q
    | some r => if r.1 then none else some r.2 := by
  induction E generalizing L with
  | nil => cases ht; intro q; rfl
  | cons e es ih =>
    unfold turnAll at ht
    split at ht
    · cases ht
    · rename_i M hM
      obtain ⟨h1, h2⟩ := turnF_ok L M _ _ _ h hM
      intro q
      rw [ih M h1 ht q, lastE_cons]
      cases hl : lastE es q with
      | some r => rfl
      | none =>
        rw [h2 q]
        by_cases hq : e.2.1 = q
        · rw [if_pos hq, if_pos hq.symm]
        · rw [if_neg hq, if_neg (fun e' => hq e'.symm)]
/-- an edit that takes out has no bytes -/
theorem turnAll_gone (L K : List TF) (E : List (Bool × ByteArray × ByteArray)) (ht : turnAll L E = some K) : ∀ e ∈ E, e.1 = true → e.2.2 = ByteArray.empty := by
  induction E generalizing L with
  | nil => intro e he; cases he
  | cons x es ih =>
    unfold turnAll at ht
    split at ht
    · cases ht
    · rename_i M hM
      intro e he hg
      rcases List.mem_cons.1 he with rfl | he
      · unfold turnF at hM
        rw [if_pos hg] at hM
        split at hM
        · cases hM
        · rename_i h; exact Decidable.byContradiction fun h2 => h (.inr h2)
      · exact ih M ht e he hg
theorem lastE_at (E : List (Bool × ByteArray × ByteArray)) (i : Nat) (h : i < E.length) (hl : ∀ k (h : k < E.length), i < k → (E[k]).2.1 ≠ (E[i]).2.1) : lastE E (E[i]).2.1 = some ((E[i]).1, (E[i]).2.2) := by
  induction E generalizing i with
  | nil => simp at h
  | cons x l ih =>
    cases i with
    | zero =>
      simp only [List.getElem_cons_zero] at hl ⊢
      have h1 : lastE l x.2.1 = none := (lastE_none ..).2 fun e he => by
        obtain ⟨j, hj, rfl⟩ := List.getElem_of_mem he
        exact hl (j + 1) (by simpa using hj) (by omega)
      unfold lastE
      rw [h1]; simp
    | succ i =>
      simp only [List.getElem_cons_succ] at hl ⊢
      have h1 := ih i (by simpa using h) (fun k hk hik => hl (k + 1) (by simpa using hk) (by omega))
      unfold lastE
      rw [h1]
theorem findF_at (L : List TF) (j : Nat) (h : j < L.length) (hr : RiseF L) : findF L (L[j]).pa = some (L[j]).by_ := by
  induction L generalizing j with
  | nil => simp at h
  | cons y l ih =>
    obtain ⟨h1, h2⟩ := List.pairwise_cons.1 hr
    cases j with
    | zero => simp [findF]
    | succ j =>
      have h3 := h1 (l[j]'(by simpa using h)) (List.getElem_mem _)
      simp only [List.getElem_cons_succ]
      unfold findF
      rw [if_neg (fun e => by rw [e] at h3; exact List.lt_irrefl _ h3)]
      exact ih j (by simpa using h) h2
end Go.Proofs.YthfffpdkmoclbaaGreatDoor.W
