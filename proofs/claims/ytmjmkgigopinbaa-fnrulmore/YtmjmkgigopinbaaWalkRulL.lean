
/-
  Rules that are ok, no two the same; the walk of RulListOk of the specification. At most 1048576 rules, texts of at most 1048576 bytes.
-/
import Derived.Test.YtmjmkgigopinbaaWalkRul
import Derived.Test.YtmjmkgigopinbaaWalkRulE
namespace Go.Proofs.Ytmjmkgigopinbaa.W
open Go.RowKit Go.Proofs.Ytmjmkgigopinbaa.M

/-- a rule that may stand at its place: it is ok, and not there ahead of it -/
def gR (L : List RR) (i : Nat) : Bool := match L[i]? with
  | some x => rulB x && !((L.take i).any fun y => eqR y x)
  | none => true
def okR (L : List RR) : Bool := decide (L.length ≤ 6) && (List.range L.length).all (gR L)
theorem gR_at (L : List RR) (i : Nat) (h : i < L.length) : gR L i = (rulB L[i] && !((L.take i).any fun y => eqR y L[i])) := by
  unfold gR; rw [List.getElem?_eq_getElem h]
theorem okR_long (L : List RR) (h : 6 < L.length) : okR L = false := by
  unfold okR; rw [decide_eq_false (by omega)]; rfl
theorem okR_bad (L : List RR) (i : Nat) (h : i < L.length) (hb : gR L i = false) : okR L = false := by
  unfold okR
  have : (List.range L.length).all (gR L) = false := by
    rw [List.all_eq_false]; exact ⟨i, List.mem_range.2 h, by simp [hb]⟩
  rw [this]; simp
theorem okR_good (L : List RR) (h : L.length ≤ 6) (h1 : ∀ i, i < L.length → gR L i = true) : okR L = true := by
  unfold okR
  have e1 : (List.range L.length).all (gR L) = true := List.all_eq_true.2 fun i hi => h1 i (List.mem_range.1 hi)
  simp [e1, h]
theorem rdR_take {B : Nat} {w : World} {A : Option Addr} {L : List RR} (h : RdR B w A L) (i : Nat) : RdR B w A (L.take i) := fun j hj => by
  obtain ⟨b, o, e, hl, c⟩ := h j (by rw [List.length_take] at hj; omega)
  refine ⟨b, o, e, hl, ?_⟩
  rw [List.getElem_take]; exact c
theorem rdR_own_cap {w : World} {base : Nat} {e : TypeId} {v : Value} {L : List RR} (h : w.ownsRow base e 4 v L.length (cellsR L)) : ∃ A c, v = .slice A L.length c ∧ RdR w.heap.size w A L ∧ L.length ≤ c := by
  obtain ⟨A, c, rfl, rd⟩ := rdR_of_own h
  refine ⟨A, c, rfl, rd, ?_⟩
  rcases h.2 with ⟨e, hn0⟩ | ⟨g, cap, cur, e, h1, h2, h3, h4⟩
  · omega
  · cases e; omega

set_option maxHeartbeats 1000000 in
theorem rulListOk_spec (A : Option Addr) (c : Nat) (L : List RR) (w : World) (hL : RdR w.heap.size w A L) (hn : L.length ≤ 1048576) (hc : L.length ≤ c) (ht : ∀ j (h : j < L.length), (L[j]).ref.size ≤ 1048576 ∧ (L[j]).path.size ≤ 1048576) :
    Calls Try.prog 23 #[.slice A L.length c] w fun e w' => e = .returned (.bool (okR L)) ∧ Below w.heap.size w w' := by
  have HL : Hid (RdR w.heap.size w A L) := hL
  have HT : Hid (∀ j (h : j < L.length), (L[j]).ref.size ≤ 1048576 ∧ (L[j]).path.size ≤ 1048576) := ht
  clear hL ht
  by_cases h60 : 6 < L.length
  · go_enter Try.func23, Try.ntmps23
    go_wp2
    go_ret
    exact ⟨ret_bool (okR_long L h60).symm, Below.refl _ _⟩
  go_enter Try.func23, Try.ntmps23
  go_wp2
  go_loopw [3] (fun iv wr => ∃ j : Nat, j ≤ L.length ∧ iv = .int .i64 j ∧ Hid (∀ i, i < j → gR L i = true) ∧ Below w.heap.size w wr) (fun i _ => L.length - (intOf i).toNat)
  case atStart => exact ⟨0, Nat.zero_le _, rfl, fun i h => by omega, Below.refl _ _⟩
  case round =>
    obtain ⟨j, hj, rfl, HG, hb⟩ := hrel
    have hsz := hb.size
    by_cases hlt : j < L.length
    · obtain ⟨b, o, rfl, hbl, c1, c2, c3, c4⟩ := (HL.out.below hb (Nat.le_refl _)) j hlt
      obtain ⟨hxr, hxp⟩ := HT.out j hlt
      have est := gR_at L j hlt
      obtain ⟨x, hx⟩ : ∃ x, L[j] = x := ⟨_, rfl⟩
      rw [hx] at est c1 c2 c3 c4 hxr hxp
      clear hx
      have HK : Hid (RdR wr.heap.size wr (some ⟨b, o, none⟩) (L.take j)) := rdR_take ((HL.out.below hb (Nat.le_refl _)).mono (by omega)) j
      have hlen : (L.take j).length = j := by rw [List.length_take]; omega
      have x1 : ∀ y : Ext wr, y.world.cell? ⟨b, o + j * 4, none⟩ = some (.int .i64 x.user) := fun y => y.cell c1
      have x2 : ∀ y : Ext wr, y.world.cell? ⟨b, o + j * 4 + 1, none⟩ = some (.string x.ref) := fun y => y.cell c2
      have x3 : ∀ y : Ext wr, y.world.cell? ⟨b, o + j * 4 + 2, none⟩ = some (.string x.path) := fun y => y.cell c3
      have x4 : ∀ y : Ext wr, y.world.cell? ⟨b, o + j * 4 + 3, none⟩ = some (.bool x.write) := fun y => y.cell c4
      have hne : Nonempty (Ext wr) := ⟨⟨wr, Below.refl _ _⟩⟩
      clear c1 c2 c3 c4
      have hS : Hid (∀ y : Ext wr, Calls Try.prog 41 #[.slice (some ⟨b, o, none⟩) j c, .agg #[.int .i64 x.user, .string x.ref, .string x.path, .bool x.write]] y.world fun e w' => e = .returned (.bool ((L.take j).any fun y => eqR y x)) ∧ Below y.world.heap.size y.world w') := fun y => by
        have := l5Same_any (some ⟨b, o, none⟩) c (L.take j) x y.world (HK.out.up y.below) (by omega)
        rwa [hlen] at this
      cases q0 : rulB x
      · have HX : Hid (okR L = false) := okR_bad L j hlt (by rw [est, q0]; rfl)
        have E0 : Hid (rulB x = false) := q0
        clear est q0
        go_wp2
        refine region_ext (by kernel_rfl) (by kernel_rfl) ?_
        repeat (go_big_quiet_step ((go_at_call 40; exact calls_ext (E0.out ▸ rulOk_spec x _ hxr hxp))))
        refine wpQuiet_nil ?_
        rintro _ ⟨y, rfl⟩
        have hb1 := y.below
        go_wp2
        go_ret
        exact ⟨ret_bool HX.out.symm, hb.trans (hb1.mono (by omega))⟩
      have E0 : Hid (rulB x = true) := q0
      cases q1 : (L.take j).any fun y => eqR y x
      · have HX : Hid (∀ i, i < j + 1 → gR L i = true) := fun i hi => by
          by_cases hij : i < j
          · exact HG.out i hij
          · obtain rfl : i = j := by omega
            rw [est, q0, q1]; rfl
        have E1 : Hid (((L.take j).any fun y => eqR y x) = false) := q1
        clear est q0 q1 HG
        go_wp2
        refine region_ext (by kernel_rfl) (by kernel_rfl) ?_
        repeat (go_big_quiet_step (first | (go_at_call 40; exact calls_ext (E0.out ▸ rulOk_spec x _ hxr hxp)) | (go_at_call 41; exact calls_ext (E1.out ▸ hS.out _))))
        refine wpQuiet_nil ?_
        rintro _ ⟨y, rfl⟩
        have hb1 := y.below
        go_wp2
        go_roundw
        case rel => exact ⟨j + 1, by omega, by go_num, HX, hb.trans (hb1.mono (by omega))⟩
        case measure => simp [intOf]; omega
      · have HX : Hid (okR L = false) := okR_bad L j hlt (by rw [est, q1]; simp)
        have E1 : Hid (((L.take j).any fun y => eqR y x) = true) := q1
        clear est q0 q1 HG
        go_wp2
        refine region_ext (by kernel_rfl) (by kernel_rfl) ?_
        repeat (go_big_quiet_step (first | (go_at_call 40; exact calls_ext (E0.out ▸ rulOk_spec x _ hxr hxp)) | (go_at_call 41; exact calls_ext (E1.out ▸ hS.out _))))
        refine wpQuiet_nil ?_
        rintro _ ⟨y, rfl⟩
        have hb1 := y.below
        go_wp2
        go_ret
        exact ⟨ret_bool HX.out.symm, hb.trans (hb1.mono (by omega))⟩
    · go_wp2
      go_ret
      exact ⟨ret_bool (okR_good L (by omega) (fun i hi => HG.out i (by omega))).symm, hb⟩
end Go.Proofs.Ytmjmkgigopinbaa.W
