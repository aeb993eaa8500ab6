
/-
  The walk of RulListOk of the program. At most 2000000 rules, texts of at most 1048576 bytes.
-/
import Derived.Test.YtmjmkgigopinbaaWalkRulL
namespace Go.Proofs.Ytmjmkgigopinbaa.W
open Go.RowKit Go.Proofs.Ytmjmkgigopinbaa.M

set_option maxHeartbeats 1000000 in
theorem rulListOk_impl (A : Option Addr) (c : Nat) (L : List RR) (w : World) (hL : RdR w.heap.size w A L) (hn : L.length ≤ 2000000) (hc : L.length ≤ c) (ht : ∀ j (h : j < L.length), (L[j]).ref.size ≤ 1048576 ∧ (L[j]).path.size ≤ 1048576) :
    Calls Try.prog 20 #[.slice A L.length c] w fun e w' => e = .returned (.bool (okR L)) ∧ Below w.heap.size w w' := by
  have HL : Hid (RdR w.heap.size w A L) := hL
  have HT : Hid (∀ j (h : j < L.length), (L[j]).ref.size ≤ 1048576 ∧ (L[j]).path.size ≤ 1048576) := ht
  clear hL ht
  by_cases h60 : 6 < L.length
  · go_enter Try.func20, Try.ntmps20
    go_wp2
    go_ret
    exact ⟨ret_bool (okR_long L h60).symm, Below.refl _ _⟩
  go_enter Try.func20, Try.ntmps20
  go_wp2
  go_loopw [10] (fun iv wr => ∃ j : Nat, j ≤ L.length ∧ iv = .int .i64 j ∧ Hid (∀ i, i < j → gR L i = true) ∧ Below w.heap.size w wr) (fun i _ => L.length - (intOf i).toNat)
  case atStart => exact ⟨0, Nat.zero_le _, rfl, fun i h => by omega, Below.refl _ _⟩
  case round =>
    obtain ⟨j, hj, rfl, HG, hb⟩ := hrel
    have hsz := hb.size
    by_cases hlt : j < L.length
    · obtain ⟨b, o, rfl, hbl, c1, c2, c3, c4⟩ := (HL.out.below hb (Nat.le_refl _)) j hlt
      obtain ⟨hxr, hxp⟩ := HT.out j hlt
      have est := gR_at L j hlt
      obtain ⟨x, hx⟩ : ∃ x, L[j] = x := ⟨_, rfl⟩
      rw [hx] at est c1 c2 c3 c4 hxr hxp
      clear hx
      have hba := hb.alloc hsz (.cells #[.int .i64 x.user, .string x.ref, .string x.path, .bool x.write] 32)
      have HK : Hid (RdR (wr.alloc (.cells #[.int .i64 x.user, .string x.ref, .string x.path, .bool x.write] 32)).heap.size (wr.alloc (.cells #[.int .i64 x.user, .string x.ref, .string x.path, .bool x.write] 32)) (some ⟨b, o, none⟩) (L.take j)) := rdR_take ((HL.out.below hba (Nat.le_refl _)).mono (by simp; omega)) j
      have hlen : (L.take j).length = j := by rw [List.length_take]; omega
      obtain ⟨d1, d2, d3, d4⟩ := atR_new wr x 32
      have x1 : ∀ y : Ext (wr.alloc (.cells #[.int .i64 x.user, .string x.ref, .string x.path, .bool x.write] 32)), y.world.cell? ⟨wr.heap.size, 0, none⟩ = some (.int .i64 x.user) := fun y => y.cell d1
      have x2 : ∀ y : Ext (wr.alloc (.cells #[.int .i64 x.user, .string x.ref, .string x.path, .bool x.write] 32)), y.world.cell? ⟨wr.heap.size, 1, none⟩ = some (.string x.ref) := fun y => y.cell d2
      have x3 : ∀ y : Ext (wr.alloc (.cells #[.int .i64 x.user, .string x.ref, .string x.path, .bool x.write] 32)), y.world.cell? ⟨wr.heap.size, 2, none⟩ = some (.string x.path) := fun y => y.cell d3
      have x4 : ∀ y : Ext (wr.alloc (.cells #[.int .i64 x.user, .string x.ref, .string x.path, .bool x.write] 32)), y.world.cell? ⟨wr.heap.size, 3, none⟩ = some (.bool x.write) := fun y => y.cell d4
      have hne : Nonempty (Ext (wr.alloc (.cells #[.int .i64 x.user, .string x.ref, .string x.path, .bool x.write] 32))) := ⟨⟨_, Below.refl _ _⟩⟩
      clear d1 d2 d3 d4
      have hS : Hid (∀ y : Ext (wr.alloc (.cells #[.int .i64 x.user, .string x.ref, .string x.path, .bool x.write] 32)), Calls Try.prog 43 #[.slice (some ⟨b, o, none⟩) j c, .agg #[.int .i64 x.user, .string x.ref, .string x.path, .bool x.write]] y.world fun e w' => e = .returned (.bool ((L.take j).any fun y => eqR y x)) ∧ Below y.world.heap.size y.world w') := fun y => by
        have := containsR_any (some ⟨b, o, none⟩) c (L.take j) x y.world (HK.out.up y.below) (by omega)
        rwa [hlen] at this
      cases q0 : rulB x
      · have HX : Hid (okR L = false) := okR_bad L j hlt (by rw [est, q0]; rfl)
        have E0 : Hid (rulB x = false) := q0
        clear est q0
        go_wp2
        refine region_ext (by kernel_rfl) (by kernel_rfl) ?_
        repeat (go_big_quiet_step ((go_at_call 25; exact calls_ext (E0.out ▸ rulOk_impl x _ hxr hxp))))
        refine wpQuiet_nil ?_
        rintro _ ⟨y, rfl⟩
        have hb1 := y.below
        go_wp2
        go_ret
        exact ⟨ret_bool HX.out.symm, hba.trans (hb1.mono (by simp; omega))⟩
      have E0 : Hid (rulB x = true) := q0
      cases q1 : (L.take j).any fun y => eqR y x
      · have HX : Hid (∀ i, i < j + 1 → gR L i = true) := fun i hi => by
          by_cases hij : i < j
          · exact HG.out i hij
          · obtain rfl : i = j := by omega
            rw [est, q0, q1]; rfl
        have E1 : Hid (((L.take j).any fun y => eqR y x) = false) := q1
        clear est q0 q1 HG
        go_wp2
        refine region_ext (by kernel_rfl) (by kernel_rfl) ?_
        repeat (go_big_quiet_step (first | (go_at_call 25; exact calls_ext (E0.out ▸ rulOk_impl x _ hxr hxp)) | (go_at_call 43; exact calls_ext (E1.out ▸ hS.out _))))
        refine wpQuiet_nil ?_
        rintro _ ⟨y, rfl⟩
        have hb1 := y.below
        go_wp2
        go_roundw
        case rel => exact ⟨j + 1, by omega, by go_num, HX, hba.trans (hb1.mono (by simp; omega))⟩
        case measure => simp [intOf]; omega
      · have HX : Hid (okR L = false) := okR_bad L j hlt (by rw [est, q1]; simp)
        have E1 : Hid (((L.take j).any fun y => eqR y x) = true) := q1
        clear est q0 q1 HG
        go_wp2
        refine region_ext (by kernel_rfl) (by kernel_rfl) ?_
        repeat (go_big_quiet_step (first | (go_at_call 25; exact calls_ext (E0.out ▸ rulOk_impl x _ hxr hxp)) | (go_at_call 43; exact calls_ext (E1.out ▸ hS.out _))))
        refine wpQuiet_nil ?_
        rintro _ ⟨y, rfl⟩
        have hb1 := y.below
        go_wp2
        go_ret
        exact ⟨ret_bool HX.out.symm, hba.trans (hb1.mono (by simp; omega))⟩
    · go_wp2
      go_ret
      exact ⟨ret_bool (okR_good L (by omega) (fun i hi => HG.out i (by omega))).symm, hb⟩
end Go.Proofs.Ytmjmkgigopinbaa.W
