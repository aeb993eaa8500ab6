/-
  Of every code the drawn text's names are those of the specification; a path is what its names make, joined one behind the other, its first one and its rest are those of the names; the code reads as it did. No condition.
-/
import Derived.Test.YtfnojgkffjijiaaRows
import Derived.Test.YtfnojgkffjijiaaWalkTexts
import Derived.Test.YtfnojgkffjijiaaWalkJoin
import Derived.Test.YtfnojgkffjijiaaWalkPth2
import Derived.Test.YtfnojgkffjijiaaMathExt
import Derived.WalkKit
import Derived.ProofKit
import Derived.OpenShut
import Derived.ShutString
import Derived.ChangeOld
import Derived.Below
namespace Go.Proofs.Ytfnojgkffjijiaa.fnNamParts
open Go.ChangeShapes Go.WideShapes Go.ChangeAt Go.RowKit
open Go.ChangeMaps (open_string shut_string)
set_option linter.unusedVariables false

theorem own : ownKnob Try.prog.godebug = none := by kernel_rfl
theorem laidOut : laidOutB Try.prog = true := by kernel_rfl

/-- WHAT THE WALK IS TOLD OF A SLICE OF INTEGERS THAT CAME IN: it is nil; or it leads to a row of 'cap' cells, the numbers 'zs' (the first 'len' are its elements, the rest its spare room), each fitting its kind. -/
def IsRow (k : IntKind) (w : World) (a : Option Addr) (len cap : Nat) (zs : List Int) : Prop :=
  (a = none ∧ len = 0 ∧ cap = 0 ∧ zs = []) ∨
  ∃ x, a = some x ∧ len ≤ cap ∧ cap ≤ maxLen ∧ zs.length = cap ∧ (∀ i, i < zs.length → w.cell? (x.add i) = some (.int k (zs.getD i 0))) ∧ ∀ n ∈ zs, (Lit.int k n).wf = true

open Go.Proofs.Ytfnojgkffjijiaa.W Go.Proofs.Ytfnojgkffjijiaa.M in
set_option maxHeartbeats 30000000 in
theorem walk (a0 : Option Addr) (len0 cap0 : Nat) (z0 : List Int) (w : World) (w0 : IsRow .u8 w a0 len0 cap0 z0) :
    Calls Try.prog 3 #[.slice a0 len0 cap0] w fun e w' => e = .returned (.bool true) ∧ Below w.heap.size w w' := by
  have HS : Hid (Src w a0 len0 cap0 (fun i => z0.getD i 0)) := src_of w a0 len0 cap0 z0 w0
  clear w0
  by_cases h : 1048576 < len0
  · go_enter Try.func3, Try.ntmps3
    go_wp2
    go_ret
    exact ⟨rfl, Below.refl _ _⟩
  · go_enter Try.func3, Try.ntmps3
    go_wp2_with (first
      | (go_at_call 4; refine (drawPthParts_any _ _ _ _ _ HS.out).mono ?_; rintro e w1 ⟨s, rfl, hs, B⟩; clear HS; have hl3 := parts_le s.data.toList)
      | (go_at_call 5; refine (parts_impl _ _ (by omega)).mono ?_; rintro e w2 ⟨v2, rfl, o2, hb2⟩; replace B := B.trans (hb2.mono B.size); clear hb2)
      | (go_at_call 7; refine (parts_spec _ _ (by omega)).mono ?_; rintro e w3 ⟨v3, rfl, o3, hb3⟩; replace o2 := ownsStay o2 hb3 (Nat.le_refl _); replace B := B.trans (hb3.mono B.size); clear hb3)
      | (go_at_call 6; refine (chTexts_any _ _ v2 v3 _ _ o2 o3 (by omega)).mono ?_; rintro e w4 ⟨rfl, hb4⟩; replace o2 := ownsStay o2 hb4 (Nat.le_refl _); clear o3; replace B := B.trans (hb4.mono B.size); clear hb4))
    have _t := trivial
    have hc : namB [97, 98, 99] = true := by decide
    by_cases hp : pthB s.data.toList = true
    · by_cases hn : s.data.toList = []
      · have hE : s.toList.isEmpty = true := empty_t s hn
        have hL : (partsL s.data.toList).length = 0 := by rw [hn]; rfl
        rw [hL] at o2
        obtain ⟨p, c2, rfl⟩ := row_none o2
        clear o2 hn hL hl3
        go_wp2_with (first | (go_at_call 8; refine (pthOk_impl _ _ (by omega)).mono ?_; rintro e w5 ⟨rfl, hb5⟩; replace B := B.trans (hb5.mono B.size); clear hb5) | (go_at_call 9; refine (pthOk_spec _ _ (by omega)).mono ?_; rintro e w5 ⟨rfl, hb5⟩; replace B := B.trans (hb5.mono B.size); clear hb5) | (go_at_call 10; refine (chOk_any _).mono ?_; rintro e w5 ⟨rfl, rfl⟩))
        go_ret
        exact ⟨rfl, B⟩
      · have hE : s.toList.isEmpty = false := by rw [isEmpty_list]; simpa using hn
        have hL : partsL s.data.toList = nms s.data.toList := by unfold partsL; rw [if_pos hp]
        rw [hL] at o2 hl3
        obtain ⟨L, HL⟩ : ∃ L, L = nms s.data.toList := ⟨_, rfl⟩
        have ha : L.all namB = true := by rw [HL]; exact pth_all _ hp
        have hf : L[0]? = some (firstL s.data.toList) := by rw [HL]; exact first_is _ hp hn
        have hr : foldJ (L.drop 1) = restL s.data.toList := by rw [HL]; exact fold_rest _ hp hn
        have ho : foldJ L = s.data.toList := by rw [HL]; exact fold_all _ hp
        have hl1 : 1 ≤ L.length := by have := (List.getElem?_eq_some_iff.1 hf).1; omega
        rw [← HL] at o2 hl3
        have HA : Hid (L.all namB = true) := ha
        have HF : Hid (L[0]? = some (firstL s.data.toList)) := hf
        have HR : Hid (foldJ (L.drop 1) = restL s.data.toList) := hr
        have HO : Hid (foldJ L = s.data.toList) := ho
        clear ha hf hr ho hL HL hn
        obtain ⟨g, c2, rfl, hc2⟩ := row_some o2 hl1
        have HC : Hid (∀ j (h : j < L.length), w4.cell? ⟨g, j, none⟩ = some (.string ⟨(L[j]).toArray⟩)) := hc2
        have hg : g < w4.heap.size := row_lt o2
        clear o2 hc2
        go_wp2_with (first | (go_at_call 8; refine (pthOk_impl _ _ (by omega)).mono ?_; rintro e w5 ⟨rfl, hb5⟩; have B5 := hb5; clear hb5) | (go_at_call 9; refine (pthOk_spec _ _ (by omega)).mono ?_; rintro e w6 ⟨rfl, hb6⟩; replace B5 := B5.trans (hb6.mono B5.size); clear hb6))
        go_loopw [5, 6, 7] (fun o r i wr => ∃ j : Nat, j ≤ L.length ∧ i = .int .i64 j ∧ o = .string ⟨(foldJ (L.take j)).toArray⟩ ∧ r = .string ⟨(foldJ ((L.take j).drop 1)).toArray⟩ ∧ Below w4.heap.size w4 wr) (fun _ _ i _ => L.length - (intOf i).toNat)
        case atStart => exact ⟨0, Nat.zero_le _, rfl, rfl, rfl, B5⟩
        case round =>
          obtain ⟨j, hj, rfl, rfl, rfl, hb⟩ := hrel
          by_cases hlt : j < L.length
          · have k1 := (hb.cell (p := ⟨g, j, none⟩) hg).trans (HC.out j hlt)
            obtain ⟨x, hx⟩ : ∃ x, x = L[j] := ⟨_, rfl⟩
            have hxn : namB x = true := by rw [hx]; exact List.all_eq_true.1 HA.out _ (List.getElem_mem hlt)
            have e1 : Hid (foldJ (L.take (j + 1)) = joinL (foldJ (L.take j)) x) := by
              show _ = _
              rw [hx, List.take_succ_eq_append_getElem hlt, foldJ_snoc]
            have e2 : Hid (1 ≤ j → foldJ ((L.take (j + 1)).drop 1) = joinL (foldJ ((L.take j).drop 1)) x) := by
              intro h1; rw [hx, drop_take L j hlt h1, foldJ_snoc]
            have e3 : Hid (j = 0 → foldJ ((L.take (j + 1)).drop 1) = foldJ ((L.take j).drop 1)) := by
              intro h1; subst h1
              have d1 : (L.take (0 + 1)).drop 1 = [] := List.drop_eq_nil_of_le (by simp; omega)
              rw [d1]; rfl
            rw [← hx] at k1
            have z1 : (ByteArray.mk x.toArray).size ≤ 1048576 := by rw [size_mk]; have := namB_le x hxn; omega
            have z2 : (ByteArray.mk (foldJ (L.take j)).toArray).size ≤ 1048576 := by
              rw [size_mk]; have := foldJ_le (L.take j) (all_take L j HA.out) (by simp; omega); omega
            have z3 : (ByteArray.mk (foldJ ((L.take j).drop 1)).toArray).size ≤ 1048576 := by
              rw [size_mk]; have := foldJ_le ((L.take j).drop 1) (all_drop _ 1 (all_take L j HA.out)) (by simp; omega); omega
            have HK : Hid (w4.cell? ⟨g, j, none⟩ = some (.string ⟨x.toArray⟩)) := by rw [hx]; exact HC.out j hlt
            clear hx
            generalize foldJ (L.take j) = fo at *
            generalize foldJ ((L.take j).drop 1) = fr at *
            by_cases hj0 : ¬ (0 < (j : Int))
            · have HJ : Hid (j = 0) := by show _ = _; omega
              go_wp2_with (first | (go_at_call 11; refine (nam_all _ _).mono ?_; rintro e w7 ⟨rfl, rfl⟩) | (go_at_call 12; refine (join_impl _ _ _ z2 z1).mono ?_; rintro e w8 ⟨rfl, hb8⟩; replace hb := hb.trans (hb8.mono hb.size); clear hb8))
              go_roundw
              case rel => exact ⟨j + 1, by omega, by go_num, by rw [e1.out, joinB_mk], by rw [e3.out HJ.out], hb⟩
              case measure => simp [intOf]; omega
            · have hj1 : 0 < (j : Int) := by omega
              clear hj0
              go_wp2_with (first | (go_at_call 11; refine (nam_all _ _).mono ?_; rintro e w7 ⟨rfl, rfl⟩) | (go_at_call 12; refine (join_impl _ _ _ z2 z1).mono ?_; rintro e w8 ⟨rfl, hb8⟩; clear z2; replace hb := hb.trans (hb8.mono hb.size); clear hb8; have k3 := (hb.cell (p := ⟨g, j, none⟩) hg).trans HK.out) | (go_at_call 12; refine (join_impl _ _ _ z3 z1).mono ?_; rintro e w9 ⟨rfl, hb8⟩; replace hb := hb.trans (hb8.mono hb.size); clear hb8))
              go_roundw
              case rel => exact ⟨j + 1, by omega, by go_num, by rw [e1.out, joinB_mk], by rw [e2.out (by omega), joinB_mk], hb⟩
              case measure => simp [intOf]; omega
          · obtain rfl : j = L.length := by omega
            rw [List.take_length, HO.out, HR.out, ← whole s]
            have k1 := (hb.cell (p := ⟨g, 0, none⟩) hg).trans (HC.out 0 hl1)
            have hx : L[0] = firstL s.data.toList := by have := HF.out; rw [List.getElem?_eq_getElem hl1] at this; exact Option.some.inj this
            rw [hx] at k1
            have k0 : Hid (w4.cell? ⟨g, 0, none⟩ = some (.string ⟨(firstL s.data.toList).toArray⟩)) := by
              show _ = _
              rw [← hb.cell (p := ⟨g, 0, none⟩) hg]; exact k1
            have FI : ∀ w', Calls Try.prog 13 #[.string s] w' fun e w'' => e = .returned (.string ⟨(firstL s.data.toList).toArray⟩) ∧ Below w'.heap.size w' w'' := fun w' => first_impl s w' (by omega)
            have RI : ∀ w', Calls Try.prog 14 #[.string s] w' fun e w'' => e = .returned (.string ⟨(restL s.data.toList).toArray⟩) ∧ Below w'.heap.size w' w'' := fun w' => rest_impl s w' (by omega)
            have HB : Hid (Below w.heap.size w w4) := B
            clear hx HF HR HO HC HA hc _t hp hj B5 B
            generalize ByteArray.mk (firstL s.data.toList).toArray = fB at *
            generalize ByteArray.mk (restL s.data.toList).toArray = rB at *
            generalize L.length = n at *
            go_wp2
            have hz := hb.size
            have hne : Nonempty (Ext wr) := ⟨⟨wr, Below.refl _ _⟩⟩
            have x1 : ∀ x : Ext wr, x.world.cell? ⟨g, 0, none⟩ = some (.string fB) := fun x => x.cell k1
            refine region_ext (by kernel_rfl) (by kernel_rfl) ?_
            repeat (go_big_quiet_step (first | (go_at_call 13; exact calls_ext (FI _)) | (go_at_call 14; exact calls_ext (RI _))))
            refine wpQuiet_nil ?_
            rintro _ ⟨x, rfl⟩
            have hbx := hb.trans (x.below.mono hb.size)
            go_wp2
            go_ret
            exact ⟨ret_bool (by simp; try omega), HB.out.trans (hbx.mono HB.out.size)⟩
    · have hp' : pthB s.data.toList = false := by simpa using hp
      have hL : (partsL s.data.toList).length = 0 := by unfold partsL; rw [if_neg hp]; rfl
      rw [hL] at o2
      obtain ⟨p, c2, rfl⟩ := row_none o2
      clear o2 hL hl3 hp
      go_wp2_with (first | (go_at_call 8; refine (pthOk_impl _ _ (by omega)).mono ?_; rintro e w5 ⟨rfl, hb5⟩; replace B := B.trans (hb5.mono B.size); clear hb5) | (go_at_call 9; refine (pthOk_spec _ _ (by omega)).mono ?_; rintro e w5 ⟨rfl, hb5⟩; replace B := B.trans (hb5.mono B.size); clear hb5) | (go_at_call 10; refine (chOk_any _).mono ?_; rintro e w5 ⟨rfl, rfl⟩))
      go_ret
      exact ⟨rfl, B⟩

set_option maxRecDepth 100000 in
theorem lifted (os : Os) (started : os.Started) (H : Type) (enc : TypeId × Value → H) :
    ReturnsInHanded {} Try.checked os 3 .any (Rows.fnNamPartsSpec.pre6 enc Try.prog Try.f3 Rows.fnNamPartsRow.domain false) (Rows.fnNamPartsSpec.post enc Try.prog Try.f3 false true false false) := by
  refine returnsInHanded_of_change (C := Try.checked) own started (by kernel_rfl) Try.func3
    (ChangeSpec.witness6 (enc := enc) (C := Try.checked) false ⟨#[], #[.slice none 0 0], []⟩ 8 (by kernel_rfl) (by kernel_rfl) (by kernel_rfl) (by kernel_rfl)) ?_
  intro W base args ds gs before hval0 hW hcnd _
  have hval : ∀ (j : Nat) t v, Try.f3.params[j]? = some t → args[j]? = some v → Value.okWide Try.prog W .any base t v := hval0
  have hW' := hW
  obtain ⟨p, q, hA0, hV, rfl, hfz, hnd⟩ := hW
  have hA : DataW.TrodAll enc Try.prog W 0 (fun _ => true) true Try.f3.params.toList args.toList ds p := hA0
  rw [Try.params3] at hA hval
  obtain ⟨v0, vs0, d0, ds0, p0, q0, hargs, rfl, rfl, h0, r0⟩ := trodAll_cons hA
  obtain ⟨rfl, rfl, rfl⟩ := trodAll_nil r0
  obtain rfl : args = #[v0] := by cases args; simp_all
  obtain ⟨rfl, rfl⟩ := trodVars_none hV
  obtain ⟨a0, len0, cap0, rfl⟩ := okWide_slice Try.underlying22 (hval 0 22 v0 rfl rfl)
  have k0 := h0
  have lt0 : ∀ x ∈ p0, x.block < W.heap.size := by obtain ⟨m, hm⟩ := k0; exact DataW.trod_lt m _ _ _ hm
  obtain ⟨z0, w0⟩ : ∃ zs, IsRow .u8 W a0 len0 cap0 zs := by
    obtain ⟨fuel, hf⟩ := h0
    rcases open_ints Try.underlying22 Try.underlying5 (by kernel_rfl) hf with ⟨hcs, _⟩ | ⟨x, l, c, zs, hcs, _, hl, hm, hz, _, hcell, hwz⟩
    · simp [Value.cells] at hcs
      obtain ⟨rfl, rfl, rfl⟩ := hcs
      exact ⟨[], .inl ⟨rfl, rfl, rfl, rfl⟩⟩
    · simp [Value.cells] at hcs
      obtain ⟨rfl, rfl, rfl⟩ := hcs
      exact ⟨zs, .inr ⟨_, rfl, hl, hm, by simpa using hz, hcell, hwz⟩⟩
  clear hA0 hval0
  refine (walk a0 len0 cap0 z0 W w0).mono fun e W' ⟨he, bel⟩ => ?_
  subst he
  exact ⟨_, rfl, _, _, _, [], _, [], hW', trodAll_mk1 (shut_bool Try.underlying4 _), (trodAll_cons_mk (Below.trod laidOut (by kernel_rfl) (of_decide_eq_true (by kernel_rfl)) k0 bel lt0) trodAll_mk0), rfl, bel.frame _, fun h => by cases h⟩

theorem over : Rows.fnNamPartsRow.holds Try.pinned (OpenSpec.ofChange Rows.fnNamPartsSpec) :=
  OpenClaim.holds_of_wide 3 Try.f3 rfl rfl rfl rfl rfl rfl rfl ⟨rfl, rfl, rfl, rfl, rfl⟩ rfl rfl rfl rfl rfl (by kernel_rfl) Try.func3 (by kernel_rfl)
    (of_decide_eq_true (by kernel_rfl)) (by unfold Func.isWrapper; first | (rw [if_pos (by decide +kernel)]; kernel_rfl) | (rw [if_neg (by decide +kernel)]; exact ⟨rfl, rfl⟩))
    (fun os started H enc _ => lifted os started H enc)

theorem proved : Rows.FnNamPartsSaid := over
#print axioms proved
end Go.Proofs.Ytfnojgkffjijiaa.fnNamParts
