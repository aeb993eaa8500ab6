/-
  Of every code: the drawn edits lay down, by the program's TreSize, what the specification says, and as much as the first ones and the others do, however they are parted; the code reads as it did. No condition.
-/
import Derived.Test.YtckpjpipmmbhhabRows
import Derived.Test.YtckpjpipmmbhhabWalkEdits
import Derived.Test.YtckpjpipmmbhhabWalkTreZ
import Derived.Deep.RegionWith
import Derived.WalkKit
import Derived.ProofKit
import Derived.OpenShut
import Derived.ShutString
import Derived.ChangeOld
import Derived.Below
namespace Go.Proofs.Ytckpjpipmmbhhab.fnTreSize
open Go.ChangeShapes Go.WideShapes Go.ChangeAt Go.RowKit
open Go.ChangeMaps (open_string shut_string)
set_option linter.unusedVariables false

theorem own : ownKnob Try.prog.godebug = none := by kernel_rfl
theorem laidOut : laidOutB Try.prog = true := by kernel_rfl

/-- WHAT THE WALK IS TOLD OF A SLICE OF INTEGERS THAT CAME IN: it is nil; or it leads to a row of 'cap' cells, the numbers 'zs' (the first 'len' are its elements, the rest its spare room), each fitting its kind. -/
def IsRow (k : IntKind) (w : World) (a : Option Addr) (len cap : Nat) (zs : List Int) : Prop :=
  (a = none ∧ len = 0 ∧ cap = 0 ∧ zs = []) ∨
  ∃ x, a = some x ∧ len ≤ cap ∧ cap ≤ maxLen ∧ zs.length = cap ∧ (∀ i, i < zs.length → w.cell? (x.add i) = some (.int k (zs.getD i 0))) ∧ ∀ n ∈ zs, (Lit.int k n).wf = true

open Go.Proofs.Ytckpjpipmmbhhab.W in
theorem sz_short : ∀ (M : List TE), short M → szE M ≤ 128 * M.length := by
  intro M
  induction M with
  | nil => intro _; simp [szE]
  | cons x l ih =>
    intro h
    have h1 := h x (by simp)
    have h2 := ih (fun y hy => h y (by simp [hy]))
    unfold szE at *
    simp only [List.map_cons, List.sum_cons, List.length_cons]
    omega
open Go.Proofs.Ytckpjpipmmbhhab.W in
theorem sz_part (M : List TE) (m : Nat) : szE (M.take m) + szE (M.drop m) = szE M := by
  unfold szE
  conv => rhs; rw [← List.take_append_drop m M]
  rw [List.map_append, List.sum_append]
open Go.Proofs.Ytckpjpipmmbhhab.W in
theorem impl_at (A : Option Addr) (c n : Nat) (L : List TE) (w : World) (hL : RdE w.heap.size w A L) (hn : L.length = n) (hz : L.length + szE L ≤ 1048576) :
    Calls Try.prog 5 #[.slice A n c] w fun e w' => e = .returned (.int .i64 (szE L)) ∧ Below w.heap.size w w' := by
  subst hn; exact treSize_impl A c L w hL hz
open Go.Proofs.Ytckpjpipmmbhhab.W in
theorem rd_take {B g : Nat} {w : World} {M : List TE} (h : RdE B w (some ⟨g, 0, none⟩) M) (m : Nat) : RdE B w (some ⟨g, 0, none⟩) (M.take m) := fun j hj => by
  have hj' : j < m ∧ j < M.length := by simp at hj; omega
  obtain ⟨b, o, e, hb, c1, c2, c3⟩ := h j hj'.2
  exact ⟨b, o, e, hb, by simpa using c1, by simpa using c2, by simpa using c3⟩
open Go.Proofs.Ytckpjpipmmbhhab.W in
theorem rd_drop {B g : Nat} {w : World} {M : List TE} (h : RdE B w (some ⟨g, 0, none⟩) M) (m : Nat) : RdE B w (some ⟨g, m * 3, none⟩) (M.drop m) := fun j hj => by
  have hj' : m + j < M.length := by simp at hj; omega
  obtain ⟨b, o, e, hb, c1, c2, c3⟩ := h (m + j) hj'
  simp only [Option.some.injEq, Addr.mk.injEq] at e
  obtain ⟨rfl, rfl, _⟩ := e
  refine ⟨g, m * 3, rfl, hb, ?_, ?_, ?_⟩
  · rw [show m * 3 + j * 3 = 0 + (m + j) * 3 by omega]; simpa using c1
  · rw [show m * 3 + j * 3 + 1 = 0 + (m + j) * 3 + 1 by omega]; simpa using c2
  · rw [show m * 3 + j * 3 + 2 = 0 + (m + j) * 3 + 2 by omega]; simpa using c3
open Go.Proofs.Ytckpjpipmmbhhab.W in
theorem rd_none {B : Nat} {w : World} {A : Option Addr} {M : List TE} (h : M = []) : RdE B w A M := fun j hj => by subst h; simp at hj
open Go.Proofs.Ytckpjpipmmbhhab.W in
theorem lit_at (w : World) (n : Nat) (hn : w.heap.size = n) :
    Calls Try.prog 5 #[.slice (some ⟨n, 0, none⟩) 1 1] (w.alloc (.cells #[.string ⟨#[97, 47, 98]⟩, .string ⟨#[120, 121]⟩, .bool false] 27)) fun e w' => e = .returned (.int .i64 5) ∧ Below (w.alloc (.cells #[.string ⟨#[97, 47, 98]⟩, .string ⟨#[120, 121]⟩, .bool false] 27)).heap.size (w.alloc (.cells #[.string ⟨#[97, 47, 98]⟩, .string ⟨#[120, 121]⟩, .bool false] 27)) w' := by
  subst hn
  refine (impl_at _ 1 1 [⟨⟨#[97, 47, 98]⟩, ⟨#[120, 121]⟩, false⟩] _ (fun j hj => ?_) rfl (by decide)).mono ?_
  · obtain rfl : j = 0 := by simpa using hj
    exact ⟨w.heap.size, 0, rfl, by simp, by simp, by simp, by simp⟩
  · rintro e w' ⟨rfl, hb⟩
    exact ⟨rfl, hb⟩
theorem wrSmall (n : Nat) (h : n ≤ 512) : IntKind.i64.wrap (n : Int) = (n : Int) := by
  rw [IntKind.wrap_i64]; omega
open Go.Proofs.Ytckpjpipmmbhhab.W in
set_option maxHeartbeats 40000000 in
theorem walk (a0 : Option Addr) (len0 cap0 : Nat) (z0 : List Int) (w : World) (w0 : IsRow .u8 w a0 len0 cap0 z0) :
    Calls Try.prog 3 #[.slice a0 len0 cap0] w fun e w' => e = .returned (.bool true) ∧ Below w.heap.size w w' := by
  have hsrc := src_of w a0 len0 cap0 z0 w0
  have HS : Hid (Src w a0 len0 cap0 (fun i => z0.getD i 0)) := hsrc
  clear hsrc w0
  by_cases h : 1048576 < len0
  · go_enter Try.func3, Try.ntmps3
    go_wp2
    go_ret
    exact ⟨rfl, Below.refl _ _⟩
  · go_enter Try.func3, Try.ntmps3
    have tk : True := trivial
    go_wp2_with (first
      | (go_at_call 4; refine (drawTreSize_any _ _ _ _ _ HS.out).mono ?_; rintro e w1 ⟨⟨v, M, rfl, hM1, hM, hSh, hO⟩, hb1⟩; have hzz := sz_short M hSh; rcases hO.2 with ⟨_, hn0⟩ | ⟨g, cap, cur, rfl, hg, _, hnc, hcm, _, _⟩; (exfalso; omega); obtain ⟨A, c, ev, rd⟩ := rdE_of_own hO; simp only [Value.slice.injEq] at ev; obtain ⟨rfl, _, rfl⟩ := ev; clear hO hSh; obtain ⟨m, hm⟩ : ∃ m : Nat, (len0 : Int) % ((M.length : Int) + 1) = (m : Int) := ⟨len0 % (M.length + 1), by simp⟩; have hmn : m ≤ M.length := (by have := Int.emod_lt_of_pos (len0 : Int) (show 0 < (M.length : Int) + 1 by omega); omega))
      | (go_at_call 5; have _t := tk; refine (treSize_impl _ cap M _ rd (by omega)).mono ?_; rintro e w2 ⟨rfl, hb2⟩; clear _t tk; have rd2 := rd.up hb2; have B2 := hb1.trans (hb2.mono hb1.size)))
    have hsum := sz_part M m
    have hlt : (M.take m).length = m := by simp; omega
    have hld : (M.drop m).length = M.length - m := by simp
    have hs1 : szE (M.take m) ≤ 512 := by omega
    have hs2 : szE (M.drop m) ≤ 512 := by omega
    generalize ht1 : M.take m = T1 at *
    generalize ht2 : M.drop m = T2 at *
    have rdT : ∀ {w' : World}, RdE w'.heap.size w' (some ⟨g, 0, none⟩) M → RdE w'.heap.size w' (some ⟨g, 0, none⟩) T1 := fun r => ht1 ▸ rd_take r m
    have rdD : ∀ {w' : World}, RdE w'.heap.size w' (some ⟨g, 0, none⟩) M → RdE w'.heap.size w' (some ⟨g, m * 3, none⟩) T2 := fun r => ht2 ▸ rd_drop r m
    have rdN : m = M.length → ∀ {w' : World} {A : Option Addr}, RdE w'.heap.size w' A T2 := fun e => rd_none (by rw [← ht2, e]; simp)
    have hsi : (szE M : Int) = (szE T1 : Int) + (szE T2 : Int) := by omega
    have HSI : Hid ((szE M : Int) = (szE T1 : Int) + (szE T2 : Int)) := hsi
    have E3 : ((szE T1 : Int) + (szE T2 : Int)) = (szE M : Int) := hsi.symm
    have hmc : m ≤ cap := by omega
    obtain ⟨A2, hA2⟩ : ∃ A2 : Option Addr, (if cap = m then (some ⟨g, 0, none⟩ : Option Addr) else some ⟨g, m * 3, none⟩) = A2 := ⟨_, rfl⟩
    have rdA : ∀ {w' : World}, RdE w'.heap.size w' (some ⟨g, 0, none⟩) M → RdE w'.heap.size w' A2 T2 := fun r => by
      by_cases hcm' : cap = m
      · exact rdN (by omega)
      · rw [if_neg hcm'] at hA2; rw [← hA2]; exact rdD r
    clear ht1 ht2 hsum hsi rdD rdN
    have rd2d : RdE w2.drew.heap.size w2.drew (some ⟨g, 0, none⟩) M := rd2
    have hz512 : szE M ≤ 512 := by omega
    have hwr := wrSmall (szE M) hz512
    have hwt : IntKind.i64.wrap ((szE T1 : Int) + (szE T2 : Int)) = (szE M : Int) := by rw [E3]; exact hwr
    have RT : Hid (∀ {w' : World}, RdE w'.heap.size w' (some ⟨g, 0, none⟩) M → RdE w'.heap.size w' (some ⟨g, 0, none⟩) T1) := rdT
    have RA : Hid (∀ {w' : World}, RdE w'.heap.size w' (some ⟨g, 0, none⟩) M → RdE w'.heap.size w' A2 T2) := rdA
    clear rdT rdA
    go_region_with (first
      | (go_at_call 6; refine (treSize_spec _ cap M _ rd2d (by omega)).mono ?_; rintro e w3 ⟨rfl, hb3⟩; replace hb3 : Below w2.heap.size w2 w3 := ⟨hb3.os, hb3.tape, hb3.output, hb3.size, hb3.block⟩; have rd3 := rd2.up hb3; have B3 := B2.trans (hb3.mono B2.size))
      | (go_at_call_of 5 (Value.slice (some ⟨g, 0, none⟩) m cap); refine (impl_at _ cap m T1 _ (RT.out rd3) hlt (by omega)).mono ?_; rintro e w4 ⟨rfl, hb4⟩; have rd4 := rd3.up hb4; have B4 := B3.trans (hb4.mono B3.size))
      | (go_at_call_of 5 (Value.slice A2 (M.length - m) (cap - m)); refine (impl_at _ (cap - m) (M.length - m) T2 _ (RA.out rd4) hld (by omega)).mono ?_; rintro e w5 ⟨rfl, hb5⟩; have B5 := B4.trans (hb5.mono B4.size))
      | (go_at_call 5; refine (lit_at _ _ rfl).mono ?_; rintro e w6 ⟨rfl, hb6⟩; have B6 := (B5.alloc B5.size _).trans (hb6.mono (by simp; have := B5.size; omega))))
    all_goals
      go_wp2
      go_ret
      exact ⟨rfl, by first | exact B6 | exact B6.drew⟩

set_option maxRecDepth 100000 in
theorem lifted (os : Os) (started : os.Started) (H : Type) (enc : TypeId × Value → H) :
    ReturnsInHanded {} Try.checked os 3 .any (Rows.fnTreSizeSpec.pre6 enc Try.prog Try.f3 Rows.fnTreSizeRow.domain false) (Rows.fnTreSizeSpec.post enc Try.prog Try.f3 false true false false) := by
  refine returnsInHanded_of_change (C := Try.checked) own started (by kernel_rfl) Try.func3
    (ChangeSpec.witness6 (enc := enc) (C := Try.checked) false ⟨#[], #[.slice none 0 0], []⟩ 8 (by kernel_rfl) (by kernel_rfl) (by kernel_rfl) (by kernel_rfl)) ?_
  intro W base args ds gs before hval0 hW hcnd _
  have hval : ∀ (j : Nat) t v, Try.f3.params[j]? = some t → args[j]? = some v → Value.okWide Try.prog W .any base t v := hval0
  have hW' := hW
  obtain ⟨p, q, hA0, hV, rfl, hfz, hnd⟩ := hW
  have hA : DataW.TrodAll enc Try.prog W 0 (fun _ => true) true Try.f3.params.toList args.toList ds p := hA0
  rw [Try.params3] at hA hval
  obtain ⟨v0, vs0, d0, ds0, p0, q0, hargs, rfl, rfl, h0, r0⟩ := trodAll_cons hA
  obtain ⟨rfl, rfl, rfl⟩ := trodAll_nil r0
  obtain rfl : args = #[v0] := by cases args; simp_all
  obtain ⟨rfl, rfl⟩ := trodVars_none hV
  obtain ⟨a0, len0, cap0, rfl⟩ := okWide_slice Try.underlying22 (hval 0 22 v0 rfl rfl)
  have k0 := h0
  have lt0 : ∀ x ∈ p0, x.block < W.heap.size := by obtain ⟨m, hm⟩ := k0; exact DataW.trod_lt m _ _ _ hm
  obtain ⟨z0, w0⟩ : ∃ zs, IsRow .u8 W a0 len0 cap0 zs := by
    obtain ⟨fuel, hf⟩ := h0
    rcases open_ints Try.underlying22 Try.underlying5 (by kernel_rfl) hf with ⟨hcs, _⟩ | ⟨x, l, c, zs, hcs, _, hl, hm, hz, _, hcell, hwz⟩
    · simp [Value.cells] at hcs
      obtain ⟨rfl, rfl, rfl⟩ := hcs
      exact ⟨[], .inl ⟨rfl, rfl, rfl, rfl⟩⟩
    · simp [Value.cells] at hcs
      obtain ⟨rfl, rfl, rfl⟩ := hcs
      exact ⟨zs, .inr ⟨_, rfl, hl, hm, by simpa using hz, hcell, hwz⟩⟩
  clear hA0 hval0
  refine (walk a0 len0 cap0 z0 W w0).mono fun e W' ⟨he, bel⟩ => ?_
  subst he
  exact ⟨_, rfl, _, _, _, [], _, [], hW', trodAll_mk1 (shut_bool Try.underlying4 _), (trodAll_cons_mk (Below.trod laidOut (by kernel_rfl) (of_decide_eq_true (by kernel_rfl)) k0 bel lt0) trodAll_mk0), rfl, bel.frame _, fun h => by cases h⟩

theorem over : Rows.fnTreSizeRow.holds Try.pinned (OpenSpec.ofChange Rows.fnTreSizeSpec) :=
  OpenClaim.holds_of_wide 3 Try.f3 rfl rfl rfl rfl rfl rfl rfl ⟨rfl, rfl, rfl, rfl, rfl⟩ rfl rfl rfl rfl rfl (by kernel_rfl) Try.func3 (by kernel_rfl)
    (of_decide_eq_true (by kernel_rfl)) (by unfold Func.isWrapper; first | (rw [if_pos (by decide +kernel)]; kernel_rfl) | (rw [if_neg (by decide +kernel)]; exact ⟨rfl, rfl⟩))
    (fun os started H enc _ => lifted os started H enc)

theorem proved : Rows.FnTreSizeSaid := over
#print axioms proved
end Go.Proofs.Ytckpjpipmmbhhab.fnTreSize
