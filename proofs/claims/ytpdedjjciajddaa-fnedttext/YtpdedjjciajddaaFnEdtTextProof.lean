/-
  Of every two codes: a drawn edit that has a text is read from it, and a drawn text that is read is that of what was read; the program answers as the specification; the codes read as they did. No condition.
-/
import Derived.Test.YtpdedjjciajddaaRows
import Derived.Test.YtpdedjjciajddaaWalkDrawE
import Derived.Test.YtpdedjjciajddaaWalkEdtX
import Derived.WalkKit
import Derived.ProofKit
import Derived.OpenShut
import Derived.ShutString
import Derived.ChangeOld
import Derived.Below
namespace Go.Proofs.Ytpdedjjciajddaa.fnEdtText
open Go.ChangeShapes Go.WideShapes Go.ChangeAt Go.RowKit
open Go.ChangeMaps (open_string shut_string)
set_option linter.unusedVariables false

theorem own : ownKnob Try.prog.godebug = none := by kernel_rfl
theorem laidOut : laidOutB Try.prog = true := by kernel_rfl

/-- WHAT THE WALK IS TOLD OF A SLICE OF INTEGERS THAT CAME IN: it is nil; or it leads to a row of 'cap' cells, the numbers 'zs' (the first 'len' are its elements, the rest its spare room), each fitting its kind. -/
def IsRow (k : IntKind) (w : World) (a : Option Addr) (len cap : Nat) (zs : List Int) : Prop :=
  (a = none ∧ len = 0 ∧ cap = 0 ∧ zs = []) ∨
  ∃ x, a = some x ∧ len ≤ cap ∧ cap ≤ maxLen ∧ zs.length = cap ∧ (∀ i, i < zs.length → w.cell? (x.add i) = some (.int k (zs.getD i 0))) ∧ ∀ n ∈ zs, (Lit.int k n).wf = true

open Go.Proofs.Ytpdedjjciajddaa.W Go.Proofs.Ytpdedjjciajddaa.M in
def AtEd (w : World) (b : Nat) (x : TE) : Prop := w.cell? ⟨b, 0, none⟩ = some (.string x.pa) ∧ w.cell? ⟨b, 1, none⟩ = some (.string x.by_) ∧ w.cell? ⟨b, 2, none⟩ = some (.bool x.gone)
open Go.Proofs.Ytpdedjjciajddaa.W Go.Proofs.Ytpdedjjciajddaa.M in
theorem AtEd.lt {w : World} {b : Nat} {x : TE} (h : AtEd w b x) : b < w.heap.size := World.block_lt_of_cell? _ _ h.1
open Go.Proofs.Ytpdedjjciajddaa.W Go.Proofs.Ytpdedjjciajddaa.M in
theorem AtEd.up {w w' : World} {b : Nat} {x : TE} (h : AtEd w b x) (hb : Below w.heap.size w w') : AtEd w' b x :=
  ⟨(hb.cell (p := ⟨b, _, none⟩) h.lt).trans h.1, (hb.cell (p := ⟨b, _, none⟩) h.lt).trans h.2.1, (hb.cell (p := ⟨b, _, none⟩) h.lt).trans h.2.2⟩
open Go.Proofs.Ytpdedjjciajddaa.W Go.Proofs.Ytpdedjjciajddaa.M in
theorem atEd_new (w : World) (x : TE) (t : TypeId) : AtEd (w.alloc (.cells #[.string x.pa, .string x.by_, .bool x.gone] t)) w.heap.size x := by simp [AtEd]
open Go.Proofs.Ytpdedjjciajddaa.W Go.Proofs.Ytpdedjjciajddaa.M in
theorem AtEd.old {w : World} {b : Nat} {x : TE} (h : AtEd w b x) (o : Obj) : AtEd (w.alloc o) b x := h.up ((Below.refl _ _).alloc (Nat.le_refl _) _)
open Go.Proofs.Ytpdedjjciajddaa.W Go.Proofs.Ytpdedjjciajddaa.M in
theorem ed_of {x : TE} {T : ByteArray} (h : edtB x = T) (hT : T.toList.isEmpty = false) : edB x = true := by
  cases hx : edB x with
  | true => rfl
  | false =>
    rw [edtB_no x hx] at h
    subst h
    rw [isEmpty_list] at hT
    exact absurd hT (by decide)
open Go.Proofs.Ytpdedjjciajddaa.W Go.Proofs.Ytpdedjjciajddaa.M in
set_option maxRecDepth 100000 in
set_option maxHeartbeats 4000000 in
theorem walk (a0 : Option Addr) (len0 cap0 : Nat) (z0 : List Int) (a1 : Option Addr) (len1 cap1 : Nat) (z1 : List Int) (w : World) (w0 : IsRow .u8 w a0 len0 cap0 z0) (w1 : IsRow .u8 w a1 len1 cap1 z1) :
    Calls Try.prog 3 #[.slice a0 len0 cap0, .slice a1 len1 cap1] w fun e w' => e = .returned (.bool true) ∧ Below w.heap.size w w' := by
  have HS : Hid (W.Src w a0 len0 cap0 (fun i => z0.getD i 0)) := src_of w a0 len0 cap0 z0 w0
  have HR : Hid (W.Src w a1 len1 cap1 (fun i => z1.getD i 0)) := src_of w a1 len1 cap1 z1 w1
  clear w0 w1
  have gE := guardE
  by_cases h : 1048576 < len0
  · go_enter Try.func3, Try.ntmps3
    go_wp2
    go_ret
    exact ⟨rfl, Below.refl _ _⟩
  by_cases h' : 1048576 < len1
  · go_enter Try.func3, Try.ntmps3
    go_wp2
    go_ret
    exact ⟨rfl, Below.refl _ _⟩
  go_enter Try.func3, Try.ntmps3
  go_wp2_with (first
    | (go_at_call 4; refine (drawEdtText_any _ _ _ _ _ HS.out).mono ?_; rintro e w1 ⟨x, rfl, hx1, hx2, B⟩; clear HS; have hs1 := B.size; have D1 := atEd_new w1 x 24; obtain ⟨T, hT⟩ : ∃ T, T = edtB x := ⟨_, rfl⟩; have HT : Hid (edtB x = T) := hT.symm; have hTs : T.size ≤ 100 := (by rw [hT]; exact Nat.le_trans (edtB_size x) (by omega)); clear hT)
    | (go_at_call 5; have _t := D1; refine (edtText_impl x _ (by omega) (by omega)).mono ?_; rw [HT.out]; rintro e w2 ⟨rfl, hb2⟩; have D2 := D1.up hb2; clear D1 _t; replace B := (B.alloc hs1 _).trans (hb2.mono (by simp; omega)); clear hb2; have hs2 := B.size)
    | (go_at_call 6; refine (drawEdtRead_any _ _ _ _ _ (HR.out.below B)).mono ?_; rintro e w3 ⟨t, rfl, ht, hb3⟩; clear HR; have D3 := D2.up hb3; clear D2; replace B := B.trans (hb3.mono hs2); clear hb3 hs2; have hs3 := B.size; obtain ⟨y, b, HI, HP, HB, hy1, hy2⟩ := readPair t (by omega))
    | (go_at_call 7; have _t := D3; refine (HI.out _).mono ?_; rintro e w4 ⟨rfl, hb4⟩; have D4 := (D3.up hb4).old (.cells #[.string y.pa, .string y.by_, .bool y.gone] 24); have Q4 := atEd_new w4 y 24; clear D3 _t; replace B := B.trans (hb4.mono hs3); clear hb4 hs3; have hs4 := B.size)
    | (go_at_call 8; refine (HP.out _).mono ?_; rintro e w5 ⟨rfl, hb5⟩; have D5 := (D4.up hb5).old (.cells #[.string y.pa, .string y.by_, .bool y.gone] 24); have Q5 := (Q4.up hb5).old (.cells #[.string y.pa, .string y.by_, .bool y.gone] 24); have P5 := atEd_new w5 y 24; clear D4 Q4; replace B := (B.alloc hs4 _).trans (hb5.mono (by simp; omega)); clear hb5 hs4; have hs5 := B.size; obtain ⟨d0, d1, d2⟩ := id D5)
    | (go_at_call 9; refine (edtText_spec x _ (by omega) (by omega)).mono ?_; rw [HT.out]; rintro e w6 ⟨rfl, hb6⟩; clear d0 d1 d2; have D6 := D5.up hb6; have Q6 := Q5.up hb6; have P6 := P5.up hb6; clear D5 Q5 P5; replace B := (B.alloc hs5 _).trans (hb6.mono (by simp; omega)); clear hb6 hs5; have hs6 := B.size; obtain ⟨d0, d1, d2⟩ := id D6; obtain ⟨q0, q1, q2⟩ := id Q6; obtain ⟨p0, p1, p2⟩ := id P6; have req := fun v => run_neE v y y; rw [eqE_self] at req; have req2 := fun v => run_eqE v x x; rw [eqE_self] at req2; have tk : True := trivial; cases b <;> cases hTe : T.toList.isEmpty)
    | (go_at_call 5; have _t := tk; have hyT : edtB y = t := (by first | exact HB.out rfl | exact HB.out trivial); refine (edtText_impl y _ hy1 hy2).mono ?_; rw [hyT]; rintro e w7 ⟨rfl, hb7⟩; clear tk _t hyT d0 d1 d2 q0 q1 q2 p0 p1 p2; replace D6 := D6.up hb7; replace B := B.trans (hb7.mono hs6); clear hb7 hs6; have hs6 := B.size; obtain ⟨d0, d1, d2⟩ := id D6)
    | (go_at_call 5; refine (edtText_impl ⟨⟨#[97]⟩, ⟨#[]⟩, true⟩ _ (by decide) (by decide)).mono ?_; rw [edtB_a]; rintro e w8 ⟨rfl, hb8⟩; replace B := B.trans (hb8.mono hs6); clear hb8)
    | (go_at_call 7; have hx : edB x = true := ed_of HT.out hTe; have HV : Hid (∀ w, Calls Try.prog 7 #[.string T] w fun e w' => e = .returned (.tuple #[.agg #[.string x.pa, .string x.by_, .bool x.gone], .bool true]) ∧ Below w.heap.size w w') := (by have := readBack x hx (by rw [HT.out]; omega); rw [HT.out] at this; exact this); refine (HV.out _).mono ?_; rintro e w9 ⟨rfl, hb9⟩; clear d0 d1 d2; replace D6 := (D6.up hb9).old (.cells #[.string x.pa, .string x.by_, .bool x.gone] 24); replace B := B.trans (hb9.mono hs6); replace B := B.alloc B.size (.cells #[.string x.pa, .string x.by_, .bool x.gone] 24); clear hb9 hs6; obtain ⟨d0, d1, d2⟩ := id D6; have f0 := atEd_new w9 x 24; obtain ⟨f1, f2, f3⟩ := f0))
  all_goals
    go_ret
    exact ⟨rfl, B⟩

set_option maxRecDepth 100000 in
theorem lifted (os : Os) (started : os.Started) (H : Type) (enc : TypeId × Value → H) :
    ReturnsInHanded {} Try.checked os 3 .any (Rows.fnEdtTextSpec.pre6 enc Try.prog Try.f3 Rows.fnEdtTextRow.domain false) (Rows.fnEdtTextSpec.post enc Try.prog Try.f3 false true false false) := by
  refine returnsInHanded_of_change (C := Try.checked) own started (by kernel_rfl) Try.func3
    (ChangeSpec.witness6 (enc := enc) (C := Try.checked) false ⟨#[], #[.slice none 0 0, .slice none 0 0], []⟩ 8 (by kernel_rfl) (by kernel_rfl) (by kernel_rfl) (by kernel_rfl)) ?_
  intro W base args ds gs before hval0 hW hcnd _
  have hval : ∀ (j : Nat) t v, Try.f3.params[j]? = some t → args[j]? = some v → Value.okWide Try.prog W .any base t v := hval0
  have hW' := hW
  obtain ⟨p, q, hA0, hV, rfl, hfz, hnd⟩ := hW
  have hA : DataW.TrodAll enc Try.prog W 0 (fun _ => true) true Try.f3.params.toList args.toList ds p := hA0
  rw [Try.params3] at hA hval
  obtain ⟨v0, vs0, d0, ds0, p0, q0, hargs, rfl, rfl, h0, r0⟩ := trodAll_cons hA
  obtain ⟨v1, vs1, d1, ds1, p1, q1, rfl, rfl, rfl, h1, r1⟩ := trodAll_cons r0
  obtain ⟨rfl, rfl, rfl⟩ := trodAll_nil r1
  obtain rfl : args = #[v0, v1] := by cases args; simp_all
  obtain ⟨rfl, rfl⟩ := trodVars_none hV
  obtain ⟨a0, len0, cap0, rfl⟩ := okWide_slice Try.underlying22 (hval 0 22 v0 rfl rfl)
  have k0 := h0
  have lt0 : ∀ x ∈ p0, x.block < W.heap.size := by obtain ⟨m, hm⟩ := k0; exact DataW.trod_lt m _ _ _ hm
  obtain ⟨z0, w0⟩ : ∃ zs, IsRow .u8 W a0 len0 cap0 zs := by
    obtain ⟨fuel, hf⟩ := h0
    rcases open_ints Try.underlying22 Try.underlying5 (by kernel_rfl) hf with ⟨hcs, _⟩ | ⟨x, l, c, zs, hcs, _, hl, hm, hz, _, hcell, hwz⟩
    · simp [Value.cells] at hcs
      obtain ⟨rfl, rfl, rfl⟩ := hcs
      exact ⟨[], .inl ⟨rfl, rfl, rfl, rfl⟩⟩
    · simp [Value.cells] at hcs
      obtain ⟨rfl, rfl, rfl⟩ := hcs
      exact ⟨zs, .inr ⟨_, rfl, hl, hm, by simpa using hz, hcell, hwz⟩⟩
  obtain ⟨a1, len1, cap1, rfl⟩ := okWide_slice Try.underlying22 (hval 1 22 v1 rfl rfl)
  have k1 := h1
  have lt1 : ∀ x ∈ p1, x.block < W.heap.size := by obtain ⟨m, hm⟩ := k1; exact DataW.trod_lt m _ _ _ hm
  obtain ⟨z1, w1⟩ : ∃ zs, IsRow .u8 W a1 len1 cap1 zs := by
    obtain ⟨fuel, hf⟩ := h1
    rcases open_ints Try.underlying22 Try.underlying5 (by kernel_rfl) hf with ⟨hcs, _⟩ | ⟨x, l, c, zs, hcs, _, hl, hm, hz, _, hcell, hwz⟩
    · simp [Value.cells] at hcs
      obtain ⟨rfl, rfl, rfl⟩ := hcs
      exact ⟨[], .inl ⟨rfl, rfl, rfl, rfl⟩⟩
    · simp [Value.cells] at hcs
      obtain ⟨rfl, rfl, rfl⟩ := hcs
      exact ⟨zs, .inr ⟨_, rfl, hl, hm, by simpa using hz, hcell, hwz⟩⟩
  clear hA0 hval0
  refine (walk a0 len0 cap0 z0 a1 len1 cap1 z1 W w0 w1).mono fun e W' ⟨he, bel⟩ => ?_
  subst he
  exact ⟨_, rfl, _, _, _, [], _, [], hW', trodAll_mk1 (shut_bool Try.underlying4 _), (trodAll_cons_mk (Below.trod laidOut (by kernel_rfl) (of_decide_eq_true (by kernel_rfl)) k0 bel lt0) (trodAll_cons_mk (Below.trod laidOut (by kernel_rfl) (of_decide_eq_true (by kernel_rfl)) k1 bel lt1) trodAll_mk0)), rfl, bel.frame _, fun h => by cases h⟩

theorem over : Rows.fnEdtTextRow.holds Try.pinned (OpenSpec.ofChange Rows.fnEdtTextSpec) :=
  OpenClaim.holds_of_wide 3 Try.f3 rfl rfl rfl rfl rfl rfl rfl ⟨rfl, rfl, rfl, rfl, rfl⟩ rfl rfl rfl rfl rfl (by kernel_rfl) Try.func3 (by kernel_rfl)
    (of_decide_eq_true (by kernel_rfl)) (by unfold Func.isWrapper; first | (rw [if_pos (by decide +kernel)]; kernel_rfl) | (rw [if_neg (by decide +kernel)]; exact ⟨rfl, rfl⟩))
    (fun os started H enc _ => lifted os started H enc)

theorem proved : Rows.FnEdtTextSaid := over
#print axioms proved
end Go.Proofs.Ytpdedjjciajddaa.fnEdtText
