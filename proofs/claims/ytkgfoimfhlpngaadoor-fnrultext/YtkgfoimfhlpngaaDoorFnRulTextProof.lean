/-
  Of every two codes: a drawn rule that is ok has a text, from which it is read, and a drawn text that is read is that of what was read; the program answers as the specification; the codes read as they did. No condition. Go's own tables that the row names hold what the program's text lays; the card ties them.
-/
import Derived.Test.YtkgfoimfhlpngaaDoorCards
import Derived.Test.YtkgfoimfhlpngaaDoorTie
import Derived.WalkKit
import Derived.ProofKit
import Derived.OpenShut
import Derived.ShutString
import Derived.Below
import Derived.Carry
import Derived.LaidLaws
import Derived.Lay
import Derived.LaidHandle
import Derived.Stop.LaidErr
import Derived.HandedShaped
import Derived.Deep.DeepHandedRow
import Derived.Test.YtkgfoimfhlpngaaDoorWalkDrawT
namespace Go.Proofs.YtkgfoimfhlpngaaDoor.fnRulText
open Go.ChangeShapes Go.WideShapes Go.ChangeAt Go.RowKit
open Go.ChangeMaps (open_string shut_string)
set_option linter.unusedVariables false

theorem own : ownKnob Tryd.prog.godebug = none := by kernel_rfl
theorem laidOut : laidOutB Tryd.prog = true := by kernel_rfl

theorem star : "*" ++ "errors.errorString" = "*errors.errorString" := by decide
theorem rowE (u : TypeId) (h : Tryd.prog.typeName? 3 u = some "*errors.errorString") : u = 99 :=
  typeName_ptr_named (nm := "errors.errorString") (by rw [star]; kernel_rfl) (by kernel_rfl) (by decide) u (by rw [star]; exact h)
theorem gS : Tryd.prog.globalNamed "strconv.ErrSyntax" = some 0 := by kernel_rfl
theorem gST : (Tryd.prog.globals[0]?).map (·.type) = some 40 := by kernel_rfl
theorem gR : Tryd.prog.globalNamed "strconv.ErrRange" = some 1 := by kernel_rfl
theorem gRT : (Tryd.prog.globals[1]?).map (·.type) = some 40 := by kernel_rfl
theorem cellsE : Tryd.prog.cellsOf 101 = 1 := by kernel_rfl
theorem cells9 : Tryd.prog.cellsOf 9 = 1 := by kernel_rfl
theorem maxLen_of {W : World} (h : W.ShapedOpen Tryd.prog) : ∃ m, W.cell? ⟨2, 0, none⟩ = some (.int .i64 m) :=
  Go.Proofs.cell_of_shapedOpen_int (zero := #[.int .i64 0]) (t := 3) h (of_decide_eq_true (by kernel_rfl)) (by kernel_rfl) rfl (by kernel_rfl) (by kernel_rfl) Tryd.underlying3
theorem glo_of {W : World} (h : laidMetH Tryd.prog Rows.fnRulTextRow.laid W) (hs : W.ShapedOpen Tryd.prog) : Go.Proofs.YtkgfoimfhlpngaaDoor.W.Glo W := by
  have hL : laidMet Tryd.prog Rows.fnRulTextRow.laid W := h
  obtain ⟨a1, s1, hv1, _⟩ := laid_sentinel hL.tail.tail.tail.tail gR gRT Tryd.underlying40 rowE Tryd.underlying99 Tryd.underlying101 rfl rfl Tryd.underlying9 cellsE cells9
  obtain ⟨a2, s2, hv2, _⟩ := laid_sentinel hL.tail.tail.tail.tail.tail gS gST Tryd.underlying40 rowE Tryd.underlying99 Tryd.underlying101 rfl rfl Tryd.underlying9 cellsE cells9
  exact ⟨maxLen_of hs, ⟨_, _, by simpa using World.var?_cell gS hv2 0⟩, _, _, by simpa using World.var?_cell gR hv1 0⟩

open Go.Proofs.YtkgfoimfhlpngaaDoor.W Go.Proofs.YtkgfoimfhlpngaaDoor.M in
theorem empty_iff (x : RR) : (textB x).toList.isEmpty = !rulB x := by
  cases h : rulB x
  · rw [textB_bad x h, isEmpty_list]; rfl
  · rw [text_full x h]; rfl
open Go.Proofs.YtkgfoimfhlpngaaDoor.W Go.Proofs.YtkgfoimfhlpngaaDoor.M in
set_option maxRecDepth 100000 in
set_option maxHeartbeats 4000000 in
theorem walk (a0 : Option Addr) (len0 cap0 : Nat) (z0 : List Int) (a1 : Option Addr) (len1 cap1 : Nat) (z1 : List Int) (w : World) (s0 : Go.Proofs.YtkgfoimfhlpngaaDoor.W.Src w a0 len0 cap0 (fun i => z0.getD i 0)) (s1 : Go.Proofs.YtkgfoimfhlpngaaDoor.W.Src w a1 len1 cap1 (fun i => z1.getD i 0)) (G : Go.Proofs.YtkgfoimfhlpngaaDoor.W.Glo w) :
    Calls Tryd.prog 4 #[.slice a0 len0 cap0, .slice a1 len1 cap1] w fun e w' => e = .returned (.bool true) ∧ Below w.heap.size w w' := by
  have HS : Hid (Go.Proofs.YtkgfoimfhlpngaaDoor.W.Src w a0 len0 cap0 (fun i => z0.getD i 0)) := s0
  have HR : Hid (Go.Proofs.YtkgfoimfhlpngaaDoor.W.Src w a1 len1 cap1 (fun i => z1.getD i 0)) := s1
  clear s0 s1
  have gE := guardR
  by_cases h : 1048576 < len0
  · go_enter Tryd.func4, Tryd.ntmps4
    go_wp2
    go_ret
    exact ⟨rfl, Below.refl _ _⟩
  by_cases h' : 1048576 < len1
  · go_enter Tryd.func4, Tryd.ntmps4
    go_wp2
    go_ret
    exact ⟨rfl, Below.refl _ _⟩
  go_enter Tryd.func4, Tryd.ntmps4
  go_wp2_with (first
    | (go_at_call 8; refine (drawRulText_any _ _ _ _ _ HS.out).mono ?_; rintro e w1 ⟨x, rfl, hx1, hx2, B⟩; clear HS; have hs1 := B.size; have D1 := atR_new w1 x 23; obtain ⟨T, hT⟩ : ∃ T, T = textB x := ⟨_, rfl⟩; have HT : Hid (textB x = T) := hT.symm; have hTs : T.size ≤ 150 := (by rw [hT]; exact textB_size x hx1 hx2); have hTe : T.toList.isEmpty = !rulB x := (by rw [hT]; exact empty_iff x); clear hT)
    | (go_at_call 9; have _t := D1; refine (rulText_impl x _ (by omega) (by omega)).mono ?_; rw [HT.out]; rintro e w2 ⟨rfl, hb2⟩; have D2 := D1.up hb2; clear D1 _t; replace B := (B.alloc hs1 _).trans (hb2.mono (by simp; omega)); clear hb2; have hs2 := B.size)
    | (go_at_call 10; refine (drawRulRead_any _ _ _ _ _ (HR.out.below B)).mono ?_; rintro e w3 ⟨t, rfl, ht, hb3⟩; clear HR; have D3 := D2.up hb3; clear D2; replace B := B.trans (hb3.mono hs2); clear hb3 hs2; have hs3 := B.size; obtain ⟨y, b, HI, HP, HB, hy1, hy2⟩ := readPairR t (by omega))
    | (go_at_call 6; have _t := D3; refine (HI.out _ (G.up B)).mono ?_; rintro e w4 ⟨rfl, hb4⟩; have D4 := (D3.up hb4).up ((Below.refl _ _).alloc (Nat.le_refl _) (.cells #[.int .i64 y.user, .string y.ref, .string y.path, .bool y.write] 23)); have Q4 := atR_new w4 y 23; clear D3 _t; replace B := B.trans (hb4.mono hs3); clear hb4 hs3; have hs4 := B.size)
    | (go_at_call 5; refine (HP.out _).mono ?_; rintro e w5 ⟨rfl, hb5⟩; have D5 := (D4.up hb5).up ((Below.refl _ _).alloc (Nat.le_refl _) (.cells #[.int .i64 y.user, .string y.ref, .string y.path, .bool y.write] 23)); have Q5 := (Q4.up hb5).up ((Below.refl _ _).alloc (Nat.le_refl _) (.cells #[.int .i64 y.user, .string y.ref, .string y.path, .bool y.write] 23)); have P5 := atR_new w5 y 23; clear D4 Q4; replace B := (B.alloc hs4 _).trans (hb5.mono (by simp; omega)); clear hb5 hs4; have hs5 := B.size; obtain ⟨d0, d1, d2, d3⟩ := id D5)
    | (go_at_call 11; refine (rulText_spec x _ (by omega) (by omega)).mono ?_; rw [HT.out]; rintro e w6 ⟨rfl, hb6⟩; clear d0 d1 d2 d3; have D6 := D5.up hb6; have Q6 := Q5.up hb6; have P6 := P5.up hb6; clear D5 Q5 P5; replace B := (B.alloc hs5 _).trans (hb6.mono (by simp; omega)); clear hb6 hs5; have hs6 := B.size; obtain ⟨d0, d1, d2, d3⟩ := id D6; obtain ⟨q0, q1, q2, q3⟩ := id Q6; obtain ⟨p0, p1, p2, p3⟩ := id P6; have req := fun v => run_neR v y y; rw [eqR_self] at req; have req2 := fun v => run_eqR v x x; rw [eqR_self] at req2; have tk : True := trivial; have tk8 : True := trivial; cases b <;> cases hxr : rulB x <;> rw [hxr] at hTe <;> simp only [Bool.not_true, Bool.not_false] at hTe)
    | (go_at_call 9; have _t := tk; have hyT : textB y = t := (by first | exact HB.out rfl | exact HB.out trivial); refine (rulText_impl y _ hy1 hy2).mono ?_; rw [hyT]; rintro e w7 ⟨rfl, hb7⟩; clear tk _t hyT d0 d1 d2 d3 q0 q1 q2 q3 p0 p1 p2 p3; replace D6 := D6.up hb7; replace B := B.trans (hb7.mono hs6); clear hb7 hs6; have hs6 := B.size; obtain ⟨d0, d1, d2, d3⟩ := id D6)
    | (go_at_call 12; have _t := tk8; refine (rulOk_impl x _ (by omega) (by omega)).mono ?_; rw [hxr]; rintro e w8 ⟨rfl, hb8⟩; clear tk8 _t d0 d1 d2 d3; replace D6 := D6.up hb8; replace B := B.trans (hb8.mono hs6); clear hb8 hs6; have hs6 := B.size; obtain ⟨d0, d1, d2, d3⟩ := id D6)
    | (go_at_call 9; refine (rulText_impl ⟨0, ⟨#[]⟩, ⟨#[]⟩, false⟩ _ (by decide) (by decide)).mono ?_; rw [text_zero]; rintro e w9 ⟨rfl, hb9⟩; replace B := B.trans (hb9.mono hs6); clear hb9)
    | (go_at_call 6; have HV : Hid (∀ w, Glo w → Calls Tryd.prog 6 #[.string T] w fun e w' => e = .returned (.tuple #[.agg #[.int .i64 x.user, .string x.ref, .string x.path, .bool x.write], .bool true]) ∧ Below w.heap.size w w') := (by have := rulRead_impl_some x hxr; rw [HT.out] at this; exact this); refine (HV.out _ (G.up B)).mono ?_; rintro e w9 ⟨rfl, hb9⟩; clear d0 d1 d2 d3; replace D6 := (D6.up hb9).up ((Below.refl _ _).alloc (Nat.le_refl _) (.cells #[.int .i64 x.user, .string x.ref, .string x.path, .bool x.write] 23)); replace B := B.trans (hb9.mono hs6); replace B := B.alloc B.size (.cells #[.int .i64 x.user, .string x.ref, .string x.path, .bool x.write] 23); clear hb9 hs6; obtain ⟨d0, d1, d2, d3⟩ := id D6; obtain ⟨f1, f2, f3, f4⟩ := atR_new w9 x 23))
  all_goals
    go_ret
    exact ⟨rfl, B⟩

set_option maxRecDepth 100000 in
theorem contract (H : Type) (enc : TypeId × Value → H) (W : World) (base : Nat) (args : Array Value) (ds gs : List (DataW H)) (before : List MemPlace)
    (hval0 : ∀ (j : Nat) t v, Tryd.f4.params[j]? = some t → args[j]? = some v → Value.okWide Tryd.prog W .any base t v)
    (hW : DataW.Whole enc Tryd.prog Tryd.f4.params.toList Rows.fnRulTextSpec.vars false W args.toList ds gs before) (hL : laidMetH Tryd.prog Rows.fnRulTextRow.laid W) (hsh : W.ShapedOpen Tryd.prog) :
    Calls Tryd.prog 4 args W fun e W' => ∃ v, e = .returned v ∧ Rows.fnRulTextSpec.post enc Tryd.prog Tryd.f4 false true false false W args v W' := by
  have hval := hval0
  have hW' := hW
  obtain ⟨p, q, hA0, hV, rfl, hfz, hnd⟩ := hW
  have hA : DataW.TrodAll enc Tryd.prog W 0 (fun _ => true) true Tryd.f4.params.toList args.toList ds p := hA0
  rw [Tryd.params4] at hA hval
  obtain ⟨v0, vs0, d0, ds0, p0, q0, hargs, rfl, rfl, h0, r0⟩ := trodAll_cons hA
  obtain ⟨v1, vs1, d1, ds1, p1, q1, rfl, rfl, rfl, h1, r1⟩ := trodAll_cons r0
  obtain ⟨rfl, rfl, rfl⟩ := trodAll_nil r1
  obtain rfl : args = #[v0, v1] := by cases args; simp_all
  obtain ⟨rfl, rfl⟩ := trodVars_none hV
  have k0 := h0
  have k1 := h1
  obtain ⟨a0, len0, cap0, rfl⟩ := okWide_slice Tryd.underlying28 (hval 0 28 v0 rfl rfl)
  obtain ⟨z0, s0⟩ : ∃ zs : List Int, Go.Proofs.YtkgfoimfhlpngaaDoor.W.Src W a0 len0 cap0 (fun i => zs.getD i 0) := by
    obtain ⟨fuel, hf⟩ := h0
    rcases open_ints Tryd.underlying28 Tryd.underlying5 (by kernel_rfl) hf with ⟨hcs, _⟩ | ⟨x, l, c, zs, hcs, _, hl, hm, hz, _, hcell, hwz⟩
    · simp [Value.cells] at hcs
      obtain ⟨rfl, rfl, rfl⟩ := hcs
      exact ⟨[], Go.Proofs.YtkgfoimfhlpngaaDoor.W.src_of W _ _ _ [] (.inl ⟨rfl, rfl, rfl, rfl⟩)⟩
    · simp [Value.cells] at hcs
      obtain ⟨rfl, rfl, rfl⟩ := hcs
      exact ⟨zs, Go.Proofs.YtkgfoimfhlpngaaDoor.W.src_of W _ _ _ zs (.inr ⟨_, rfl, hl, hm, by simpa using hz, hcell, hwz⟩)⟩
  obtain ⟨a1, len1, cap1, rfl⟩ := okWide_slice Tryd.underlying28 (hval 1 28 v1 rfl rfl)
  obtain ⟨z1, s1⟩ : ∃ zs : List Int, Go.Proofs.YtkgfoimfhlpngaaDoor.W.Src W a1 len1 cap1 (fun i => zs.getD i 0) := by
    obtain ⟨fuel, hf⟩ := h1
    rcases open_ints Tryd.underlying28 Tryd.underlying5 (by kernel_rfl) hf with ⟨hcs, _⟩ | ⟨x, l, c, zs, hcs, _, hl, hm, hz, _, hcell, hwz⟩
    · simp [Value.cells] at hcs
      obtain ⟨rfl, rfl, rfl⟩ := hcs
      exact ⟨[], Go.Proofs.YtkgfoimfhlpngaaDoor.W.src_of W _ _ _ [] (.inl ⟨rfl, rfl, rfl, rfl⟩)⟩
    · simp [Value.cells] at hcs
      obtain ⟨rfl, rfl, rfl⟩ := hcs
      exact ⟨zs, Go.Proofs.YtkgfoimfhlpngaaDoor.W.src_of W _ _ _ zs (.inr ⟨_, rfl, hl, hm, by simpa using hz, hcell, hwz⟩)⟩
  clear hA0 hval0
  simp only [List.append_nil] at hW'
  refine (walk a0 len0 cap0 z0 a1 len1 cap1 z1 W s0 s1 (glo_of hL hsh)).mono fun e W' ⟨he, hg⟩ => ?_
  subst he
  exact ⟨_, rfl, _, _, _, [], _, [], hW', (trodAll_cons_mk (shut_bool Tryd.underlying4 _) trodAll_mk0), (trodAll_cons_mk (Below.trod laidOut (by kernel_rfl) (of_decide_eq_true (by kernel_rfl)) k0 hg (fun x hx => hW'.lt x (by first | (simp [hx]; done) | simp at hx))) (trodAll_cons_mk (Below.trod laidOut (by kernel_rfl) (of_decide_eq_true (by kernel_rfl)) k1 hg (fun x hx => hW'.lt x (by first | (simp [hx]; done) | simp at hx))) trodAll_mk0)), rfl, hg.frame _, fun h => by cases h⟩

noncomputable def laidWorld (os : Os) : World := World.laidAll Tryd.prog os Rows.fnRulTextRow.laid
theorem laid_met (os : Os) : laidMetH Tryd.prog Rows.fnRulTextRow.laid ((laidWorld os).forCall (fun _ _ => 0) ⟨#[], #[.slice none 0 0, .slice none 0 0], []⟩).memory := by
  refine laidMetH_of_parts ?_ (by kernel_rfl)
  exact laidMet_laidAll _ (by kernel_rfl) (by kernel_rfl)
theorem reads (os : Os) {H : Type} (enc : TypeId × Value → H) : ∃ places, DataW.whole enc Tryd.prog ((laidWorld os).forCall (fun _ _ => 0) ⟨#[], #[.slice none 0 0, .slice none 0 0], []⟩).memory Tryd.f4.params.toList Rows.fnRulTextSpec.vars false #[Value.slice none 0 0, .slice none 0 0].toList 8 = some ([.nil, .nil], [], places) :=
  ⟨[], by kernel_rfl⟩

set_option maxRecDepth 100000 in
theorem lifted (os : Os) (started : os.Started) (H : Type) (enc : TypeId × Value → H) (F : Stop.Interp) :
    ReturnsInHanded {} Tryd.checked os 4 .any ((OpenSpec.ofChange Rows.fnRulTextSpec).preRow enc Tryd.prog Tryd.f4 Rows.fnRulTextRow.domain false Rows.fnRulTextRow.laid) (((OpenSpec.ofChange Rows.fnRulTextSpec).at F).post enc Tryd.prog Tryd.f4 false true false false) := by
  obtain ⟨places, hx⟩ := reads os enc
  refine returnsInHanded_of_row (C := Tryd.checked) (s := OpenSpec.ofChange Rows.fnRulTextSpec) own started (by kernel_rfl) Tryd.func4
    (witness_row_at (enc := enc) (C := Tryd.checked) false (laidWorld os) #[.slice none 0 0, .slice none 0 0] (World.laidAll_os _ _ _) (by kernel_rfl) (by kernel_rfl) (by kernel_rfl)
      (OpenSpec.preRow_of_cond 8 hx (by kernel_rfl) (fun k hk => by cases hk) (by kernel_rfl) (laid_met os))) ?_
  intro W base args ds gs before hval hW _ _ _ hL hsh _
  exact contract H enc W base args ds gs before hval hW hL hsh

theorem said : Rows.FnRulTextSaid :=
  OpenClaim.holds_of_cond 4 Tryd.f4 rfl rfl rfl rfl rfl rfl rfl ⟨rfl, rfl, rfl, rfl, rfl⟩ rfl rfl rfl rfl rfl (by kernel_rfl) Tryd.func4 (by kernel_rfl)
    (of_decide_eq_true (by kernel_rfl)) (by unfold Func.isWrapper; first | (rw [if_pos (by decide +kernel)]; kernel_rfl) | (rw [if_neg (by decide +kernel)]; exact ⟨rfl, rfl⟩))
    (fun os started H enc _ F => by rw [OpenClaim.pre_eq_preRow]; exact lifted os started H enc F)
theorem plain (f : FuncId) (fn : Func) (hf : Tryd.pinned.checked.prog.funcNamed "loop.example/chartulary/laws.FnRulText" = some f) (hfn : Tryd.pinned.checked.prog.funcs[f]? = some fn) :
    true = Tryd.pinned.checked.prog.looks [] ∧ ∀ (j : Nat) t, fn.params[j]? = some t → Tryd.pinned.checked.prog.wantsStandIn t = false := by
  obtain rfl : f = 4 := Option.some.inj ((show Tryd.prog.funcNamed "loop.example/chartulary/laws.FnRulText" = some 4 by kernel_rfl).symm.trans hf) |>.symm
  obtain rfl : fn = Tryd.f4 := (Option.some.inj (Tryd.func4.symm.trans hfn)).symm
  refine ⟨by kernel_rfl, fun j t ht => ?_⟩
  rw [Tryd.params4] at ht
  obtain rfl : t = 28 := by simpa using Array.mem_of_getElem? ht
  exact (show Tryd.prog.wantsStandIn 28 = false by kernel_rfl)
theorem proved : Rows.FnRulTextCardSaid :=
  Claim7.holds_tied_plain_at .later [] _ _ _ _ said (fun _ h => by cases h) (by kernel_rfl) (fun _ h => by cases h) fnRulText_row_tie rfl ⟨rfl, rfl⟩ (by kernel_rfl) rfl plain (by kernel_rfl)
#print axioms proved
end Go.Proofs.YtkgfoimfhlpngaaDoor.fnRulText
