
/-
  Draws of trees: l20Files, l20AnyFiles and DrawTreTurn of the specification: few files, few edits, all short.
-/
import Derived.Test.YtbceegonaomblaaWalkTurV
import Derived.Test.YtbceegonaomblaaWalkEdits
import Derived.Test.YtbceegonaomblaaWalkDraw2
namespace Go.Proofs.Ytbceegonaomblaa.W
open Go.RowKit Go.Proofs.Ytbceegonaomblaa.M
set_option linter.unusedVariables false

/-- files that were drawn: short -/
def shortF (M : List TF) : Prop := ∀ x ∈ M, x.pa.size ≤ 64 ∧ x.by_.size ≤ 64
theorem turnT_mem (L K : List TF) (E : List TE) (h : turnT L E = some K) : okT K = true ∧ okT L = true ∧ turnAll L (edOf E) = some K ∧ ∀ x ∈ K, x ∈ L ∨ ∃ e ∈ E, x = ⟨e.pa, e.by_⟩ := by
  unfold turnT at h
  split at h
  · rename_i h1
    cases ha : turnAll L (edOf E) with
    | none => rw [ha] at h; cases h
    | some M =>
      rw [ha] at h
      simp only [Option.bind] at h
      split at h
      · rename_i h2
        cases h
        refine ⟨h2, h1.1, rfl, fun x hx => ?_⟩
        rcases (turnAll_ok L _ _ (okT_rise L h1.1).1 ha).2.2 x hx with hx | ⟨e, he, rfl⟩
        · exact .inl hx
        · unfold edOf at he
          obtain ⟨y, hy, rfl⟩ := List.mem_map.1 he
          exact .inr ⟨y, hy, rfl⟩
      · cases h
  · cases h
theorem shortF_turn (L K : List TF) (x : TE) (h : turnT L [x] = some K) (hL : shortF L) (h1 : x.pa.size ≤ 64) (h2 : x.by_.size ≤ 64) : shortF K := fun y hy => by
  rcases (turnT_mem L K [x] h).2.2.2 y hy with hy | ⟨e, he, rfl⟩
  · exact hL y hy
  · obtain rfl : e = x := by simpa using he
    exact ⟨h1, h2⟩
theorem rdE_new (w : World) (x : TE) : RdE (w.alloc (.cells #[.string x.pa, .string x.by_, .bool x.gone] 43)).heap.size (w.alloc (.cells #[.string x.pa, .string x.by_, .bool x.gone] 43)) (some ⟨w.heap.size, 0, none⟩) [x] := fun j hj => by
  obtain rfl : j = 0 := by simp at hj; omega
  refine ⟨w.heap.size, 0, rfl, by simp, ?_, ?_, ?_⟩
  · exact boxCell w _ _ 0 _ rfl
  · exact boxCell w _ _ 1 _ rfl
  · exact boxCell w _ _ 2 _ rfl
theorem ownNot {w : World} {base z n rb : Nat} {e : TypeId} {v : Value} {xs : List Value} (h : w.ownsRow base e z v n xs) (hr : rb < base) : v.ownBlock = none ∨ v.ownBlock ≠ some rb := by
  rcases h.2 with ⟨rfl, _⟩ | ⟨g, cap, cur, rfl, h2, _⟩
  · exact .inl rfl
  · exact .inr (by simp [Value.ownBlock]; omega)
theorem rdBelow {w w' : World} {rb p : Nat} {a : Option Addr} {len cap : Nat} {zs : Nat → Int} (h : Rd w rb p a len cap zs) (hb : Below w.heap.size w w') (hlt : rb < w.heap.size) : Rd w' rb p a len cap zs :=
  h.kept (row := none) ⟨hb.os, hb.tape, hb.output, hb.size, fun k hk _ => hb.block k hk⟩ (fun _ e => by cases e) hlt
theorem gBelow {w w' : World} {r : Option Nat} (h : Below w.heap.size w w') : w.grownBy w' r := ⟨h.os, h.tape, h.output, h.size, fun k hk _ => h.block k hk⟩
theorem sizesF {L : List TF} (h : shortF L) : ∀ j (h : j < L.length), (L[j]).pa.size ≤ 1048576 ∧ (L[j]).by_.size ≤ 1048576 := fun j hj => by
  have := h _ (List.getElem_mem hj); omega
theorem sizesE {L : List TE} (h : short L) : ∀ j (h : j < L.length), (L[j]).pa.size ≤ 1048576 ∧ (L[j]).by_.size ≤ 1048576 := fun j hj => by
  have := h _ (List.getElem_mem hj); omega

theorem sizes1 (s t : ByteArray) (g : Bool) (hs : s.size ≤ 64) (ht : t.size ≤ 64) : ∀ j (h : j < [(⟨s, t, g⟩ : TE)].length), ([(⟨s, t, g⟩ : TE)][j]).pa.size ≤ 1048576 ∧ ([(⟨s, t, g⟩ : TE)][j]).by_.size ≤ 1048576 := fun j hj => by
  obtain rfl : j = 0 := by simp at hj; omega
  simp; omega
set_option maxHeartbeats 4000000 in
set_option maxRecDepth 100000 in
theorem filesD_any (w : World) (rb p : Nat) (a : Option Addr) (len cap : Nat) (zs : Nat → Int) (h : Rd w rb p a len cap zs) (hp : p ≤ 500) (hlt : rb < w.heap.size) :
    Calls Try.prog 42 #[.pointer (some ⟨rb, 0, none⟩)] w fun e w' => (∃ (v : Value) (L : List TF), e = .returned v ∧ L.length ≤ 60 ∧ shortF L ∧ w'.ownsRow w.heap.size 51 2 v L.length (cellsF L)) ∧ w.grownBy w' (some rb) ∧ ∃ p', p' ≤ p + 25 ∧ Rd w' rb p' a len cap zs := by
  have O0 : (w.alloc (.cells #[] 51)).ownsRow w.heap.size 51 2 (.slice (some ⟨w.heap.size, 0, none⟩) 0 0) 0 [] := World.ownsRow_lit w #[] 0 (Nat.le_refl _) (by unfold maxLen; omega) rfl
  go_enter Try.func42, Try.ntmps42
  go_wp2_with (go_at_call 43; refine (pick_any _ rb p a len cap 7 zs (h.alloc hlt _) (by omega) (by omega) (by omega)).mono ?_; rintro e w1 ⟨n, hn, rfl, R1, g1⟩; have z1 := g1.size; simp at z1; have O1 := O0.kept g1 (.inr (by simp [Value.ownBlock]; omega)); have G1 : w.grownBy w1 (some rb) := gtrans (galloc _ _) g1)
  go_loopw [3, 4] (fun v kv wr => ∃ (m p' : Nat) (L : List TF), m ≤ 6 ∧ kv = .int .i64 m ∧ p' + 3 * m ≤ p + 20 ∧ L.length ≤ 60 ∧ Hid (shortF L) ∧ Rd wr rb p' a len cap zs ∧ wr.ownsRow w.heap.size 51 2 v L.length (cellsF L) ∧ w.grownBy wr (some rb)) (fun _ k _ => (RowKit.intOf k).toNat)
  case atStart => exact ⟨n, p + 1, [], by omega, by go_num, by omega, by simp, (show shortF [] from fun x hx => by simp at hx), R1, O1, G1⟩
  case round =>
    obtain ⟨m, p', L, hm, rfl, hp', hL, HS, R, hown, G⟩ := hrel
    have hz := G.size
    by_cases hm0 : 0 < m
    · have hnr := ownNot hown hlt
      go_wp2_with (first
        | (go_at_call 56; refine (edit_any _ rb p' a len cap zs R (by omega) (by omega)).mono ?_; rintro e w2 ⟨s, t, gn, p2, rfl, hs, ht, hp2, R2, g2⟩; have z2 := g2.size; have O2 := hown.kept g2 hnr; have G2 := gtrans G g2; clear hown)
        | (go_at_call 36; refine (treTurn_spec _ L (some ⟨w2.heap.size, 0, none⟩) 1 [⟨s, t, gn⟩] _ (O2.alloc _) (rdE_new w2 ⟨s, t, gn⟩) (by omega) (by simp) (sizesF HS.out) (sizes1 s t gn hs ht)).mono ?_; rintro e w3 ⟨v3, rfl, o3, hb3⟩; have z3 := hb3.size; simp at z3; have R3 := rdBelow (R2.alloc (by omega) _) hb3 (by simp; omega); have G3 : w.grownBy w3 (some rb) := gtrans (gtrans G2 (galloc _ _)) (gBelow hb3); have O3 := ownsUnder (O2.alloc (.cells #[.string s, .string t, .bool gn] 43)) hb3 (Nat.le_refl _); obtain ⟨r, hr⟩ : ∃ r, (turnT L [⟨s, t, gn⟩]).isSome = r := ⟨_, rfl⟩; have HRR : Hid ((turnT L [⟨s, t, gn⟩]).isSome = r) := hr; rw [hr]; clear hr O2 R2 hnr; cases r))
      · go_roundw
        case rel => exact ⟨m - 1, p2, L, by omega, by go_num, by omega, hL, HS, R3, O3, G3⟩
        case measure => simp [RowKit.intOf]; omega
      · go_roundw
        case rel =>
          obtain ⟨K, hK⟩ := Option.isSome_iff_exists.1 HRR.out
          have e1 : turnL L [⟨s, t, gn⟩] = K := by unfold turnL; rw [hK]; rfl
          rw [e1] at o3
          exact ⟨m - 1, p2, K, by omega, by go_num, by omega, (okT_rise K (turnT_mem L K _ hK).1).2, (show shortF K from shortF_turn L K _ hK HS.out hs ht), R3, ownsUpF o3 (by simp; omega), G3⟩
        case measure => simp [RowKit.intOf]; omega
    · go_wp2
      go_ret
      exact ⟨⟨_, L, rfl, hL, HS.out, hown⟩, G, p', by omega, R⟩

theorem cellsF_setx (L : List TF) (j : Nat) (x : TF) : ((cellsF L).set (j * 2) (.string x.pa)).set (j * 2 + 1) (.string x.by_) = cellsF (L.set j x) := by
  induction L generalizing j with
  | nil => simp [cellsF]
  | cons y l ih =>
    cases j with
    | zero => rw [List.set_cons_zero, cellsF_cons, cellsF_cons]; rfl
    | succ j =>
      rw [List.set_cons_succ, cellsF_cons, cellsF_cons, ← ih j, show (j + 1) * 2 = j * 2 + 1 + 1 by omega]
      simp
theorem shortF_set {L : List TF} (h : shortF L) (j : Nat) (x : TF) (h1 : x.pa.size ≤ 64) (h2 : x.by_.size ≤ 64) : shortF (L.set j x) := fun y hy => by
  rcases List.mem_or_eq_of_mem_set hy with hy | rfl
  · exact h y hy
  · exact ⟨h1, h2⟩
theorem shortF_snoc {L : List TF} (h : shortF L) (x : TF) (h1 : x.pa.size ≤ 64) (h2 : x.by_.size ≤ 64) : shortF (L ++ [x]) := fun y hy => by
  rcases List.mem_append.1 hy with hy | hy
  · exact h y hy
  · obtain rfl : y = x := by simpa using hy
    exact ⟨h1, h2⟩
theorem formPos {w : World} {base n z : Nat} {e : TypeId} {v : Value} {xs : List Value} (h : w.ownsRow base e z v n xs) (hn : 0 < n) : ∃ g cap, v = .slice (some ⟨g, 0, none⟩) n cap ∧ base ≤ g := by
  rcases h.2 with ⟨_, h0⟩ | ⟨g, cap, _, h1, h2, _⟩
  · omega
  · exact ⟨g, cap, h1, h2⟩
theorem grOwn {w w' : World} {base n z rb : Nat} {e : TypeId} {v : Value} {xs : List Value} {w0 : World} (G : w0.grownBy w (some rb)) (h : w.ownsRow base e z v n xs) (hb : w0.heap.size ≤ base) (hg : w.grownBy w' v.ownBlock) : w0.grownBy w' (some rb) := by
  refine ⟨hg.os.trans G.os, hg.tape.trans G.tape, hg.output.trans G.output, Nat.le_trans G.size hg.size, fun k hk hn => (hg.block k (Nat.lt_of_lt_of_le hk G.size) (fun e => ?_)).trans (G.block k hk hn)⟩
  rcases h.2 with ⟨rfl, _⟩ | ⟨g, cap, cur, rfl, h2, _⟩
  · simp [Value.ownBlock] at e
  · simp [Value.ownBlock] at e; omega
theorem rdOwn {w w' : World} {rb p : Nat} {a : Option Addr} {len cap : Nat} {zs : Nat → Int} {base n z : Nat} {e : TypeId} {v : Value} {xs : List Value} (R : Rd w rb p a len cap zs) (h : w.ownsRow base e z v n xs) (hb : rb < base) (hlt : rb < w.heap.size) (hg : w.grownBy w' v.ownBlock) : Rd w' rb p a len cap zs :=
  R.kept hg (fun r hr => by
    rcases h.2 with ⟨rfl, _⟩ | ⟨g, cap, cur, rfl, h2, _⟩
    · simp [Value.ownBlock] at hr
    · simp [Value.ownBlock] at hr; omega) hlt
theorem grSet (w : World) (g j : Nat) (u : Value) : w.grownBy (w.setCell ⟨g, j, none⟩ u) (some g) :=
  ⟨rfl, rfl, rfl, by simp [World.setCell], fun k _ hn => Below.heap_setCell _ _ _ _ (fun e => hn (by rw [e]))⟩

theorem grTr2 {w w' w'' : World} {r : Option Nat} (h : w.grownBy w' r) (k : w'.grownBy w'' r) : w.grownBy w'' r := gtrans h k
def lenOfV : Value → Nat | .slice _ n _ => n | _ => 0
/-- what the draw of files leaves -/
def DrewF (w : World) (rb p k : Nat) (a : Option Addr) (len cap : Nat) (zs : Nat → Int) (e : Ending) (w' : World) : Prop :=
  (∃ (v : Value) (L : List TF), e = .returned v ∧ L.length ≤ 61 ∧ shortF L ∧ w'.ownsRow w.heap.size 51 2 v L.length (cellsF L)) ∧ w.grownBy w' (some rb) ∧ ∃ p', p' ≤ p + k ∧ Rd w' rb p' a len cap zs
set_option maxHeartbeats 8000000 in
set_option maxRecDepth 100000 in
theorem anyFiles_any (w : World) (rb p n : Nat) (a : Option Addr) (len cap : Nat) (zs : Nat → Int) (h : Rd w rb p a len cap zs) (hp : p ≤ 500) (hlt : rb < w.heap.size) (hn : 1 ≤ n) (hn2 : n ≤ 1000) :
    Calls Try.prog 23 #[.pointer (some ⟨rb, 0, none⟩), .int .i64 n] w (DrewF w rb p 40 a len cap zs) := by
  obtain ⟨i0, hi, hz0, hz1, hz2⟩ := info_parts infoF
  go_enter Try.func23, Try.ntmps23
  have t1 : True := trivial
  go_wp2_with (first
    | (go_at_call 42; refine (filesD_any _ rb p a len cap zs h hp hlt).mono ?_; rintro e w1 ⟨⟨v, L, rfl, hL, hS, O1⟩, g1, p1, hp1, R1⟩; have z1 := g1.size; have HS : Hid (shortF L) := hS; clear hS; obtain ⟨A, cv, rfl, _⟩ := rdF_of_own O1)
    | (go_at_call 43; have _t := t1; refine (pick_any _ rb p1 a len cap n zs R1 (by omega) (by omega) (by omega)).mono ?_; rintro e w2 ⟨k, hk, rfl, R2, g2⟩; have z2 := g2.size; have O2 := O1.kept g2 (ownNot O1 hlt); have G2 := gtrans g1 g2; clear O1 R1 g1 g2 _t t1; rcases Nat.eq_zero_or_pos k with rfl | hk0)
    | (go_at_call 43; refine (pick_any _ rb (p1 + 1) a len cap 4 zs R2 (by omega) (by omega) (by omega)).mono ?_; rintro e w3 ⟨c, hc, rfl, R3, g3⟩; have z3 := g3.size; have O3 := O2.kept g3 (ownNot O2 hlt); have G3 := gtrans G2 g3; clear O2 R2 G2 g3; rcases (show c = 0 ∨ (c = 1 ∧ 0 < L.length) ∨ (c = 1 ∧ ¬ 0 < L.length) ∨ (c = 2 ∧ 1 < L.length) ∨ (c = 2 ∧ ¬ 1 < L.length) ∨ c = 3 by omega) with rfl | ⟨rfl, hl⟩ | ⟨rfl, hl⟩ | ⟨rfl, hl⟩ | ⟨rfl, hl⟩ | rfl))
  · have hnr := ownNot O3 hlt
    go_wp2_with (first
      | (go_at_call 24; refine (anyPath_any _ rb (p1 + 1 + 1) 2 a len cap zs R3 (by omega) (by omega) (by omega) (by omega)).mono ?_; rintro e w4 ⟨s, p4, rfl, hs, hp4, R4, g4⟩; have z4 := g4.size; have O4 := O3.kept g4 hnr; have G4 := gtrans G3 g4; clear O3 R3 G3 g4)
      | (go_at_call 44; refine (bytes_any _ rb p4 a len cap zs R4 (by omega) (by omega)).mono ?_; rintro e w5 ⟨t, p5, rfl, ht, hp5, R5, g5⟩; have z5 := g5.size; have O5 := O4.kept g5 hnr; have G5 := gtrans G4 g5; clear O4 R4 G4 g5)
      | (at_builtin; refine wpList_append_own _ rfl _ _ 23 rfl w.heap.size 51 i0 (.agg #[.string ByteArray.empty, .string ByteArray.empty]) 2 32 Try.underlying23 hi hz0 hz1 hz2 rfl (by decide) _ _ _ rfl (O5.alloc _) ⟨w5.heap.size, 0, none⟩ 1 1 [.string s, .string t] rfl rfl (cells_new w5 #[.string s, .string t] 51) (by simp [Value.oneCell']) (by unfold maxLen; omega) (by omega) (by simp; omega) ?_; intro v6 w6 O6 g6 _; have G6 := grOwn (gtrans G5 (galloc w5 (.cells #[.string s, .string t] 51))) (O5.alloc _) (Nat.le_refl _) g6; have R6 := rdOwn (R5.alloc (by omega) _) (O5.alloc _) hlt (by simp; omega) g6))
    go_ret
    exact ⟨⟨_, L ++ [⟨s, t⟩], rfl, by simp; omega, shortF_snoc HS.out _ hs ht, by rw [cellsF_snoc, List.length_append]; exact O6⟩, G6, p5, by omega, R6⟩
  · skip
    · obtain ⟨g, cg, e9, hg9⟩ := formPos O3 hl
      obtain ⟨rfl, rfl⟩ : A = some ⟨g, 0, none⟩ ∧ cv = cg := by injection e9 with e1 e2 e3; exact ⟨e1, e3⟩
      clear e9
      go_wp2_with (go_at_call 43; refine (pick_any _ rb (p1 + 1 + 1) a len cap L.length zs R3 (by omega) (by omega) (by omega)).mono ?_; rintro e w4 ⟨k, hk4, rfl, R4, g4⟩; have z4 := g4.size; have O4 := O3.kept g4 (ownNot O3 hlt); have G4 := gtrans G3 g4; have hf5 := O4.frozenAt (k * 2 + 1); obtain ⟨u5, hu5⟩ := ownsCell O4 (k * 2 + 1) (by omega); have HO4 : Hid (w4.ownsRow w.heap.size 51 2 (.slice (some ⟨g, 0, none⟩) L.length cv) L.length (cellsF L)) := O4; clear O4 O3 g4)
      go_ret
      have O5 := (HO4.out.stored (k * 2 + 1) (.string ⟨#[49, 50, 51, 52, 53, 54, 55]⟩)).1
      rw [cellsF_set1 L k _ hk4] at O5
      have hk9 := HS.out _ (List.getElem_mem hk4)
      exact ⟨⟨_, L.set k ⟨(L[k]).pa, ⟨#[49, 50, 51, 52, 53, 54, 55]⟩⟩, rfl, by simp; omega, shortF_set HS.out _ _ hk9.1 (show (⟨#[49, 50, 51, 52, 53, 54, 55]⟩ : ByteArray).size ≤ 64 by decide), by rw [List.length_set]; exact O5⟩, grOwn G4 HO4.out (Nat.le_refl _) (grSet w4 g _ _), p1 + 1 + 1 + 1, by omega, rdOwn R4 HO4.out hlt (by omega) (grSet w4 g _ _)⟩
  · go_ret
    exact ⟨⟨_, L, rfl, by omega, HS.out, O3⟩, G3, p1 + 1 + 1, by omega, R3⟩
  · skip
    · obtain ⟨g, cg, e9, hg9⟩ := formPos O3 (by omega)
      obtain ⟨rfl, rfl⟩ : A = some ⟨g, 0, none⟩ ∧ cv = cg := by injection e9 with e1 e2 e3; exact ⟨e1, e3⟩
      clear e9
      obtain ⟨A9, c9, e9, hR9⟩ := rdF_of_own O3
      obtain ⟨rfl, rfl⟩ : some ⟨g, 0, none⟩ = A9 ∧ cv = c9 := by injection e9 with e1 e2 e3; exact ⟨e1, e3⟩
      clear e9
      obtain ⟨b9, o9, e9, hb9, d1, d2⟩ := hR9 1 hl
      simp only [Option.some.injEq, Addr.mk.injEq] at e9
      obtain ⟨rfl, rfl, _⟩ := e9
      have hk9 := HS.out _ (List.getElem_mem hl)
      obtain ⟨x, hx⟩ : ∃ x, L[1] = x := ⟨_, rfl⟩
      rw [hx] at d1 d2 hk9
      obtain ⟨q, t⟩ := x
      simp only [Nat.zero_add, Nat.one_mul] at d1 d2
      have hf0 := O3.frozenAt 0
      have hf1 := O3.frozenAt 1
      obtain ⟨u0, hu0⟩ := ownsCell O3 0 (by omega)
      obtain ⟨u1, hu1⟩ := ownsCell O3 1 (by omega)
      have HO3 : Hid (w3.ownsRow w.heap.size 51 2 (.slice (some ⟨g, 0, none⟩) L.length cv) L.length (cellsF L)) := O3
      clear O3 hR9 hx
      go_wp2
      go_ret
      have s1 := (HO3.out.stored 0 (.string q)).1
      have s2 := (s1.stored 1 (.string t)).1
      have e8 := cellsF_setx L 0 ⟨q, t⟩
      simp only [Nat.zero_mul, Nat.zero_add] at e8
      rw [e8] at s2
      have g1 := grTr2 (grSet w3 g 0 (.string q)) (grSet (w3.setCell ⟨g, 0, none⟩ (.string q)) g 1 (.string t))
      exact ⟨⟨_, L.set 0 ⟨q, t⟩, rfl, by simp; omega, shortF_set HS.out _ _ hk9.1 hk9.2, by rw [List.length_set]; exact s2⟩, grOwn G3 HO3.out (Nat.le_refl _) g1, p1 + 1 + 1, by omega, rdOwn R3 HO3.out hlt (by omega) g1⟩
  · go_ret
    exact ⟨⟨_, L, rfl, by omega, HS.out, O3⟩, G3, p1 + 1 + 1, by omega, R3⟩
  · go_loopw [5] (fun v wr => ∃ M : List TF, M.length ≤ 61 ∧ Hid (shortF M) ∧ wr.ownsRow w.heap.size 51 2 v M.length (cellsF M) ∧ Rd wr rb (p1 + 1 + 1) a len cap zs ∧ w.grownBy wr (some rb) ∧ (∃ A c, v = .slice A M.length c)) (fun v _ => 61 - lenOfV v)
    case atStart => exact ⟨L, by omega, HS, O3, R3, G3, _, _, rfl⟩
    case round =>
      obtain ⟨M, hM, HM, O, R, G, A, c9, rfl⟩ := hrel
      have zz := G.size
      by_cases hl : M.length ≤ 60
      · go_wp2_with (at_builtin; refine wpList_append_own _ rfl _ _ 23 rfl w.heap.size 51 i0 (.agg #[.string ByteArray.empty, .string ByteArray.empty]) 2 32 Try.underlying23 hi hz0 hz1 hz2 rfl (by decide) _ _ _ rfl (O.alloc _) ⟨wr.heap.size, 0, none⟩ 1 1 [.string ⟨#[97]⟩, .string ⟨#[]⟩] rfl rfl (cells_new wr #[.string ⟨#[97]⟩, .string ⟨#[]⟩] 51) (by simp [Value.oneCell']) (by unfold maxLen; omega) (by omega) (by simp; omega) ?_; intro v6 w6 O6 g6 _; have G6 := grOwn (gtrans G (galloc wr (.cells #[.string ⟨#[97]⟩, .string ⟨#[]⟩] 51))) (O.alloc _) (Nat.le_refl _) g6; have R6 := rdOwn (R.alloc (by omega) _) (O.alloc _) hlt (by simp; omega) g6; obtain ⟨g9, cg9, rfl, _⟩ := formPos O6 (by omega))
        go_roundw
        case rel => exact ⟨M ++ [⟨⟨#[97]⟩, ⟨#[]⟩⟩], by simp; omega, (show shortF _ from shortF_snoc HM.out _ (by decide) (by decide)), by rw [cellsF_snoc, List.length_append]; exact O6, R6, G6, _, _, by rw [List.length_append]; rfl⟩
        case measure => simp [lenOfV]; omega
      · have hl0 : ¬ (M.length : Int) ≤ 60 := by omega
        go_wp2
        go_ret
        exact ⟨⟨_, M, rfl, hM, HM.out, O⟩, G, p1 + 1 + 1, by omega, R⟩
  · go_ret
    exact ⟨⟨_, L, rfl, by omega, HS.out, O2⟩, G2, p1 + 1, by omega, R2⟩

theorem short_snoc {M : List TE} (h : short M) (x : TE) (h1 : x.pa.size ≤ 64) (h2 : x.by_.size ≤ 64) : short (M ++ [x]) := fun y hy => by
  rcases List.mem_append.1 hy with hy | hy
  · exact h y hy
  · obtain rfl : y = x := by simpa using hy
    exact ⟨h1, h2⟩
theorem rowsApart {w : World} {b b' z z' n n' m' g : Nat} {e e' : TypeId} {v : Value} {c' : Nat} {xs xs' : List Value} (h : w.ownsRow b e z v n xs) (h' : w.ownsRow b' e' z' (.slice (some ⟨g, 0, none⟩) m' c') n' xs') (hne : e ≠ e') : v.ownBlock = none ∨ v.ownBlock ≠ some g := by
  rcases h.2 with ⟨rfl, _⟩ | ⟨g1, c1, cur1, rfl, _, h1, _⟩
  · exact .inl rfl
  · refine .inr fun e9 => ?_
    obtain rfl : g1 = g := by simpa [Value.ownBlock] using e9
    rcases h'.2 with ⟨h2, _⟩ | ⟨g2, c2, cur2, h2, _, h3, _⟩
    · cases h2
    · cases h2
      rw [h1] at h3
      cases h3
      exact hne rfl
theorem rowsApart2 {w : World} {b b' z z' n n' : Nat} {e e' : TypeId} {v v' : Value} {xs xs' : List Value} (h : w.ownsRow b e z v n xs) (h' : w.ownsRow b' e' z' v' n' xs') (hne : e ≠ e') : v.ownBlock = none ∨ v.ownBlock ≠ v'.ownBlock := by
  rcases h'.2 with ⟨rfl, h0, _⟩ | ⟨g, c, cur, rfl, _⟩
  · rcases hv : v.ownBlock with _ | k
    · exact .inl rfl
    · exact .inr (fun e9 => by cases e9)
  · exact rowsApart h h' hne
theorem nEq {w : World} {b n m z : Nat} {e : TypeId} {v : Value} {xs : List Value} (e9 : n = m) (h : w.ownsRow b e z v n xs) : w.ownsRow b e z v m xs := e9 ▸ h
theorem snocQF {w : World} {b g c : Nat} {ty : TypeId} {E : List TE} {x : TE} (h : w.ownsRow b ty 3 (.slice (some ⟨g, 0, none⟩) (E.length + 1) c) (E.length + 1) (cellsE E ++ [.string x.pa, .string x.by_, .bool x.gone])) : Hid (w.ownsRow b ty 3 (.slice (some ⟨g, 0, none⟩) (E.length + 1) c) (E.length + 1) (cellsE (E ++ [x]))) := by
  show World.ownsRow _ _ _ _ _ _ _
  rw [cellsE_snoc]; exact h
theorem grOwn2 {w w' : World} {base n z rb : Nat} {e : TypeId} {v : Value} {xs : List Value} {w0 : World} (G : w0.grownBy w (some rb)) (h : w.ownsRow base e z v n xs) (hb : w0.heap.size ≤ base) (hg : w.grownBy w' v.ownBlock) : w0.grownBy w' (some rb) := grOwn G h hb hg
theorem cellsE_first (E : List TE) (q : ByteArray) (h : 0 < E.length) (hs : short E) (hq : q.size ≤ 64) : ∃ F, (cellsE E).set 0 (.string q) = cellsE F ∧ F.length = E.length ∧ short F := by
  cases E with
  | nil => simp at h
  | cons x l =>
    refine ⟨⟨q, x.by_, x.gone⟩ :: l, by rw [cellsE_cons, cellsE_cons]; rfl, rfl, fun y hy => ?_⟩
    rcases List.mem_cons.1 hy with rfl | hy
    · exact ⟨hq, (hs x (List.mem_cons_self ..)).2⟩
    · exact hs y (List.mem_cons_of_mem _ hy)
end Go.Proofs.Ytbceegonaomblaa.W
