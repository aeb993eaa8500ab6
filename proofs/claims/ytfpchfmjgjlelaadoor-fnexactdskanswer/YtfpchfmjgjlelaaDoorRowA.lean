
/-
  An answer: what it is; the walks of the exact laws' own helpers 'sz', 'to', 'eq' and 'mark' on it; an argument that is one, laid open. No condition but those named.
-/
import Derived.Test.YtfpchfmjgjlelaaDoorRowS
import Derived.Test.YtfpchfmjgjlelaaDoorOpenF
import Derived.Test.YtfpchfmjgjlelaaDoorWalkSzF
import Derived.Test.YtfpchfmjgjlelaaDoorMathAt
namespace Go.Proofs.YtfpchfmjgjlelaaDoor.W
open Go.ChangeShapes Go.WideShapes Go.RowKit Go.Deep Go.Proofs.YtfpchfmjgjlelaaDoor.M

structure AN where
  code : Int
  files : List TF
  names : List (List UInt8)
  n : Int
/-- an answer's cells, its files and names at places -/
def AN.at_ (x : AN) (v u : Value) : Array Value := #[.int .i64 x.code, v, u, .int .i64 x.n]
/-- an answer lies in a block -/
def AtA (w : World) (b : Nat) (x : AN) (v u : Value) : Prop := ∀ i y, (x.at_ v u)[i]? = some y → w.cell? ⟨b, i, none⟩ = some y
theorem AtA.lt {w : World} {b : Nat} {x : AN} {v u : Value} (h : AtA w b x v u) : b < w.heap.size := World.block_lt_of_cell? _ _ (h 0 _ rfl)
theorem AtA.below {w w' : World} {b B : Nat} {x : AN} {v u : Value} (h : AtA w b x v u) (hb : Below B w w') (hB : b < B) : AtA w' b x v u := fun i y e => (hb.cell (p := ⟨b, _, none⟩) hB).trans (h i y e)
theorem AtA.up {w w' : World} {b : Nat} {x : AN} {v u : Value} (h : AtA w b x v u) (hb : Below w.heap.size w w') : AtA w' b x v u := h.below hb h.lt
theorem AtA.row {w w' : World} {b : Nat} {x : AN} {v u : Value} (h : AtA w b x v u) {r : Option Nat} (hg : w.grownBy w' r) (hr : ∀ k, r = some k → k ≠ b) : AtA w' b x v u := fun i y e => (World.cell?_of_block (a := ⟨b, i, none⟩) (hg.block b h.lt (fun e9 => hr b e9.symm rfl))).trans (h i y e)
theorem atA_new (w : World) (x : AN) (v u : Value) (t : TypeId) : AtA (w.alloc (.cells (x.at_ v u) t)) w.heap.size x v u := fun i y h => by simpa using h
theorem AtA.all {w : World} {b : Nat} {x : AN} {v u : Value} (h : AtA w b x v u) : w.cell? ⟨b, 0, none⟩ = some (.int .i64 x.code) ∧ w.cell? ⟨b, 1, none⟩ = some v ∧ w.cell? ⟨b, 2, none⟩ = some u ∧ w.cell? ⟨b, 3, none⟩ = some (.int .i64 x.n) := ⟨h 0 _ rfl, h 1 _ rfl, h 2 _ rfl, h 3 _ rfl⟩

/-- how much its texts need -/
def szA (x : AN) : Nat := (x.files.length + szF x.files) + (x.names.length + szT x.names)
/-- texts that a machine can hold -/
def fitA (x : AN) : Prop := x.files.length ≤ maxLen ∧ (∀ j (h : j < x.files.length), (x.files[j]).pa.size ≤ maxLen ∧ (x.files[j]).by_.size ≤ maxLen) ∧ x.names.length ≤ maxLen ∧ ∀ j (h : j < x.names.length), (x.names[j]).length ≤ maxLen
set_option maxHeartbeats 2000000 in
theorem szA_any (x : AN) (A B : Option Addr) (c d : Nat) (w : World) (hF : RdF w.heap.size w A x.files) (hN : RdS w.heap.size w B x.names) (hm : fitA x) :
    Calls Tryd.prog 4 #[.agg (x.at_ (.slice A x.files.length c) (.slice B x.names.length d)), .int .i64 1048576] w fun e w' => (∃ r : Int, e = .returned (.int .i64 r) ∧ (r < 0 ∨ (¬ r < 0 ∧ szA x ≤ 1048576))) ∧ Below w.heap.size w w' := by
  obtain ⟨m1, m2, m3, m4⟩ := hm
  obtain ⟨w0, hw0, D, B0, hs0⟩ : ∃ w0, w.alloc (.cells (x.at_ (.slice A x.files.length c) (.slice B x.names.length d)) 25) = w0 ∧ AtA w0 w.heap.size x (.slice A x.files.length c) (.slice B x.names.length d) ∧ Below w.heap.size w w0 ∧ w0.heap.size = w.heap.size + 1 := ⟨_, rfl, atA_new w x _ _ _, (Below.refl _ w).alloc (Nat.le_refl _) _, by simp⟩
  have F2 := (hF.below B0 (Nat.le_refl _)).mono (show w.heap.size ≤ w0.heap.size by omega)
  have N2 := (hN.below B0 (Nat.le_refl _)).mono (show w.heap.size ≤ w0.heap.size by omega)
  simp only [AN.at_] at hw0 ⊢
  go_enter Tryd.func4, Tryd.ntmps4
  obtain ⟨d0, d1, d2, d3⟩ := D.all
  unfold szA
  go_wp2_with (first
    | (go_at_call 13; refine (szFS_left A c x.files 1048576 _ (by omega) F2 m1 m2).mono ?_; rintro e w1 ⟨⟨r, rfl, hr | ⟨l, hr, hl⟩⟩, hb⟩; rotate_left; subst hr; replace D := D.up hb; replace B0 := B0.trans (hb.mono (by omega)); replace N2 := N2.up hb; clear hb F2 d0 d1 d2 d3; obtain ⟨d0, d1, d2, d3⟩ := D.all)
    | (go_at_call 14; refine (szSS_left B d x.names l _ (by omega) N2 m3 m4).mono ?_; rintro e w2 ⟨⟨r, rfl, hr | ⟨l2, hr, hl2⟩⟩, hb⟩; rotate_left; subst hr; replace B0 := B0.trans (hb.mono B0.size)))
  · go_ret
    exact ⟨⟨_, rfl, Or.inr ⟨by omega, by omega⟩⟩, B0⟩
  · go_ret
    exact ⟨⟨_, rfl, Or.inl (by decide)⟩, B0.trans (hb.mono B0.size)⟩
  · go_ret
    exact ⟨⟨_, rfl, Or.inl (by decide)⟩, B0.trans (hb.mono (by omega))⟩
theorem ownsUpA {w : World} {base base' n z : Nat} {e : TypeId} {v : Value} {xs : List Value} (h : w.ownsRow base e z v n xs) (hb : base' ≤ base) : w.ownsRow base' e z v n xs := by
  refine ⟨h.1, ?_⟩
  rcases h.2 with h1 | ⟨g, cap, cur, h1, h2, h3⟩
  · exact .inl h1
  · exact .inr ⟨g, cap, cur, h1, by omega, h3⟩
set_option maxRecDepth 100000 in
set_option maxHeartbeats 8000000 in
theorem toA_any (x : AN) (A B : Option Addr) (c d : Nat) (w : World) (hF : RdF w.heap.size w A x.files) (hN : RdS w.heap.size w B x.names) (hn : x.files.length ≤ 1048576) (hm : x.names.length ≤ 1048576) :
    Calls Tryd.prog 6 #[.agg (x.at_ (.slice A x.files.length c) (.slice B x.names.length d))] w fun e w' => (∃ v u, e = .returned (.agg (x.at_ v u)) ∧ w'.ownsRow w.heap.size 41 2 v x.files.length (cellsF x.files) ∧ w'.ownsRow w.heap.size 9 1 u x.names.length (strs x.names)) ∧ Below w.heap.size w w' := by
  simp only [AN.at_]
  go_enter Tryd.func6, Tryd.ntmps6
  go_wp2_with (first
    | (go_at_call 18; go_loud (have B0 := (((Below.refl w.heap.size w).alloc (Nat.le_refl _) (.cells #[.int .i64 x.code, .slice A x.files.length c, .slice B x.names.length d, .int .i64 x.n] 25)).alloc (by simp) (.cells #[.int .i64 0, .slice none 0 0, .slice none 0 0, .int .i64 0] 30)).alloc (by first | (simp; done) | (simp; omega) | omega) (.cells #[.int .i64 x.code, .slice none 0 0, .slice none 0 0, .int .i64 0] 30); refine (toFS_any A c x.files _ ((hF.below B0 (Nat.le_refl _)).mono B0.size) hn).mono ?_; rintro e w1 ⟨⟨v, rfl, ow⟩, hb⟩; obtain ⟨A1, c1, rfl, rd1⟩ := rdF_of_own ow; clear rd1; have B1 := B0.trans (hb.mono B0.size); have z1 := hb.size; simp at z1; have H0 := (((atC_new w #[.int .i64 x.code, .slice A x.files.length c, .slice B x.names.length d, .int .i64 x.n] 25).alloc (by simp) (.cells #[.int .i64 0, .slice none 0 0, .slice none 0 0, .int .i64 0] 30)).alloc (by first | (simp; done) | (simp; omega) | omega) (.cells #[.int .i64 x.code, .slice none 0 0, .slice none 0 0, .int .i64 0] 30)).up hb (by first | (simp; done) | (simp; omega) | omega); have H1 := ((atC_new _ #[.int .i64 0, .slice none 0 0, .slice none 0 0, .int .i64 0] 30).alloc (by simp) (.cells #[.int .i64 x.code, .slice none 0 0, .slice none 0 0, .int .i64 0] 30)).up hb (by first | (simp; done) | (simp; omega) | omega); have H2 := (atC_new _ #[.int .i64 x.code, .slice none 0 0, .slice none 0 0, .int .i64 0] 30).up hb (by simp); simp only [World.size_alloc] at H1 H2; have a2 := H0.1 2 _ rfl; have a3 := H0.1 3 _ rfl; have r0 := H1.1 0 _ rfl; have r1 := H1.1 1 _ rfl; have r2 := H1.1 2 _ rfl; have r3 := H1.1 3 _ rfl; have o0 := H2.1 0 _ rfl; have o1 := H2.1 1 _ rfl; have o2 := H2.1 2 _ rfl; have o3 := H2.1 3 _ rfl; have s0 := H1.2 0; have s1 := H1.2 1; have s2 := H1.2 2; have s3 := H1.2 3; have p1 := H2.2 1; have p2 := H2.2 2; have p3 := H2.2 3; clear hb B0))
    | (go_at_call 19; go_loud (have BX := B1.setCell (p := ⟨w.heap.size + 1 + 1, 1, none⟩) (show w.heap.size ≤ w.heap.size + 1 + 1 by omega) (.slice A1 x.files.length c1); refine (toSS_any B d x.names _ ((hN.below BX (Nat.le_refl _)).mono BX.size) hm).mono ?_; rintro e w2 ⟨⟨u, rfl, ou⟩, hb2⟩; obtain ⟨A2, c2, rfl, rd2⟩ := rdS_of_own ou; clear rd2 a2 a3 r0 r1 r2 r3 o0 o1 o2 o3 s0 s1 s2 s3 p1 p2 p3; replace ow := ownsUnder (ownsRow_setCell_below ow (a := ⟨w.heap.size + 1 + 1, 1, none⟩) (by simp) (.slice A1 x.files.length c1)) hb2 (Nat.le_refl _); replace B1 := BX.trans (hb2.mono BX.size); replace H0 := (H0.set (b' := w.heap.size + 1 + 1) (i := 1) (u := .slice A1 x.files.length c1) (by omega)).up hb2 (by first | (simp; done) | (simp; omega) | omega); replace H1 := (H1.set (b' := w.heap.size + 1 + 1) (i := 1) (u := .slice A1 x.files.length c1) (by omega)).up hb2 (by first | (simp; done) | (simp; omega) | omega); replace H2 := (H2.own 1 (.slice A1 x.files.length c1)).up hb2 (by first | (simp; done) | (simp; omega) | omega); have a3 := H0.1 3 _ rfl; have r0 := H1.1 0 _ rfl; have r1 := H1.1 1 _ rfl; have r2 := H1.1 2 _ rfl; have r3 := H1.1 3 _ rfl; have o0 := H2.1 0 _ rfl; have o1 := H2.1 1 _ rfl; have o2 := H2.1 2 _ rfl; have o3 := H2.1 3 _ rfl; have s0 := H1.2 0; have s1 := H1.2 1; have s2 := H1.2 2; have s3 := H1.2 3; have p2 := H2.2 2; have p3 := H2.2 3; have zb := BX.size; clear hb2 BX)))
  simp only [World.size_alloc] at ow
  refine bodyPost_ret (v := .agg (x.at_ (.slice A1 x.files.length c1) (.slice A2 x.names.length c2))) (by simp [AN.at_, results, Tryd.results6, go_sem, r0, r1, r2, r3]) rfl ?_
  refine ⟨⟨.slice A1 x.files.length c1, .slice A2 x.names.length c2, rfl, ?_, ?_⟩, ?_⟩
  · refine ownsUpA (base := w.heap.size + 1 + 1 + 1) ?_ (by omega)
    repeat (refine ownsRow_setCell_below ?_ (by first | (simp; done) | (simp; omega)) _)
    exact ow
  · refine ownsUpA ?_ zb
    repeat (refine ownsRow_setCell_below ?_ (by first | (simp; done) | (simp; omega)) _)
    exact ou
  · repeat (refine Below.setCell ?_ (by first | (simp; done) | (simp; omega) | omega) _)
    exact B1
set_option maxRecDepth 100000 in
set_option maxHeartbeats 4000000 in
theorem eqA_same {b1 b2 b3 b4 : Nat} (x : AN) (v u v' u' : Value) (w : World) (o1 : w.ownsRow b1 41 2 v x.files.length (cellsF x.files)) (o2 : w.ownsRow b2 9 1 u x.names.length (strs x.names)) (o3 : w.ownsRow b3 41 2 v' x.files.length (cellsF x.files)) (o4 : w.ownsRow b4 9 1 u' x.names.length (strs x.names)) (hn : x.files.length ≤ 1048576) (hm : x.names.length ≤ 1048576) :
    Calls Tryd.prog 9 #[.agg (x.at_ v u), .agg (x.at_ v' u')] w fun e w' => e = .returned (.bool true) ∧ Below w.heap.size w w' := by
  obtain ⟨A, c, rfl, f1⟩ := rdF_of_own o1
  obtain ⟨A', c', rfl, f2⟩ := rdF_of_own o3
  obtain ⟨w0, hw0, D, B0, hs0⟩ : ∃ w0, w.alloc (.cells (x.at_ (.slice A x.files.length c) u) 30) = w0 ∧ AtA w0 w.heap.size x (.slice A x.files.length c) u ∧ Below w.heap.size w w0 ∧ w0.heap.size = w.heap.size + 1 := ⟨_, rfl, atA_new w x _ _ _, (Below.refl _ w).alloc (Nat.le_refl _) _, by simp⟩
  obtain ⟨w1, hw1, D1, B1, hs1⟩ : ∃ w1, w0.alloc (.cells (x.at_ (.slice A' x.files.length c') u') 30) = w1 ∧ AtA w1 w0.heap.size x (.slice A' x.files.length c') u' ∧ Below w0.heap.size w0 w1 ∧ w1.heap.size = w.heap.size + 1 + 1 := ⟨_, rfl, atA_new w0 x _ _ _, (Below.refl _ w0).alloc (Nat.le_refl _) _, by simp [hs0]⟩
  replace D := D.up B1
  rw [hs0] at D1
  have BB := B0.trans (B1.mono B0.size)
  have r1 := (f1.below BB (Nat.le_refl _)).mono BB.size
  have r2 := (f2.below BB (Nat.le_refl _)).mono BB.size
  have q1 := ownsUnder o2 BB (Nat.le_refl _)
  have q2 := ownsUnder o4 BB (Nat.le_refl _)
  clear B0 B1 o1 o2 o3 o4 f1 f2
  simp only [AN.at_] at hw0 hw1 ⊢
  go_enter Tryd.func9, Tryd.ntmps9
  obtain ⟨d0, d1, d2, d3⟩ := D.all
  obtain ⟨e0, e1, e2, e3⟩ := D1.all
  go_wp2_with (first
    | (go_at_call 23; refine (eqFS_same A A' c c' x.files _ (by first | exact r1 | exact (r1.up (Below.refl _ _).drew)) (by first | exact r2 | exact (r2.up (Below.refl _ _).drew)) (by unfold maxLen; omega)).mono ?_; rintro e w2 ⟨rfl, hb⟩; replace q1 := ownsUnder q1 hb (Nat.le_refl _); replace q2 := ownsUnder q2 hb (Nat.le_refl _); replace D := D.up hb; replace D1 := D1.up hb; replace BB := BB.trans (hb.mono BB.size); clear hb d0 d1 d2 d3 e0 e1 e2 e3; obtain ⟨d0, d1, d2, d3⟩ := D.all; obtain ⟨e0, e1, e2, e3⟩ := D1.all)
    | (go_at_call 8; refine (eqS_any _ _ u u' x.names _ q1 q2 (by omega)).mono ?_; rintro e w3 ⟨rfl, hb⟩; replace D := D.up hb; replace D1 := D1.up hb; replace BB := BB.trans (hb.mono BB.size); clear hb q1 q2 d0 d1 d2 d3 e0 e1 e2 e3; obtain ⟨d0, d1, d2, d3⟩ := D.all; obtain ⟨e0, e1, e2, e3⟩ := D1.all))
  go_ret
  exact ⟨rfl, BB⟩
end Go.Proofs.YtfpchfmjgjlelaaDoor.W
