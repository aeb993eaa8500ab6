/-
  impl.walkEntries: its region that draws its order, by what each operation leaves in its slot. (Written by genslotwe.py.) No condition.
  Files read from a pool by the program: 'walkEntries', 'sheet', to a depth. Texts of at most 1048576 bytes.
  The program's TreRead. Texts of at most 1048576 bytes.
-/
import Derived.Test.YthfffpdkmoclbaaGreatDoorMg47
import Derived.Test.YthfffpdkmoclbaaGreatDoorMg21
import Derived.Test.YthfffpdkmoclbaaGreatDoorMg22
import Derived.Test.YthfffpdkmoclbaaGreatDoorMg40
import Derived.Test.YthfffpdkmoclbaaGreatDoorMg06
import Derived.Test.YthfffpdkmoclbaaGreatDoorMg28
import Derived.Test.YthfffpdkmoclbaaGreatDoorMg46
import Derived.Test.YthfffpdkmoclbaaGreatDoorMg37
namespace Go.Proofs.YthfffpdkmoclbaaGreatDoor.W
open Go.RowKit Go.Proofs.YthfffpdkmoclbaaGreatDoor.M

/-- the first region that draws its order, in loops too -/
def firstDrawnL : Code → Option (Array Oper)
  | .region _ ops true => some ops
  | .seq a b => (firstDrawnL a).orElse fun _ => firstDrawnL b
  | .cond _ a b => (firstDrawnL a).orElse fun _ => firstDrawnL b
  | .block _ a => firstDrawnL a
  | .loop a => firstDrawnL a
  | _ => none
/-- what each operation leaves -/
def TWE (rb g k : Nat) (p nm q : ByteArray) (id : Int) : Nat → Value → World → Prop
  | 0 => fun v _ => v = .func (.func k) #[.pointer (some ⟨rb, 0, none⟩)] #[]
  | 1 => fun v _ => v = .string p
  | 2 => fun v _ => v = .pointer (some ⟨g, 0, none⟩)
  | 3 => fun v _ => v = .string nm
  | 4 => fun v _ => v = .string q
  | 5 => fun v _ => v = .pointer (some ⟨g, 2, none⟩)
  | 6 => fun v _ => v = .int .i64 id
  | _ => fun _ _ => True
def slotWE : Nat → Nat
  | 0 => 22
  | 1 => 23
  | 2 => 24
  | 3 => 25
  | 4 => 26
  | 5 => 27
  | 6 => 28
  | _ => 999
theorem keepWE (rb g k : Nat) (p nm q : ByteArray) (id : Int) (i : Nat) (v : Value) (w w' : World) (hi : i < 7) (h : TWE rb g k p nm q id i v w) : TWE rb g k p nm q id i v w' := by
  match i, hi with
  | 0, _ => exact h
  | 1, _ => exact h
  | 2, _ => exact h
  | 3, _ => exact h
  | 4, _ => exact h
  | 5, _ => exact h
  | 6, _ => exact h
  | n + 7, hk => exact absurd hk (by omega)
set_option maxRecDepth 100000 in
set_option maxHeartbeats 4000000 in
theorem frontWE {rid : Nat} {ops : Array Oper} (hops : Tryz.f131.body.bind firstDrawnL = some ops) {Q : Exit → Act → World → Prop} {w : World} {rb g k : Nat} {p nm q : ByteArray} {id : Int} {a1 a2 a3 a4 a5 a6 a7 a8 a9 a12 a13 a14 a15 a16 a17 a18 a19 a20 a21 a22 a23 a24 a25 a26 a27 a28 a29 a30 a31 : Value} (Post : Bool → World → Prop) (hk : ∀ (args : Array Value) (w : World), Sem.run Tryz.prog (callFunc k args) w = .ok (.enter k args) w)
    (hg : g < w.heap.size) (c0 : w.cell? ⟨g, 0, none⟩ = some (.string nm)) (c2 : w.cell? ⟨g, 2, none⟩ = some (.int .i64 id))
    (hJ : ∀ w1 : World, Calls Tryz.prog 152 #[.string p, .string nm] w1 fun e w' => e = .returned (.string q) ∧ Below w1.heap.size w1 w')
    (hC : ∀ w2 : World, Below w.heap.size w w2 → Calls Tryz.prog k #[.pointer (some ⟨rb, 0, none⟩), .string q, .int .i64 id] w2 fun e w' => ∃ r, e = .returned (.bool r) ∧ Post r w')
    (hend : ∀ (y : Nat → Value) (r : Bool) (w3 : World), Post r w3 → Q .normal ⟨#[.string p, a1, a2, a3, a4, a5, a6, a7, a8, a9, .pointer (some ⟨g, 0, none⟩), .func (.func k) #[.pointer (some ⟨rb, 0, none⟩)] #[], a12, a13, a14, a15, a16, a17, a18, a19, a20, a21, y 22, y 23, y 24, y 25, y 26, y 27, y 28, .bool r, .bool (!r), a31], []⟩ w3) : (Code.region rid ops true).wp Tryz.prog Q ⟨#[.string p, a1, a2, a3, a4, a5, a6, a7, a8, a9, .pointer (some ⟨g, 0, none⟩), .func (.func k) #[.pointer (some ⟨rb, 0, none⟩)] #[], a12, a13, a14, a15, a16, a17, a18, a19, a20, a21, a22, a23, a24, a25, a26, a27, a28, a29, a30, a31], []⟩ w := by
  simp only [Tryz.f131, Option.bind, firstDrawnL, Option.orElse] at hops
  obtain rfl := Option.some.inj hops
  clear hops
  refine region_tail2 7 32 slotWE [0, 1, 2, 3, 4, 5, 6, 7, 8, 9, 10, 11, 12, 13, 14, 15, 16, 17, 18, 19, 20, 21, 31] (TWE rb g k p nm q id) rfl (by kernel_rfl) ?_ rfl rfl (fun i v w1 w2 hi h hg => keepWE rb g k p nm q id i v w1 w2 hi h) ?_ ?_ ?_ ?_ ?_ ?_
  · clear hend
    intro i o ho e he hb
    match i with
    | 0 => obtain rfl := Option.some.inj ho; revert hb; revert e; decide
    | 1 => obtain rfl := Option.some.inj ho; revert hb; revert e; decide
    | 2 => obtain rfl := Option.some.inj ho; revert hb; revert e; decide
    | 3 => obtain rfl := Option.some.inj ho; revert hb; revert e; decide
    | 4 => obtain rfl := Option.some.inj ho; revert hb; revert e; decide
    | 5 => obtain rfl := Option.some.inj ho; revert hb; revert e; decide
    | 6 => obtain rfl := Option.some.inj ho; revert hb; revert e; decide
    | 7 => obtain rfl := Option.some.inj ho; revert hb; revert e; decide
    | 8 => obtain rfl := Option.some.inj ho; revert hb; revert e; decide
    | i + 9 => cases ho
  · show ∀ i, i < 7 → ∀ j, j < 7 → slotWE i = slotWE j → i = j
    decide
  · show ∀ i, i < 7 → slotWE i < 32 ∧ ∀ s ∈ [0, 1, 2, 3, 4, 5, 6, 7, 8, 9, 10, 11, 12, 13, 14, 15, 16, 17, 18, 19, 20, 21, 31], slotWE i ≠ s
    decide
  · clear hend
    intro S hS hl
    have s0 := hl _ rfl { on := 0, ground := .data } (by simp) rfl
    have s4 := hl _ rfl { on := 4, ground := .data } (by simp) rfl
    have s6 := hl _ rfl { on := 6, ground := .data } (by simp) rfl
    have s1 := hS 4 _ rfl s4 { on := 1, ground := .data } (by simp) rfl
    have s3 := hS 4 _ rfl s4 { on := 3, ground := .data } (by simp) rfl
    have s2 := hS 3 _ rfl s3 { on := 2, ground := .data } (by simp) rfl
    have s5 := hS 6 _ rfl s6 { on := 5, ground := .data } (by simp) rfl
    intro i hi
    match i, hi with
    | 0, _ => exact s0
    | 1, _ => exact s1
    | 2, _ => exact s2
    | 3, _ => exact s3
    | 4, _ => exact s4
    | 5, _ => exact s5
    | 6, _ => exact s6
    | i + 7, h => exact absurd h (by omega)
  · clear hend
    intro ol hol
    obtain rfl := Option.some.inj hol
    exact ⟨{ on := 7, ground := .data }, by simp, rfl, rfl⟩
  · clear hend
    intro i o ho hi a1 w1 hF hA hB1
    have f0 := hF 0 (by simp)
    have f10 := hF 10 (by simp)
    have f11 := hF 11 (by simp)
    simp only [List.getElem?_toArray, List.getElem?_cons_succ, List.getElem?_cons_zero, Option.getD_some] at f0 f10 f11
    have d0 := (hB1.cell (p := ⟨g, 0, none⟩) hg).trans c0
    have d2 := (hB1.cell (p := ⟨g, 2, none⟩) hg).trans c2
    clear hF hC
    match i with
    | 0 =>
      obtain rfl := Option.some.inj ho
      refine wpOp_do rfl rfl ?_
      clear hA ho
      unfold Oper.wp
      simp [go_sem, f11]
      exact ⟨_, rfl, rfl, Below.refl _ _⟩
    | 1 =>
      obtain rfl := Option.some.inj ho
      refine wpOp_do rfl rfl ?_
      clear hA ho
      unfold Oper.wp
      simp [go_sem, f0]
      exact ⟨_, rfl, rfl, Below.refl _ _⟩
    | 2 =>
      obtain rfl := Option.some.inj ho
      refine wpOp_do rfl rfl ?_
      clear hA ho
      unfold Oper.wp
      simp [go_sem, f10]
      exact ⟨_, rfl, rfl, Below.refl _ _⟩
    | 3 =>
      obtain rfl := Option.some.inj ho
      refine wpOp_do rfl rfl ?_
      have p2 := hA { on := 2, ground := .data } (by simp) rfl; simp only [TWE, slotWE] at p2
      clear hA ho
      unfold Oper.wp
      simp [go_sem, p2, d0]
      exact ⟨_, rfl, rfl, Below.refl _ _⟩
    | 4 =>
      obtain rfl := Option.some.inj ho
      refine wpOp_do rfl rfl ?_
      have p1 := hA { on := 1, ground := .data } (by simp) rfl; simp only [TWE, slotWE] at p1
      have p3 := hA { on := 3, ground := .data } (by simp) rfl; simp only [TWE, slotWE] at p3
      clear hA ho
      unfold Oper.wp
      simp [go_sem, p1, p3]
      refine (hJ w1).mono ?_
      rintro e w2 ⟨rfl, hb⟩
      exact ⟨_, rfl, rfl, hb⟩
    | 5 =>
      obtain rfl := Option.some.inj ho
      refine wpOp_do rfl rfl ?_
      clear hA ho
      unfold Oper.wp
      simp [go_sem, f10]
      exact ⟨_, rfl, rfl, Below.refl _ _⟩
    | 6 =>
      obtain rfl := Option.some.inj ho
      refine wpOp_do rfl rfl ?_
      have p5 := hA { on := 5, ground := .data } (by simp) rfl; simp only [TWE, slotWE] at p5
      clear hA ho
      unfold Oper.wp
      simp [go_sem, p5, d2]
      exact ⟨_, rfl, rfl, Below.refl _ _⟩
    | i + 7 => exact absurd hi (by omega)
  · intro y w2 hB2 hall hF
    have p0 := hall 0 (by omega)
    have p4 := hall 4 (by omega)
    have p6 := hall 6 (by omega)
    simp only [TWE, slotWE] at p0 p4 p6
    clear hall
    have F0 : y 0 = _ := hF 0 (by simp)
    have F1 : y 1 = _ := hF 1 (by simp)
    have F2 : y 2 = _ := hF 2 (by simp)
    have F3 : y 3 = _ := hF 3 (by simp)
    have F4 : y 4 = _ := hF 4 (by simp)
    have F5 : y 5 = _ := hF 5 (by simp)
    have F6 : y 6 = _ := hF 6 (by simp)
    have F7 : y 7 = _ := hF 7 (by simp)
    have F8 : y 8 = _ := hF 8 (by simp)
    have F9 : y 9 = _ := hF 9 (by simp)
    have F10 : y 10 = _ := hF 10 (by simp)
    have F11 : y 11 = _ := hF 11 (by simp)
    have F12 : y 12 = _ := hF 12 (by simp)
    have F13 : y 13 = _ := hF 13 (by simp)
    have F14 : y 14 = _ := hF 14 (by simp)
    have F15 : y 15 = _ := hF 15 (by simp)
    have F16 : y 16 = _ := hF 16 (by simp)
    have F17 : y 17 = _ := hF 17 (by simp)
    have F18 : y 18 = _ := hF 18 (by simp)
    have F19 : y 19 = _ := hF 19 (by simp)
    have F20 : y 20 = _ := hF 20 (by simp)
    have F21 : y 21 = _ := hF 21 (by simp)
    have F31 : y 31 = _ := hF 31 (by simp)
    simp only [List.getElem?_toArray, List.getElem?_cons_succ, List.getElem?_cons_zero, Option.getD_some] at F0 F1 F2 F3 F4 F5 F6 F7 F8 F9 F10 F11 F12 F13 F14 F15 F16 F17 F18 F19 F20 F21 F31
    clear hF
    show wpOp _ _ _ _ _ ⟨#[y 0, y 1, y 2, y 3, y 4, y 5, y 6, y 7, y 8, y 9, y 10, y 11, y 12, y 13, y 14, y 15, y 16, y 17, y 18, y 19, y 20, y 21, y 22, y 23, y 24, y 25, y 26, y 27, y 28, y 29, y 30, y 31], []⟩ w2
    rw [F0, F1, F2, F3, F4, F5, F6, F7, F8, F9, F10, F11, F12, F13, F14, F15, F16, F17, F18, F19, F20, F21, F31]
    refine wpOp_do rfl rfl ?_
    unfold Oper.wp
    simp [go_sem, p0, p4, p6, hk]
    refine (hC w2 hB2).mono ?_
    rintro e w3 ⟨r, rfl, hP⟩
    refine wpOp_do rfl rfl ?_
    unfold Oper.wp
    simp [go_sem]
    have := hend y r w3 hP
    rw [p0, p4, p6] at this
    exact this
end Go.Proofs.YthfffpdkmoclbaaGreatDoor.W
namespace Go.Proofs.YthfffpdkmoclbaaGreatDoor.W
open Go.RowKit Go.Proofs.YthfffpdkmoclbaaGreatDoor.M Go.MapKept Go.ChangeMaps
set_option linter.unusedVariables false

/-- where reading stands -/
structure Rst (b nn : Nat) (D : DataW Unit) (rb : Nat) (w : World) (v : Value) (B : List TF) : Prop where
  hg : TypeCell w
  gv : 0 < rb
  rd : Rdg w rb b v B
  mp : w.ownsMap Tryz.prog 3 itemElem b nn D
  ne : b ≠ rb
  le : B.length ≤ 60
theorem Rst.fr {b nn rb : Nat} {D : DataW Unit} {w w' : World} {v v' : Value} {B B' : List TF} (h : Rst b nn D rb w v B) (f : Fr w w' rb v v') (hl : Rdg w' rb b v' B') (hB : B'.length ≤ 60) : Rst b nn D rb w' v' B' := by
  have h1 := h.gv
  have h2 := f.block 0 h.hg.lt (by omega) (fun e => by have := (own_typed h.rd.row e).1; omega)
  exact ⟨(World.cell?_of_block (a := ⟨0, 0, none⟩) h2).trans h.hg, h1, hl, map_frR h.mp h.ne h.rd f, h.ne, hB⟩
theorem Rst.below {b nn rb : Nat} {D : DataW Unit} {w w' : World} {v : Value} {B : List TF} (h : Rst b nn D rb w v B) (hb : Below w.heap.size w w') : Rst b nn D rb w' v B := h.fr (Fr.of hb) (h.rd.below hb) h.le
/-- what reading came to: all is read, or it cannot be, or it is too much -/
def Got (r : Bool) (B B' : List TF) (Q : List TF → Prop) : Prop := B'.length ≤ 60 ∧ (r = true → ∃ M, B' = B ++ M ∧ Q M) ∧ (r = false → ∀ M, Q M → 60 < B.length + M.length)
/-- 'sheet' reads to a depth -/
def SheetR (b nn : Nat) (D : DataW Unit) (F : Int → Option ByteArray) (d : Nat) : Prop :=
  ∀ (rb : Nat) (v : Value) (B : List TF) (p : ByteArray) (id : Int) (w : World), Rst b nn D rb w v B → inI id → pthB p.data.toList = true → (nms p.data.toList).length + d = 3 →
    Calls Tryz.prog 107 #[.pointer (some ⟨rb, 0, none⟩), .string p, .int .i64 id] w fun e w' => ∃ r v' B', e = .returned (.bool r) ∧ Fr w w' rb v v' ∧ Rdg w' rb b v' B' ∧ Got r B B' (fun M => rdT F d id p.data.toList = some M ∧ (p.data.toList ≠ [] → M ≠ []))

/-- a path of few names is short -/
theorem sum_short : ∀ X : List (List UInt8), X.all namB = true → (X.map fun x => x.length + 1).sum ≤ 4 * X.length := by
  intro X
  induction X with
  | nil => intro _; simp
  | cons x X ih =>
    intro h
    simp only [List.all_cons, Bool.and_eq_true] at h
    have h1 := h.1
    unfold namB at h1
    simp only [Bool.and_eq_true, decide_eq_true_eq] at h1
    have := ih h.2
    simp only [List.map_cons, List.sum_cons, List.length_cons]
    omega
theorem pth_short (l : List UInt8) (h : pthB l = true) : l.length ≤ 1000 := by
  by_cases e : l = []
  · subst e; simp
  · rw [pth_of l e] at h
    simp only [Bool.and_eq_true, decide_eq_true_eq] at h
    have h1 := len_of_spl l
    have h2 := sum_short _ h.1
    omega
theorem join_at (p nm : ByteArray) (hp : pthB p.data.toList = true) (hn : namB nm.data.toList = true) (h : (nms p.data.toList).length + 1 ≤ 3) : joinB p nm = ⟨(atP p.data.toList nm.data.toList).toArray⟩ ∧ pthB (atP p.data.toList nm.data.toList) = true ∧ (nms (atP p.data.toList nm.data.toList)).length = (nms p.data.toList).length + 1 := by
  obtain ⟨h1, h2⟩ := nam_one _ hn
  have hne : nm.data.toList ≠ [] := fun e => by rw [e] at hn; exact absurd hn (by decide)
  have hj : joinL p.data.toList nm.data.toList = atP p.data.toList nm.data.toList := by
    rw [join_is _ _ hp h1 (by rw [h2]; simpa using h)]
    unfold atP
    by_cases e : p.data.toList = []
    · rw [if_pos e, if_pos e]
    · rw [if_neg e, if_neg e, if_neg hne]
  obtain ⟨f1, f2⟩ := join_fit _ _ hp h1 (by rw [h2]; simpa using h)
  rw [hj] at f1 f2
  refine ⟨by unfold joinB; rw [hj], f1, ?_⟩
  rw [f2, h2]
  simp
/-- one entry more -/
theorem got_step {F : Int → Option ByteArray} {rd : Int → List UInt8 → Option (List TF)} {p : List UInt8} {E : List OE} {i : Nat} (hi : i < E.length) {M M' : List TF} (h : rdAll F rd p (E.take i) = some M) (h' : rdOne F rd p E[i] = some M') : rdAll F rd p (E.take (i + 1)) = some (M ++ M') := by
  rw [List.take_succ_eq_append_getElem hi, rdAll_app, h]
  simp only [rdAll, h']
  simp
/-- what is read in all begins with what is read so far, and then this entry's -/
theorem got_rest {F : Int → Option ByteArray} {rd : Int → List UInt8 → Option (List TF)} {p : List UInt8} {E : List OE} {i : Nat} (hi : i < E.length) {M N : List TF} (h : rdAll F rd p (E.take i) = some M) (hN : rdAll F rd p E = some N) : ∃ M' K, rdOne F rd p E[i] = some M' ∧ N = M ++ (M' ++ K) := by
  have e : E = E.take i ++ (E[i] :: E.drop (i + 1)) := by rw [List.getElem_cons_drop, List.take_append_drop]
  rw [e, rdAll_app, h] at hN
  simp only [rdAll] at hN
  cases ho : rdOne F rd p E[i] with
  | none => rw [ho] at hN; cases hN
  | some M' =>
    rw [ho] at hN
    simp only at hN
    cases hk : rdAll F rd p (E.drop (i + 1)) with
    | none => rw [hk] at hN; cases hN
    | some K =>
      rw [hk] at hN
      simp only [Option.some.injEq] at hN
      exact ⟨M', K, rfl, hN.symm⟩
theorem Got.iff {r : Bool} {B B' : List TF} {Q Q' : List TF → Prop} (h : Got r B B' Q) (k : ∀ M, Q M ↔ Q' M) : Got r B B' Q' := ⟨h.1, fun e => by
  obtain ⟨M, h1, h2⟩ := h.2.1 e
  exact ⟨M, h1, (k M).1 h2⟩, fun e M hM => h.2.2 e M ((k M).2 hM)⟩
theorem one_sheet {F : Int → Option ByteArray} {rd : Int → List UInt8 → Option (List TF)} {p : List UInt8} (nm : ByteArray) (id : Int) (M : List TF) : (rd id (atP p nm.data.toList) = some M ∧ M ≠ []) ↔ rdOne F rd p ⟨nm, true, id⟩ = some M := by
  unfold rdOne
  rw [if_pos rfl]
  show _ ↔ (match rd id (atP p nm.data.toList) with | some (x :: l) => some (x :: l) | _ => none) = some M
  cases rd id (atP p nm.data.toList) with
  | none => simp
  | some K =>
    cases K with
    | nil => simp
    | cons x l => simp; intro e; subst e; simp
theorem one_leaf {F : Int → Option ByteArray} {rd : Int → List UInt8 → Option (List TF)} {p : List UInt8} (nm : ByteArray) (id : Int) {r : Bool} {B B' : List TF} (hB : B'.length ≤ 60)
    (h : (r = true ∧ kd (txtF F id) = 1 ∧ B' = B ++ [⟨⟨(atP p nm.data.toList).toArray⟩, byB (txtF F id)⟩]) ∨ (r = false ∧ (kd (txtF F id) ≠ 1 ∨ 60 ≤ B.length) ∧ B' = B)) : Got r B B' (fun M => rdOne F rd p ⟨nm, false, id⟩ = some M) := by
  have e : rdOne F rd p ⟨nm, false, id⟩ = if kd (txtF F id) = 1 then some [⟨⟨(atP p nm.data.toList).toArray⟩, byB (txtF F id)⟩] else none := by
    unfold rdOne
    rw [if_neg (by simp)]
  rcases h with ⟨rfl, hk, rfl⟩ | ⟨rfl, hk, rfl⟩
  · exact ⟨hB, fun _ => ⟨_, rfl, by rw [e, if_pos hk]⟩, fun h => by cases h⟩
  · refine ⟨hB, (fun h => by cases h), fun _ M hM => ?_⟩
    rw [e] at hM
    rcases hk with hk | hk
    · rw [if_neg hk] at hM; cases hM
    · split at hM
      · obtain rfl := Option.some.inj hM
        simp; omega
      · cases hM
theorem nam_three (nm : ByteArray) (h : namB nm.data.toList = true) : nm.size ≤ 3 := by
  unfold namB at h
  simp only [Bool.and_eq_true, decide_eq_true_eq] at h
  have := h.2.1
  simpa using this
theorem cell_new2 (w : World) (a b : Value) (c : Value) : (w.alloc (.cells #[a, b, c] 90)).cell? ⟨w.heap.size, 0, none⟩ = some a := by
  simp [go_sem]
theorem cell_new2' (w : World) (a b : Value) (c : Value) : (w.alloc (.cells #[a, b, c] 90)).cell? ⟨w.heap.size, 2, none⟩ = some c := by
  simp [go_sem]
theorem pth_call_leaf (args : Array Value) (w : World) : Sem.run Tryz.prog (callFunc 132 args) w = .ok (.enter 132 args) w := by
  simp [go_sem]
theorem pth_call_sheet (args : Array Value) (w : World) : Sem.run Tryz.prog (callFunc 107 args) w = .ok (.enter 107 args) w := by
  simp [go_sem]
set_option maxHeartbeats 8000000 in
set_option maxRecDepth 100000 in
theorem walkE_any (b nn : Nat) (D : DataW Unit) (F : Int → Option ByteArray) (hM : mapP D F) (ht : ∀ n, (txtF F n).size ≤ 1048576) (d : Nat) (hs : SheetR b nn D F d) (rb g0 : Nat) (v : Value) (B : List TF) (p : ByteArray) (E : List OE) (u : Value) (w : World) (hR : Rst b nn D rb w v B) (hp : pthB p.data.toList = true) (hpd : (nms p.data.toList).length + (d + 1) = 3)
    (hE : ∀ e ∈ E, namB e.nm.data.toList = true ∧ inI e.id) (hEl : E.length ≤ 60) (hu : w.ownsRow g0 90 3 u E.length (cellsO E)) (hgb : rb < g0) :
    Calls Tryz.prog 131 #[.string p, u, .func (.func 132) #[.pointer (some ⟨rb, 0, none⟩)] #[], .func (.func 107) #[.pointer (some ⟨rb, 0, none⟩)] #[]] w fun e w' => ∃ r v' B', e = .returned (.bool r) ∧ Fr w w' rb v v' ∧ Rdg w' rb b v' B' ∧ Got r B B' (fun M => rdAll F (rdT F d) p.data.toList E = some M) := by
  obtain ⟨AE, cE, rfl, _⟩ := rdO_of_own hu
  have hps : p.size ≤ 1000 := pth_short _ hp
  have HS : Hid (SheetR b nn D F d) := hs
  have HT : Hid (∀ n, (txtF F n).size ≤ 1048576) := ht
  have HM : Hid (mapP D F) := hM
  have HE : Hid (∀ e ∈ E, namB e.nm.data.toList = true ∧ inI e.id) := hE
  have HR : Hid (Rst b nn D rb w v B) := hR
  have HP : Hid (pthB p.data.toList = true) := hp
  have HD : Hid ((nms p.data.toList).length + (d + 1) = 3) := hpd
  have HU : Hid (w.ownsRow g0 90 3 (.slice AE E.length cE) E.length (cellsO E)) := hu
  clear hs ht hM hE hR hp hpd hu
  go_enter Tryz.func131, Tryz.ntmps131
  go_wp2
  go_loopw [14] (fun iv wr => ∃ (i : Nat) (v' : Value) (M : List TF), i ≤ E.length ∧ iv = .int .i64 i ∧ Hid (rdAll F (rdT F d) p.data.toList (E.take i) = some M) ∧ Hid (Rst b nn D rb wr v' (B ++ M)) ∧ Hid (Fr w wr rb v v') ∧ Hid (wr.ownsRow g0 90 3 (.slice AE E.length cE) E.length (cellsO E))) (fun iv _ => E.length - (intOf iv).toNat)
  case atStart => exact ⟨0, v, [], Nat.zero_le _, rfl, (show rdAll _ _ _ (E.take 0) = _ from rfl), (show Rst b nn D rb w v (B ++ []) from by rw [List.append_nil]; exact HR.out), (show Fr w w rb v v from Fr.of (Below.refl _ _)), HU⟩
  case round =>
    obtain ⟨i, v', M, hi, rfl, HA, HRr, HF, HUr⟩ := hrel
    by_cases hlast : i = E.length
    · subst hlast
      go_wp2
      go_ret
      have h1 := HA.out
      rw [List.take_length] at h1
      exact ⟨true, v', _, rfl, HF.out, HRr.out.rd, HRr.out.le, fun _ => ⟨M, rfl, h1⟩, fun h => by cases h⟩
    have hil : i < E.length := by omega
    obtain ⟨A', c', e', hrd⟩ := rdO_of_own HUr.out
    cases e'
    obtain ⟨g, o, rfl, hgl, c1, c2, c3⟩ := hrd i hil
    clear hrd
    obtain ⟨⟨nm, sh, id⟩, hx⟩ : ∃ x, E[i] = x := ⟨_, rfl⟩
    rw [hx] at c1 c2 c3
    simp only at c1 c2 c3
    have HX : Hid (E[i] = ⟨nm, sh, id⟩) := hx
    clear hx hlast
    obtain ⟨hnm, hid⟩ := HE.out _ (List.getElem_mem hil)
    rw [HX.out] at hnm hid
    simp only at hnm hid
    have hns : nm.size ≤ 3 := nam_three nm hnm
    obtain ⟨ja, jp, jn⟩ := join_at p nm HP.out hnm (by have := HD.out; omega)
    obtain ⟨q, hq⟩ : ∃ q : ByteArray, ⟨(atP p.data.toList nm.data.toList).toArray⟩ = q := ⟨_, rfl⟩
    rw [hq] at ja
    have HJ : Hid (∀ w1 : World, Calls Tryz.prog 152 #[.string p, .string nm] w1 fun e w' => e = .returned (.string q) ∧ Below w1.heap.size w1 w') := (show ∀ w1 : World, _ from fun w1 => by
      have := join_impl p nm w1 (by omega) (by omega)
      rw [ja] at this
      exact this)
    have hqd : q.data.toList = atP p.data.toList nm.data.toList := by rw [← hq]
    have HQ : Hid (⟨(atP p.data.toList nm.data.toList).toArray⟩ = q) := hq
    have HQD : Hid (q.data.toList = atP p.data.toList nm.data.toList ∧ pthB q.data.toList = true ∧ (nms q.data.toList).length + d = 3 ∧ inI id ∧ q.data.toList ≠ []) := (show _ ∧ _ from ⟨hqd, by rw [hqd]; exact jp, by have := HD.out; rw [hqd, jn]; omega, hid, fun e => by rw [hqd] at e; rw [e] at jn; simp [nms] at jn⟩)
    clear ja jp jn hq hqd hnm hid
    have hpc := pth_call_leaf
    have hps2 := pth_call_sheet
    cases sh
    · have HB1 : Hid (Below wr.heap.size wr (wr.alloc (.cells #[.string nm, .bool false, .int .i64 id] 90))) := (Below.refl _ _).alloc (Nat.le_refl _) _
      have HR1 : Hid (Rst b nn D rb (wr.alloc (.cells #[.string nm, .bool false, .int .i64 id] 90)) v' (B ++ M)) := HRr.out.below HB1.out
      have HC : Hid (∀ w2 : World, Below (wr.alloc (.cells #[.string nm, .bool false, .int .i64 id] 90)).heap.size (wr.alloc (.cells #[.string nm, .bool false, .int .i64 id] 90)) w2 → Calls Tryz.prog 132 #[.pointer (some ⟨rb, 0, none⟩), .string q, .int .i64 id] w2 fun e w' => ∃ r, e = .returned (.bool r) ∧ ∃ v2 B2, Fr (wr.alloc (.cells #[.string nm, .bool false, .int .i64 id] 90)) w' rb v' v2 ∧ Rdg w' rb b v2 B2 ∧ Got r (B ++ M) B2 (fun N => rdOne F (rdT F d) p.data.toList ⟨nm, false, id⟩ = some N)) := (show ∀ w2 : World, _ → _ from fun w2 hb2 => by
        have R2 := HR1.out.below hb2
        refine (rleaf_any rb b nn D F v' (B ++ M) q id w2 R2.hg R2.rd R2.mp HM.out HQD.out.2.2.2.1 R2.le (HT.out id) R2.ne).mono ?_
        rintro e w' ⟨v2, f2, ⟨rfl, k1, k2, k3⟩ | ⟨rfl, k1, k3⟩⟩
        · refine ⟨true, rfl, v2, _, (Fr.of hb2).trans f2, k3, one_leaf nm id (by rw [List.length_append]; simp; simp at k2; omega) (.inl ⟨rfl, k1, by rw [← HQ.out]⟩)⟩
        · exact ⟨false, rfl, v2, _, (Fr.of hb2).trans f2, k3, one_leaf nm id R2.le (.inr ⟨rfl, k1, rfl⟩)⟩)
      go_wp2
      refine frontWE (Post := fun r w3 => ∃ v2 B2, Fr (wr.alloc (.cells #[.string nm, .bool false, .int .i64 id] 90)) w3 rb v' v2 ∧ Rdg w3 rb b v2 B2 ∧ Got r (B ++ M) B2 (fun N => rdOne F (rdT F d) p.data.toList ⟨nm, false, id⟩ = some N)) (hops := by kernel_rfl) hpc (by simp) (cell_new2 _ _ _ _) (cell_new2' _ _ _ _) HJ.out (fun w2 hb2 => HC.out w2 hb2) ?_
      intro y r w3 ⟨v2, B2, f2, l2, got⟩
      rename_i K hK
      refine hK _ _ ?_
      have f3 : Fr w w3 rb v v2 := (HF.out.trans (Fr.of HB1.out)).trans f2
      have hu3 : w3.ownsRow g0 90 3 (.slice (some ⟨g, o, none⟩) E.length cE) E.length (cellsO E) := own_frR (ownsUnder HUr.out HB1.out (Nat.le_refl _)) hgb (by decide) HR1.out.rd f2
      have HF3 : Hid (Fr w w3 rb v v2) := f3
      have HU3 : Hid (w3.ownsRow g0 90 3 (.slice (some ⟨g, o, none⟩) E.length cE) E.length (cellsO E)) := hu3
      have HR3 : Hid (Rst b nn D rb w3 v2 B2) := HR1.out.fr f2 l2 got.1
      have HG : Hid (Got r (B ++ M) B2 (fun N => rdOne F (rdT F d) p.data.toList ⟨nm, false, id⟩ = some N)) := got
      clear f3 f2 l2 hu3 got hK
      cases r
      · go_wp2
        go_ret
        refine ⟨false, v2, B2, rfl, HF3.out, HR3.out.rd, HR3.out.le, (fun h => by cases h), fun _ N hN => ?_⟩
        obtain ⟨M', K, h1, rfl⟩ := got_rest hil HA.out hN
        rw [HX.out] at h1
        have := HG.out.2.2 rfl M' h1
        simp only [List.length_append] at this ⊢
        omega
      · obtain ⟨M', rfl, h1⟩ := HG.out.2.1 rfl
        go_wp2
        have h2 := got_step hil HA.out (HX.out ▸ h1)
        refine ⟨⟨i + 1, v2, M ++ M', by omega, by go_num, h2, (show Rst _ _ _ _ _ _ _ from by rw [← List.append_assoc]; exact HR3.out), HF3, HU3⟩, by simp [intOf]; omega⟩
    · have HB1 : Hid (Below wr.heap.size wr (wr.alloc (.cells #[.string nm, .bool true, .int .i64 id] 90))) := (Below.refl _ _).alloc (Nat.le_refl _) _
      have HR1 : Hid (Rst b nn D rb (wr.alloc (.cells #[.string nm, .bool true, .int .i64 id] 90)) v' (B ++ M)) := HRr.out.below HB1.out
      have HC : Hid (∀ w2 : World, Below (wr.alloc (.cells #[.string nm, .bool true, .int .i64 id] 90)).heap.size (wr.alloc (.cells #[.string nm, .bool true, .int .i64 id] 90)) w2 → Calls Tryz.prog 107 #[.pointer (some ⟨rb, 0, none⟩), .string q, .int .i64 id] w2 fun e w' => ∃ r, e = .returned (.bool r) ∧ ∃ v2 B2, Fr (wr.alloc (.cells #[.string nm, .bool true, .int .i64 id] 90)) w' rb v' v2 ∧ Rdg w' rb b v2 B2 ∧ Got r (B ++ M) B2 (fun N => rdOne F (rdT F d) p.data.toList ⟨nm, true, id⟩ = some N)) := (show ∀ w2 : World, _ → _ from fun w2 hb2 => by
        have R2 := HR1.out.below hb2
        obtain ⟨q1, q2, q3, q4, q5⟩ := HQD.out
        refine (HS.out rb v' (B ++ M) q id w2 R2 q4 q2 q3).mono ?_
        rintro e w' ⟨r, v2, B2, rfl, f2, l2, got⟩
        refine ⟨r, rfl, v2, B2, (Fr.of hb2).trans f2, l2, got.iff fun N => ?_⟩
        rw [← one_sheet nm id N, q1]
        rw [q1] at q5
        exact ⟨fun h => ⟨h.1, h.2 q5⟩, fun h => ⟨h.1, fun _ => h.2⟩⟩)
      go_wp2
      refine frontWE (Post := fun r w3 => ∃ v2 B2, Fr (wr.alloc (.cells #[.string nm, .bool true, .int .i64 id] 90)) w3 rb v' v2 ∧ Rdg w3 rb b v2 B2 ∧ Got r (B ++ M) B2 (fun N => rdOne F (rdT F d) p.data.toList ⟨nm, true, id⟩ = some N)) (hops := by kernel_rfl) hps2 (by simp) (cell_new2 _ _ _ _) (cell_new2' _ _ _ _) HJ.out (fun w2 hb2 => HC.out w2 hb2) ?_
      intro y r w3 ⟨v2, B2, f2, l2, got⟩
      rename_i K hK
      refine hK _ _ ?_
      have f3 : Fr w w3 rb v v2 := (HF.out.trans (Fr.of HB1.out)).trans f2
      have hu3 : w3.ownsRow g0 90 3 (.slice (some ⟨g, o, none⟩) E.length cE) E.length (cellsO E) := own_frR (ownsUnder HUr.out HB1.out (Nat.le_refl _)) hgb (by decide) HR1.out.rd f2
      have HF3 : Hid (Fr w w3 rb v v2) := f3
      have HU3 : Hid (w3.ownsRow g0 90 3 (.slice (some ⟨g, o, none⟩) E.length cE) E.length (cellsO E)) := hu3
      have HR3 : Hid (Rst b nn D rb w3 v2 B2) := HR1.out.fr f2 l2 got.1
      have HG : Hid (Got r (B ++ M) B2 (fun N => rdOne F (rdT F d) p.data.toList ⟨nm, true, id⟩ = some N)) := got
      clear f3 f2 l2 hu3 got hK
      cases r
      · go_wp2
        go_ret
        refine ⟨false, v2, B2, rfl, HF3.out, HR3.out.rd, HR3.out.le, (fun h => by cases h), fun _ N hN => ?_⟩
        obtain ⟨M', K, h1, rfl⟩ := got_rest hil HA.out hN
        rw [HX.out] at h1
        have := HG.out.2.2 rfl M' h1
        simp only [List.length_append] at this ⊢
        omega
      · obtain ⟨M', rfl, h1⟩ := HG.out.2.1 rfl
        go_wp2
        have h2 := got_step hil HA.out (HX.out ▸ h1)
        refine ⟨⟨i + 1, v2, M ++ M', by omega, by go_num, h2, (show Rst _ _ _ _ _ _ _ from by rw [← List.append_assoc]; exact HR3.out), HF3, HU3⟩, by simp [intOf]; omega⟩
theorem own_len {w : World} {b n z : Nat} {e : TypeId} {v : Value} {xs : List Value} (h : w.ownsRow b e z v n xs) : ∃ A k, v = .slice A n k := by
  rcases h.2 with ⟨rfl, hn⟩ | ⟨g, cap, cur, rfl, _⟩
  · exact ⟨none, 0, by rw [hn]⟩
  · exact ⟨_, cap, rfl⟩
theorem rdOne_ne {F : Int → Option ByteArray} {rd : Int → List UInt8 → Option (List TF)} {p : List UInt8} {e : OE} {M : List TF} (h : rdOne F rd p e = some M) : M ≠ [] := by
  obtain ⟨nm, sh, id⟩ := e
  cases sh
  · unfold rdOne at h
    rw [if_neg (by simp)] at h
    split at h
    · obtain rfl := Option.some.inj h
      simp
    · cases h
  · exact ((one_sheet nm id M).2 h).2
theorem rdAll_ne {F : Int → Option ByteArray} {rd : Int → List UInt8 → Option (List TF)} {p : List UInt8} {E : List OE} {M : List TF} (h : rdAll F rd p E = some M) (hE : E ≠ []) : M ≠ [] := by
  cases E with
  | nil => exact absurd rfl hE
  | cons e l =>
    simp only [rdAll] at h
    cases h1 : rdOne F rd p e with
    | none => rw [h1] at h; cases h
    | some A =>
      rw [h1] at h
      simp only at h
      cases h2 : rdAll F rd p l with
      | none => rw [h2] at h; cases h
      | some K =>
        rw [h2] at h
        obtain rfl := Option.some.inj h
        have := rdOne_ne h1
        simp [this]
theorem ent_ok (t : ByteArray) : ∀ e ∈ enL t, namB e.nm.data.toList = true ∧ inI e.id := fun e he => by
  by_cases hk : kd t = 2
  · exact ⟨(enL_rise t hk).1 e he, kids_in t e.id (by unfold kidsN idsO; exact List.mem_map.2 ⟨e, he, rfl⟩)⟩
  · rw [enL_no t hk] at he; cases he
set_option maxHeartbeats 8000000 in
set_option maxRecDepth 100000 in
theorem rsheet_any (b nn : Nat) (D : DataW Unit) (F : Int → Option ByteArray) (hM : mapP D F) (ht : ∀ n, (txtF F n).size ≤ 1048576) (d : Nat) (hs : ∀ d', d = d' + 1 → SheetR b nn D F d') : SheetR b nn D F d := by
  intro rb v B p id w hR hid hp hpd
  have hmf : ∀ (fn : Fn) (first cap : Array Value) (w : World), (Instr.makeFunc fn first cap).run Tryz.prog w = .ok (.func fn first cap) w := fun _ _ _ _ => rfl
  have hps : p.size ≤ 1000 := pth_short _ hp
  have HM : Hid (mapP D F) := hM
  have HT : Hid (∀ n, (txtF F n).size ≤ 1048576) := ht
  have HS : Hid (∀ d', d = d' + 1 → SheetR b nn D F d') := hs
  have HR : Hid (Rst b nn D rb w v B) := hR
  have HP : Hid (pthB p.data.toList = true) := hp
  have c0 := hR.rd.c0
  obtain ⟨i9, hrun⟩ := look_item hR.mp hM hid
  have hfld := fieldP i9 (txtF F id)
  have htz := ht id
  have HE := ent_ok (txtF F id)
  have hel := enL_len (txtF F id)
  obtain ⟨t, hte⟩ : ∃ t, txtF F id = t := ⟨_, rfl⟩
  have HTE : Hid (txtF F id = t) := hte
  have HPA : Hid (partsL p.data.toList = nms p.data.toList) := (show _ = _ from by unfold partsL; rw [if_pos hp])
  rw [hte] at hrun hfld htz HE hel
  obtain ⟨E, hEe⟩ : ∃ E, enL t = E := ⟨_, rfl⟩
  have HEE : Hid (enL t = E) := hEe
  rw [hEe] at HE hel
  have HEn : Hid (∀ e ∈ E, namB e.nm.data.toList = true ∧ inI e.id) := HE
  clear hM ht hs hR hp hte hEe HE
  have hlt := HR.out.rd.lt
  by_cases hk : kd t = 2
  · have hkd : decide (kd t = 2) = true := by simpa using hk
    have HR1 : Hid (∀ d', d = d' + 1 → ∀ M, rdT F d id p.data.toList = some M ↔ rdAll F (rdT F d') p.data.toList E = some M) := (show ∀ d', _ → _ from fun d' e M => by
      subst e
      unfold rdT
      rw [HTE.out, if_pos hk, HEE.out])
    cases d with
    | zero =>
      have h3 : (nms p.data.toList).length = 3 := by omega
      go_enter Tryz.func107, Tryz.ntmps107
      go_wp2_with (first
        | (go_at_call 64; refine (enI_any t _ htz HR.out.hg).mono ?_; rw [hkd, HEE.out]; rintro e w1 ⟨⟨u, rfl, ou⟩, hb1⟩; obtain ⟨AE, cE, rfl, _⟩ := rdO_of_own ou)
        | (go_at_call 130; refine (parts_impl p _ (by omega)).mono ?_; rw [HPA.out, h3]; rintro e w2 ⟨u2, rfl, o2, hb2⟩; obtain ⟨A2, c2, rfl⟩ := own_len o2))
      go_ret
      exact ⟨false, v, B, rfl, Fr.of (hb1.trans (hb2.mono hb1.size)), HR.out.rd.below (hb1.trans (hb2.mono hb1.size)), HR.out.le, (fun h => by cases h), fun _ M hM => by cases hM.1⟩
    | succ d =>
      have hl3 : ((nms p.data.toList).length : Int) < 3 := by omega
      obtain ⟨np, hnp⟩ : ∃ np, (nms p.data.toList).length = np := ⟨_, rfl⟩
      have HNP : Hid ((nms p.data.toList).length = np) := hnp
      rw [hnp] at hl3
      have hl3' : ¬ (3 : Int) ≤ (np : Int) := by omega
      have hpd2 : np + (d + 1) = 3 := by omega
      have HC : Hid (∀ (A : Option Addr) (c g0 : Nat) (w2 : World), Below w.heap.size w w2 → rb < g0 → w2.ownsRow g0 90 3 (.slice A E.length c) E.length (cellsO E) → Calls Tryz.prog 131 #[.string p, .slice A E.length c, .func (.func 132) #[.pointer (some ⟨rb, 0, none⟩)] #[], .func (.func 107) #[.pointer (some ⟨rb, 0, none⟩)] #[]] w2 fun e w' => ∃ r v' B', e = .returned (.bool r) ∧ Fr w w' rb v v' ∧ Rdg w' rb b v' B' ∧ Got r B B' (fun M => rdT F (d + 1) id p.data.toList = some M)) := (show ∀ (A : Option Addr) (c g0 : Nat) (w2 : World), _ → _ → _ → _ from fun A c g0 w2 hb2 hg0 o2 => by
        refine (walkE_any b nn D F HM.out HT.out d (HS.out d rfl) rb g0 v B p E (.slice A E.length c) w2 (HR.out.below hb2) HP.out (by rw [HNP.out]; exact hpd2) HEn.out hel o2 hg0).mono ?_
        rintro e w' ⟨r, v', B', rfl, f, l, got⟩
        exact ⟨r, v', B', rfl, (Fr.of hb2).trans f, l, got.iff fun M => (HR1.out d rfl M).symm⟩)
      by_cases hpe : p.data.toList = []
      · have he := empty_t p hpe
        have HPE : Hid (p.data.toList = []) := hpe
        clear hpe
        go_enter Tryz.func107, Tryz.ntmps107
        go_wp2_with (first
          | (go_at_call 64; refine (enI_any t _ htz HR.out.hg).mono ?_; rw [hkd, HEE.out]; rintro e w1 ⟨⟨u, rfl, ou⟩, hb1⟩; obtain ⟨AE, cE, rfl, _⟩ := rdO_of_own ou)
          | (go_at_call 130; refine (parts_impl _ _ (by omega)).mono ?_; rw [HPA.out, HNP.out]; rintro e w2 ⟨u2, rfl, o2, hb2⟩; obtain ⟨A2, c2, rfl⟩ := own_len o2; have ou2 := ownsUnder ou hb2 (Nat.le_refl _); have hb3 := hb1.trans (hb2.mono hb1.size))
          | (go_at_call 131; refine (HC.out AE cE _ w2 hb3 hlt ou2).mono ?_; rintro e w4 ⟨r, v', B', rfl, f, l, got⟩))
        go_ret
        refine ⟨r, v', B', rfl, f, l, got.iff fun M => ?_⟩
        exact ⟨fun h => ⟨h, fun e => absurd HPE.out e⟩, fun h => h.1⟩
      · have he := nonempty_f p hpe
        have HPE : Hid (p.data.toList ≠ []) := hpe
        clear hpe
        cases E with
        | nil =>
          go_enter Tryz.func107, Tryz.ntmps107
          go_wp2_with (first
            | (go_at_call 64; refine (enI_any t _ htz HR.out.hg).mono ?_; rw [hkd, HEE.out]; rintro e w1 ⟨⟨u, rfl, ou⟩, hb1⟩; obtain ⟨AE, cE, rfl, _⟩ := rdO_of_own ou)
            | (go_at_call 130; refine (parts_impl _ _ (by omega)).mono ?_; rw [HPA.out, HNP.out]; rintro e w2 ⟨u2, rfl, o2, hb2⟩; obtain ⟨A2, c2, rfl⟩ := own_len o2; have hb3 := hb1.trans (hb2.mono hb1.size)))
          go_ret
          refine ⟨false, v, B, rfl, Fr.of hb3, HR.out.rd.below hb3, HR.out.le, (fun h => by cases h), fun _ M hM => ?_⟩
          have h1 := (HR1.out d rfl M).1 hM.1
          have h2 := hM.2 HPE.out
          simp only [rdAll, Option.some.injEq] at h1
          exact absurd h1.symm h2
        | cons x E =>
          have hE0 : ((List.length (x :: E) : Nat) : Int) ≠ 0 := by simp; omega
          go_enter Tryz.func107, Tryz.ntmps107
          go_wp2_with (first
            | (go_at_call 64; refine (enI_any t _ htz HR.out.hg).mono ?_; rw [hkd, HEE.out]; rintro e w1 ⟨⟨u, rfl, ou⟩, hb1⟩; obtain ⟨AE, cE, rfl, _⟩ := rdO_of_own ou)
            | (go_at_call 130; refine (parts_impl _ _ (by omega)).mono ?_; rw [HPA.out, HNP.out]; rintro e w2 ⟨u2, rfl, o2, hb2⟩; obtain ⟨A2, c2, rfl⟩ := own_len o2; have ou2 := ownsUnder ou hb2 (Nat.le_refl _); have hb3 := hb1.trans (hb2.mono hb1.size))
            | (go_at_call 131; refine (HC.out AE cE _ w2 hb3 hlt ou2).mono ?_; rintro e w4 ⟨r, v', B', rfl, f, l, got⟩))
          go_ret
          refine ⟨r, v', B', rfl, f, l, got.iff fun M => ?_⟩
          exact ⟨fun h => ⟨h, fun _ => rdAll_ne ((HR1.out d rfl M).1 h) (by simp)⟩, fun h => h.1⟩
  · have hkd : decide (kd t = 2) = false := by simpa using hk
    have hno : ∀ M, rdT F d id p.data.toList ≠ some M := fun M hM => by
      cases d with
      | zero => cases hM
      | succ d =>
        unfold rdT at hM
        rw [HTE.out, if_neg hk] at hM
        cases hM
    have HNO : Hid (∀ M, rdT F d id p.data.toList ≠ some M) := hno
    clear hno
    go_enter Tryz.func107, Tryz.ntmps107
    go_wp2_with (go_at_call 64; refine (enI_any t _ htz HR.out.hg).mono ?_; rw [hkd, HEE.out]; rintro e w1 ⟨⟨u, rfl, ou⟩, hb1⟩)
    go_ret
    exact ⟨false, v, B, rfl, Fr.of hb1, HR.out.rd.below hb1, HR.out.le, (fun h => by cases h), fun _ M hM => absurd hM.1 (HNO.out M)⟩
theorem rsheet_all (b nn : Nat) (D : DataW Unit) (F : Int → Option ByteArray) (hM : mapP D F) (ht : ∀ n, (txtF F n).size ≤ 1048576) : ∀ d, SheetR b nn D F d
  | 0 => rsheet_any b nn D F hM ht 0 (fun _ h => by cases h)
  | d + 1 => rsheet_any b nn D F hM ht (d + 1) (fun d' h => by cases h; exact rsheet_all b nn D F hM ht d)
end Go.Proofs.YthfffpdkmoclbaaGreatDoor.W
namespace Go.Proofs.YthfffpdkmoclbaaGreatDoor.W
open Go.RowKit Go.Proofs.YthfffpdkmoclbaaGreatDoor.M Go.MapKept Go.ChangeMaps
set_option linter.unusedVariables false

theorem byB_6 (t : ByteArray) : (byB t).size ≤ 6 := by
  unfold byB
  split
  · rename_i h
    unfold kd at h
    split at h
    · split at h
      · assumption
      · cases h
    · split at h
      · split at h <;> cases h
      · cases h
  · show 0 ≤ 6
    omega
def smallR (M : List TF) : Prop := ∀ x ∈ M, x.pa.size ≤ 1000 ∧ x.by_.size ≤ 6
theorem rdAll_small {F : Int → Option ByteArray} {rd : Int → List UInt8 → Option (List TF)} {p : List UInt8} (hp : pthB p = true) (hpn : (nms p).length + 1 ≤ 3)
    (hrd : ∀ id q N, pthB q = true → (nms q).length = (nms p).length + 1 → rd id q = some N → smallR N) : ∀ (E : List OE) (M : List TF), (∀ e ∈ E, namB e.nm.data.toList = true) → rdAll F rd p E = some M → smallR M := by
  intro E
  induction E with
  | nil =>
    intro M _ h
    simp only [rdAll, Option.some.injEq] at h
    subst h
    intro x hx; cases hx
  | cons e E ih =>
    intro M hn h
    simp only [rdAll] at h
    cases h1 : rdOne F rd p e with
    | none => rw [h1] at h; cases h
    | some A =>
      rw [h1] at h
      simp only at h
      cases h2 : rdAll F rd p E with
      | none => rw [h2] at h; cases h
      | some K =>
        rw [h2] at h
        obtain rfl := Option.some.inj h
        obtain ⟨j1, j2, j3⟩ := join_at ⟨p.toArray⟩ e.nm (by simpa using hp) (hn e (List.mem_cons_self ..)) (by simpa using hpn)
        simp only at j2 j3
        have hA : smallR A := by
          obtain ⟨nm, sh, id⟩ := e
          cases sh
          · unfold rdOne at h1
            rw [if_neg (by simp)] at h1
            split at h1
            · obtain rfl := Option.some.inj h1
              intro x hx
              obtain rfl := List.mem_singleton.1 hx
              refine ⟨?_, byB_6 _⟩
              show (ByteArray.mk (atP p nm.data.toList).toArray).size ≤ 1000
              rw [size_mk]
              exact pth_short _ j2
            · cases h1
          · exact hrd id _ A j2 j3 ((one_sheet nm id A).2 h1).1
        intro x hx
        rcases List.mem_append.1 hx with hx | hx
        · exact hA x hx
        · exact ih K (fun y hy => hn y (List.mem_cons_of_mem _ hy)) h2 x hx
theorem rdT_small (F : Int → Option ByteArray) : ∀ (d : Nat) (id : Int) (p : List UInt8) (M : List TF), pthB p = true → (nms p).length + d = 3 → rdT F d id p = some M → smallR M := by
  intro d
  induction d with
  | zero => intro id p M _ _ h; cases h
  | succ d ih =>
    intro id p M hp hd h
    unfold rdT at h
    split at h
    · rename_i hk
      exact rdAll_small hp (by omega) (fun id' q N hq hq2 hN => ih id' q N hq (by omega) hN) _ M (enL_rise _ hk).1 h
    · cases h
def ansT (F : Int → Option ByteArray) (id : Int) : Option (List TF) := match rdT F 3 id [] with
  | some M => if okT M = true then some M else none
  | none => none
theorem treR_ok (L : List PI) (id : Int) (h : okP L = true) : treR L id = ansT (findP L) id := by
  unfold treR ansT
  rw [if_pos h]
  cases rdT (findP L) 3 id [] <;> rfl
theorem treR_no (L : List PI) (id : Int) (h : okP L = false) : treR L id = none := by
  unfold treR
  rw [if_neg (by simp [h])]
/-- a tree, or nothing -/
def TreEnd (w w' : World) (o : Option (List TF)) (e : Ending) : Prop := (∃ v, e = .returned (.tuple #[v, .bool o.isSome]) ∧ w'.ownsRow w.heap.size 98 2 v (o.getD []).length (cellsF (o.getD []))) ∧ Below w.heap.size w w'
theorem ansT_yes {F : Int → Option ByteArray} {id : Int} {M : List TF} (h : rdT F 3 id [] = some M) (hk : okT M = true) : ansT F id = some M := by
  unfold ansT; rw [h]; simp [hk]
theorem ansT_no {F : Int → Option ByteArray} {id : Int} (h : ∀ M, rdT F 3 id [] = some M → okT M = false) : ansT F id = none := by
  unfold ansT
  cases hr : rdT F 3 id [] with
  | none => rfl
  | some M => simp [h M hr]
theorem okT_big (M : List TF) (h : 60 < M.length) : okT M = false := by
  unfold okT
  rw [decide_eq_false (by omega)]
  rfl
theorem got_case {r : Bool} {B : List TF} {v : Value} {b : Nat} {F : Int → Option ByteArray} {id : Int} {w : World} (h : Got r [] B (fun M => rdT F 3 id [] = some M)) (o : w.ownsRow b 98 2 v B.length (cellsF B)) : (r = false ∧ ∀ M, rdT F 3 id [] = some M → 60 < M.length) ∨ (r = true ∧ ∃ M A c, B = M ∧ v = .slice A M.length c ∧ RdF w.heap.size w A M ∧ rdT F 3 id [] = some M ∧ M.length ≤ 60) := by
  cases r
  · exact .inl ⟨rfl, fun M hM => by have := h.2.2 rfl M hM; simpa using this⟩
  · obtain ⟨M, rfl, hM⟩ := h.2.1 rfl
    obtain ⟨A, c, rfl, hrd⟩ := rdF_of_own o
    exact .inr ⟨rfl, _, A, c, rfl, rfl, hrd, hM, h.1⟩
set_option maxHeartbeats 8000000 in
set_option maxRecDepth 100000 in
theorem tree_any (b nn : Nat) (D : DataW Unit) (F : Int → Option ByteArray) (hM : mapP D F) (ht : ∀ n, (txtF F n).size ≤ 1048576) (id : Int) (w : World) (hg : TypeCell w) (hown : w.ownsMap Tryz.prog 3 itemElem b nn D) (hid : inI id) :
    Calls Tryz.prog 71 #[.map (some b), .int .i64 id] w fun e w' => TreEnd w w' (ansT F id) e := by
  have hbl := hown.lt
  have hgl := hg.lt
  have HC : Hid (Calls Tryz.prog 107 #[.pointer (some ⟨w.heap.size, 0, none⟩), .string ⟨#[]⟩, .int .i64 id] (w.alloc (.cells #[.map (some b), .slice none 0 0] 139)) fun e w' => ∃ r v' B', e = .returned (.bool r) ∧ Fr (w.alloc (.cells #[.map (some b), .slice none 0 0] 139)) w' w.heap.size (.slice none 0 0) v' ∧ Rdg w' w.heap.size b v' B' ∧ Got r [] B' (fun M => rdT F 3 id [] = some M)) := by
    have B1 : Below w.heap.size w (w.alloc (.cells #[.map (some b), .slice none 0 0] 139)) := (Below.refl _ _).alloc (Nat.le_refl _) _
    have R1 : Rst b nn D w.heap.size (w.alloc (.cells #[.map (some b), .slice none 0 0] 139)) (.slice none 0 0) [] := ⟨hg.below B1 hgl, hgl, ⟨cells_new w _ _ 0 _ rfl, cells_new w _ _ 1 _ rfl, World.frozen?_alloc_new w _ _ 1, World.ownsRow_nil _ _ _ _⟩, ownsBel hown B1 (Nat.le_refl _), by omega, by simp⟩
    refine (rsheet_all b nn D F hM ht 3 w.heap.size (.slice none 0 0) [] ⟨#[]⟩ id _ R1 hid (by decide) (by decide)).mono ?_
    rintro e w' ⟨r, v', B', rfl, f, l, got⟩
    refine ⟨r, v', B', rfl, f, l, got.iff fun M => ?_⟩
    exact ⟨fun h => h.1, fun h => ⟨h, fun e => absurd rfl e⟩⟩
  have hkeep : ∀ (w' : World) (v' : Value), Fr (w.alloc (.cells #[.map (some b), .slice none 0 0] 139)) w' w.heap.size (.slice none 0 0) v' → Below w.heap.size w w' := fun w' v' f => by
    have hsz := f.size
    simp only [World.size_alloc] at hsz
    refine ⟨f.os, f.tape, f.output, by omega, fun k hk => ?_⟩
    exact (f.block k (by simp; omega) (by omega) (by simp [Value.ownBlock])).trans (((Below.refl w.heap.size w).alloc (Nat.le_refl _) _).block k hk)
  have HK : Hid (∀ (w' : World) (v' : Value), Fr (w.alloc (.cells #[.map (some b), .slice none 0 0] 139)) w' w.heap.size (.slice none 0 0) v' → Below w.heap.size w w') := hkeep
  have HSM : Hid (∀ M, rdT F 3 id [] = some M → ∀ j (h : j < M.length), (M[j]).pa.size ≤ 1048576 ∧ (M[j]).by_.size ≤ 1048576) := (show ∀ M : List TF, _ → ∀ j (h : j < M.length), _ from fun M (h : rdT F 3 id [] = some M) j hj => by
    have := rdT_small F 3 id [] M (by decide) (by decide) h _ (List.getElem_mem hj)
    omega)
  clear hkeep hM ht hg hown
  go_enter Tryz.func71, Tryz.ntmps71
  go_wp2_with (first
    | (go_at_call 107; refine HC.out.mono ?_; rintro e w1 ⟨r, v', B', rfl, f, l, got⟩; have hb1 := HK.out w1 v' f; have d1 := l.c1; have l1 := l.lt; have o1 := l.row; clear f l; rcases got_case got o1 with ⟨rfl, hno⟩ | ⟨rfl, M, A, c, hBM, rfl, hrd, hM, h60⟩)
    | (go_at_call 66; subst hBM; go_loud (refine (treOk_impl A c B' _ hrd (by omega) (HSM.out B' hM)).mono ?_; cases hok : okT B' <;> rintro e w2 ⟨rfl, hb2⟩ <;> have d2 := (hb2.cell (p := ⟨w.heap.size, 1, none⟩) l1).trans d1)))
  · go_ret2
    rw [ansT_no (fun M hM => okT_big M (hno M hM))]
    exact ⟨⟨_, rfl, World.ownsRow_nil _ _ _ _⟩, hb1⟩
  · go_ret2
    rw [ansT_no (fun N hN => by rw [hM] at hN; cases hN; exact hok)]
    exact ⟨⟨_, rfl, World.ownsRow_nil _ _ _ _⟩, hb1.trans (hb2.mono hb1.size)⟩
  · go_ret2
    rw [ansT_yes hM hok]
    exact ⟨⟨_, rfl, ownsUpF (ownsUnder o1 hb2 (Nat.le_refl _)) (by omega)⟩, hb1.trans (hb2.mono hb1.size)⟩
set_option maxHeartbeats 4000000 in
set_option maxRecDepth 100000 in
theorem treRead_impl (A : Option Addr) (c : Nat) (L : List PI) (id : Int) (w : World) (hg : TypeCell w) (hL : RdP w.heap.size w A L) (hn : L.length ≤ 1048576) (ht : ∀ j (h : j < L.length), (L[j]).tx.size ≤ 1048576) (hid : inI id) :
    Calls Tryz.prog 36 #[.slice A L.length c, .int .i64 id] w fun e w' => TreEnd w w' (treR L id) e := by
  have hgl := hg.lt
  have HG : Hid (TypeCell w) := hg
  cases hk : okP L
  · have hp := poolOf_no A c L w hg hL hn ht hk
    rw [treR_no L id hk]
    clear hL ht hk hg
    go_enter Tryz.func36, Tryz.ntmps36
    go_wp2_with (go_at_call 51; refine hp.mono ?_; rintro e w1 ⟨rfl, hb1⟩; clear hp)
    go_ret2
    exact ⟨⟨_, rfl, World.ownsRow_nil _ _ _ _⟩, hb1⟩
  · have hp := poolOf_yes A c L w hg hL hn ht hk
    rw [treR_ok L id hk]
    have HT : Hid (∀ n, (txtF (findP L) n).size ≤ 1048576) := (show ∀ n, _ from fun n => by
      unfold txtF
      cases hf : findP L n with
      | none => show 0 ≤ _; omega
      | some t =>
        have hm := findP_in L n t hf
        obtain ⟨j, hj, e⟩ := List.getElem_of_mem hm
        have := ht j hj
        rw [e] at this; exact this)
    clear hL ht hk hg
    go_enter Tryz.func36, Tryz.ntmps36
    go_wp2_with (first
      | (go_at_call 51; refine hp.mono ?_; rintro e w1 ⟨b, D, rfl, hown, hM, hsz, hbw, hb1⟩; have hs1 := hb1.size; have HM : Hid (mapP D (findP L)) := hM; have HO : Hid (w1.ownsMap Tryz.prog 3 itemElem b L.length D) := hown; clear hp hM hsz hown)
      | (go_at_call 71; refine (tree_any b L.length D (findP L) HM.out HT.out id w1 (HG.out.below hb1 hgl) HO.out hid).mono ?_; rintro e w2 ⟨⟨v, rfl, o2⟩, hb2⟩))
    go_ret2
    exact ⟨⟨_, rfl, ownsUpF o2 hs1⟩, hb1.trans (hb2.mono hs1)⟩
end Go.Proofs.YthfffpdkmoclbaaGreatDoor.W
