
/-
  A drawn request that is spoilt: where it lies, what is known of it, and what each step keeps. (Written by genreqf.py.) No condition.
-/
import Derived.Test.YtcdkjlbpcihcjaaReqC
namespace Go.Proofs.Ytcdkjlbpcihcjaa.W
open Go.RowKit Go.Proofs.Ytcdkjlbpcihcjaa.M
set_option linter.unusedVariables false

/-- a request lies in the block k, the result in the block behind lo -/
structure S22 (w : World) (rb k m : Nat) (ad : Option Addr) (len cap : Nat) (zs : Nat → Int) (wc : World) (x : RQ) (E : Value) (q : Nat) : Prop where
  rd : Rd wc rb q ad len cap zs
  g : w.grownBy wc (some rb)
  lt : rb < w.heap.size
  lk : w.heap.size + 2 ≤ k
  bk : wc.heap[k]? = some (.cells (x.at_ E) 27 (0, 0))
  b4 : wc.heap[w.heap.size + 1]? = some (.cells #[.int .i64 0, .int .i64 0, .int .i64 0, .int .i64 0, .string ⟨#[]⟩, .string ⟨#[]⟩, .int .i64 0, .int .i64 0, .slice none 0 0, .int .i64 0, .string ⟨#[]⟩, .string ⟨#[]⟩, .bool false, .int .i64 0, .string ⟨#[]⟩] 27 (0, 0))
  own : wc.ownsRow (w.heap.size + 2) 41 3 E x.edits.length (cellsE x.edits)
  ne : E.ownBlock ≠ some k
  n : x.edits.length ≤ m
  sh : short x.edits
  sm : smallQ x
section
variable {w wc w2 : World} {rb k m q q' : Nat} {ad : Option Addr} {len cap : Nat} {zs : Nat → Int} {x : RQ} {E : Value}
theorem S22.lt2 (h : S22 w rb k m ad len cap zs wc x E q) : rb < wc.heap.size := Nat.lt_of_lt_of_le h.lt h.g.size
theorem S22.lk2 (h : S22 w rb k m ad len cap zs wc x E q) : k < wc.heap.size := (Array.getElem?_eq_some_iff.1 h.bk).1
theorem S22.ex (h : S22 w rb k m ad len cap zs wc x E q) : ∃ x', S22 w rb k m ad len cap zs wc x' E q := ⟨x, h⟩
theorem S22.ner (h : S22 w rb k m ad len cap zs wc x E q) : E.ownBlock ≠ some rb := by
  intro e
  have := (h.own.lt rb e).1
  have := h.lt
  omega
theorem S22.call (h : S22 w rb k m ad len cap zs wc x E q) (hg : wc.grownBy w2 (some rb)) (hr : Rd w2 rb q' ad len cap zs) : S22 w rb k m ad len cap zs w2 x E q' :=
  ⟨hr, gtrans h.g hg, h.lt, h.lk, bkKept h.bk hg (by have := h.lt; have := h.lk; omega), bkKept h.b4 hg (by have := h.lt; omega), h.own.kept hg (.inr h.ner), h.ne, h.n, h.sh, h.sm⟩
theorem S22.below (h : S22 w rb k m ad len cap zs wc x E q) (hb : Below wc.heap.size wc w2) : S22 w rb k m ad len cap zs w2 x E q := h.call (bGrow hb) (rdBelow h.rd hb h.lt2)
theorem S22.al (h : S22 w rb k m ad len cap zs wc x E q) (o : Obj) : S22 w rb k m ad len cap zs (wc.alloc o) x E q := h.below ((Below.refl _ _).alloc (Nat.le_refl _) o)
theorem S22.up (h : S22 w rb k m ad len cap zs wc x E q) {m' : Nat} (hm : m ≤ m') : S22 w rb k m' ad len cap zs wc x E q :=
  ⟨h.rd, h.g, h.lt, h.lk, h.bk, h.b4, h.own, h.ne, Nat.le_trans h.n hm, h.sh, h.sm⟩
theorem S22.set (h : S22 w rb k m ad len cap zs wc x E q) {i : Nat} {u : Value} {x' : RQ} (he : (x.at_ E).setIfInBounds i u = x'.at_ E) (hed : x'.edits = x.edits) (hs : smallQ x') : S22 w rb k m ad len cap zs (wc.setCell ⟨k, i, none⟩ u) x' E q := by
  have hG := gSet wc k i u
  have hl := h.lt2
  have h1 := h.lt
  have h2 := h.lk
  refine ⟨h.rd.kept hG (fun r e => by cases e; omega) hl, gNew h.g hG (by omega), h.lt, h.lk, ?_, bkKept h.b4 hG (by omega), ?_, h.ne, ?_, ?_, hs⟩
  · rw [← he]; exact bkSet h.bk
  · rw [hed]; exact h.own.kept hG (.inr h.ne)
  · rw [hed]; exact h.n
  · rw [hed]; exact h.sh
theorem S22.s0 (h : S22 w rb k m ad len cap zs wc x E q) (v : Int) : S22 w rb k m ad len cap zs (wc.setCell ⟨k, 0, none⟩ (.int .i64 v)) { x with user := v } E q := h.set rfl rfl h.sm
theorem S22.s1 (h : S22 w rb k m ad len cap zs wc x E q) (v : Int) : S22 w rb k m ad len cap zs (wc.setCell ⟨k, 1, none⟩ (.int .i64 v)) { x with key := v } E q := h.set rfl rfl h.sm
theorem S22.s2 (h : S22 w rb k m ad len cap zs wc x E q) (v : Int) : S22 w rb k m ad len cap zs (wc.setCell ⟨k, 2, none⟩ (.int .i64 v)) { x with repo := v } E q := h.set rfl rfl h.sm
theorem S22.s3 (h : S22 w rb k m ad len cap zs wc x E q) (v : Int) : S22 w rb k m ad len cap zs (wc.setCell ⟨k, 3, none⟩ (.int .i64 v)) { x with kind := v } E q := h.set rfl rfl h.sm
theorem S22.s6 (h : S22 w rb k m ad len cap zs wc x E q) (v : Int) : S22 w rb k m ad len cap zs (wc.setCell ⟨k, 6, none⟩ (.int .i64 v)) { x with old := v } E q := h.set rfl rfl h.sm
theorem S22.s7 (h : S22 w rb k m ad len cap zs wc x E q) (v : Int) : S22 w rb k m ad len cap zs (wc.setCell ⟨k, 7, none⟩ (.int .i64 v)) { x with back := v } E q := h.set rfl rfl h.sm
theorem S22.s4 (h : S22 w rb k m ad len cap zs wc x E q) (v : ByteArray) (hv : v.size ≤ 64) : S22 w rb k m ad len cap zs (wc.setCell ⟨k, 4, none⟩ (.string v)) { x with ref := v } E q := h.set rfl rfl ⟨hv, h.sm.2.1, h.sm.2.2.1, h.sm.2.2.2⟩
theorem S22.s5 (h : S22 w rb k m ad len cap zs wc x E q) (v : ByteArray) (hv : v.size ≤ 64) : S22 w rb k m ad len cap zs (wc.setCell ⟨k, 5, none⟩ (.string v)) { x with path := v } E q := h.set rfl rfl ⟨h.sm.1, hv, h.sm.2.2.1, h.sm.2.2.2⟩
theorem S22.s9 (h : S22 w rb k m ad len cap zs wc x E q) (u : Int) (r t : ByteArray) (g : Bool) (hr : r.size ≤ 64 ∧ t.size ≤ 64) : S22 w rb k m ad len cap zs ((((wc.setCell ⟨k, 9, none⟩ (.int .i64 u)).setCell ⟨k, 10, none⟩ (.string r)).setCell ⟨k, 11, none⟩ (.string t)).setCell ⟨k, 12, none⟩ (.bool g)) { x with rule := ⟨u, r, t, g⟩ } E q := by
  have h1 : S22 w rb k m ad len cap zs (wc.setCell ⟨k, 9, none⟩ (.int .i64 u)) { x with rule := ⟨u, x.rule.ref, x.rule.path, x.rule.write⟩ } E q := h.set rfl rfl h.sm
  have h2 : S22 w rb k m ad len cap zs ((wc.setCell ⟨k, 9, none⟩ (.int .i64 u)).setCell ⟨k, 10, none⟩ (.string r)) { x with rule := ⟨u, r, x.rule.path, x.rule.write⟩ } E q := h1.set rfl rfl ⟨h.sm.1, h.sm.2.1, h.sm.2.2.1, hr.1, h.sm.2.2.2.2⟩
  have h3 : S22 w rb k m ad len cap zs (((wc.setCell ⟨k, 9, none⟩ (.int .i64 u)).setCell ⟨k, 10, none⟩ (.string r)).setCell ⟨k, 11, none⟩ (.string t)) { x with rule := ⟨u, r, t, x.rule.write⟩ } E q := h2.set rfl rfl ⟨h.sm.1, h.sm.2.1, h.sm.2.2.1, hr.1, hr.2⟩
  exact h3.set rfl rfl ⟨h.sm.1, h.sm.2.1, h.sm.2.2.1, hr.1, hr.2⟩
/-- one edit more, appended: what the appending has left lies in the old row or in a new one -/
theorem S22.app (h : S22 w rb k m ad len cap zs wc x E q) {w3 : World} (hg : wc.grownBy w3 E.ownBlock) {E' : Value} {L : List TE} (ho : w3.ownsRow (w.heap.size + 2) 41 3 E' L.length (cellsE L)) (hL : L ≠ []) {m' : Nat} (hn : L.length ≤ m') (hs : short L) : S22 w rb k m' ad len cap zs (w3.setCell ⟨k, 8, none⟩ E') { x with edits := L } E' q := by
  have hG := gSet w3 k 8 E'
  have hl := h.lt2
  have h1 := h.lt
  have h2 := h.lk
  have h5 := hg.size
  have h6 := h.lk2
  have kb : ∀ {R : Nat} {o : Obj}, wc.heap[R]? = some o → some R ≠ E.ownBlock → w3.heap[R]? = some o := fun hR hne => (hg.block _ (Array.getElem?_eq_some_iff.1 hR).1 hne).trans hR
  have hlo : ∀ j, E.ownBlock = some j → w.heap.size + 2 ≤ j := fun j e => (h.own.lt j e).1
  have GW : w.grownBy w3 (some rb) := ⟨hg.os.trans h.g.os, hg.tape.trans h.g.tape, hg.output.trans h.g.output, Nat.le_trans h.g.size hg.size, fun j hj hne => (hg.block j (Nat.lt_of_lt_of_le hj h.g.size) (fun e => by have := hlo _ e.symm; omega)).trans (h.g.block j hj hne)⟩
  have kbk := kb h.bk (fun e => h.ne e.symm)
  have hne : E'.ownBlock ≠ some k := by
    intro e
    rcases ho.2 with ⟨_, h0⟩ | ⟨g, c, cur, rfl, _, hb, _⟩
    · exact hL (List.eq_nil_of_length_eq_zero h0)
    · have : g = k := Option.some.inj e
      subst this
      rw [kbk] at hb
      have := Option.some.inj hb
      injection this with _ ht _
      exact absurd ht (by decide)
  exact ⟨(h.rd.kept hg (fun j e => by have := hlo j e; omega) hl).kept hG (fun r e => by cases e; omega) (by omega), gNew GW hG (by omega), h.lt, h.lk, bkSet (k := 8) (v := E') kbk, bkKept (kb h.b4 (fun e => by have := hlo _ e.symm; omega)) hG (by omega), ho.kept hG (.inr hne), hne, hn, hs, h.sm⟩
theorem S22.cells (h : S22 w rb k m ad len cap zs wc x E q) : wc.cell? ⟨k, 0, none⟩ = some (.int .i64 x.user) ∧ wc.cell? ⟨k, 1, none⟩ = some (.int .i64 x.key) ∧ wc.cell? ⟨k, 2, none⟩ = some (.int .i64 x.repo) ∧ wc.cell? ⟨k, 3, none⟩ = some (.int .i64 x.kind) ∧ wc.cell? ⟨k, 4, none⟩ = some (.string x.ref) ∧ wc.cell? ⟨k, 5, none⟩ = some (.string x.path) ∧ wc.cell? ⟨k, 6, none⟩ = some (.int .i64 x.old) ∧ wc.cell? ⟨k, 7, none⟩ = some (.int .i64 x.back) ∧ wc.cell? ⟨k, 8, none⟩ = some (E) ∧ wc.cell? ⟨k, 9, none⟩ = some (.int .i64 x.rule.user) ∧ wc.cell? ⟨k, 10, none⟩ = some (.string x.rule.ref) ∧ wc.cell? ⟨k, 11, none⟩ = some (.string x.rule.path) ∧ wc.cell? ⟨k, 12, none⟩ = some (.bool x.rule.write) ∧ wc.cell? ⟨k, 13, none⟩ = some (.int .i64 x.from_) ∧ wc.cell? ⟨k, 14, none⟩ = some (.string x.other) :=
  ⟨bkCell (k := 0) h.bk rfl, bkCell (k := 1) h.bk rfl, bkCell (k := 2) h.bk rfl, bkCell (k := 3) h.bk rfl, bkCell (k := 4) h.bk rfl, bkCell (k := 5) h.bk rfl, bkCell (k := 6) h.bk rfl, bkCell (k := 7) h.bk rfl, bkCell (k := 8) h.bk rfl, bkCell (k := 9) h.bk rfl, bkCell (k := 10) h.bk rfl, bkCell (k := 11) h.bk rfl, bkCell (k := 12) h.bk rfl, bkCell (k := 13) h.bk rfl, bkCell (k := 14) h.bk rfl⟩
theorem S22.frz (h : S22 w rb k m ad len cap zs wc x E q) : wc.frozen? ⟨k, 0, none⟩ = false ∧ wc.frozen? ⟨k, 1, none⟩ = false ∧ wc.frozen? ⟨k, 2, none⟩ = false ∧ wc.frozen? ⟨k, 3, none⟩ = false ∧ wc.frozen? ⟨k, 4, none⟩ = false ∧ wc.frozen? ⟨k, 5, none⟩ = false ∧ wc.frozen? ⟨k, 6, none⟩ = false ∧ wc.frozen? ⟨k, 7, none⟩ = false ∧ wc.frozen? ⟨k, 8, none⟩ = false ∧ wc.frozen? ⟨k, 9, none⟩ = false ∧ wc.frozen? ⟨k, 10, none⟩ = false ∧ wc.frozen? ⟨k, 11, none⟩ = false ∧ wc.frozen? ⟨k, 12, none⟩ = false ∧ wc.frozen? ⟨k, 13, none⟩ = false ∧ wc.frozen? ⟨k, 14, none⟩ = false :=
  ⟨bkFrozen (k := 0) h.bk, bkFrozen (k := 1) h.bk, bkFrozen (k := 2) h.bk, bkFrozen (k := 3) h.bk, bkFrozen (k := 4) h.bk, bkFrozen (k := 5) h.bk, bkFrozen (k := 6) h.bk, bkFrozen (k := 7) h.bk, bkFrozen (k := 8) h.bk, bkFrozen (k := 9) h.bk, bkFrozen (k := 10) h.bk, bkFrozen (k := 11) h.bk, bkFrozen (k := 12) h.bk, bkFrozen (k := 13) h.bk, bkFrozen (k := 14) h.bk⟩
end
theorem shortSnoc {L : List TE} (h : short L) {s b : ByteArray} {z : Bool} (hs : s.size ≤ 64) (hb : b.size ≤ 64) : short (L ++ [⟨s, b, z⟩]) := fun y hy => by
  rcases List.mem_append.1 hy with hy | hy
  · exact h y hy
  · obtain rfl : y = ⟨s, b, z⟩ := by simpa using hy
    exact ⟨hs, hb⟩
theorem litI5 {W W2 : World} {rb : Nat} {t : TypeId} {a0 a1 a2 a3 a4 : Int} (hg : (W.alloc (.cells #[.int .i64 a0, .int .i64 a1, .int .i64 a2, .int .i64 a3, .int .i64 a4] t)).grownBy W2 (some rb)) (hlt : rb < W.heap.size) (v : Nat) (hv : (v : Int) < 5) : ∃ d : Int, W2.cell? ⟨W.heap.size, v, none⟩ = some (.int .i64 d) := by
  rw [litCell hg hlt v]
  rcases (show v = 0 ∨ v = 1 ∨ v = 2 ∨ v = 3 ∨ v = 4 from by omega) with rfl | rfl | rfl | rfl | rfl <;> exact ⟨_, rfl⟩
theorem litI4 {W W2 : World} {rb : Nat} {t : TypeId} {a0 a1 a2 a3 : Int} (hg : (W.alloc (.cells #[.int .i64 a0, .int .i64 a1, .int .i64 a2, .int .i64 a3] t)).grownBy W2 (some rb)) (hlt : rb < W.heap.size) (v : Nat) (hv : (v : Int) < 4) : ∃ d : Int, W2.cell? ⟨W.heap.size, v, none⟩ = some (.int .i64 d) := by
  rw [litCell hg hlt v]
  rcases (show v = 0 ∨ v = 1 ∨ v = 2 ∨ v = 3 from by omega) with rfl | rfl | rfl | rfl <;> exact ⟨_, rfl⟩
theorem litS3 {W W2 : World} {rb : Nat} {t : TypeId} {a0 a1 a2 : ByteArray} (hg : (W.alloc (.cells #[.string a0, .string a1, .string a2] t)).grownBy W2 (some rb)) (hlt : rb < W.heap.size) (v : Nat) (hv : (v : Int) < 3) (h0 : a0.size ≤ 64) (h1 : a1.size ≤ 64) (h2 : a2.size ≤ 64) : ∃ s : ByteArray, W2.cell? ⟨W.heap.size, v, none⟩ = some (.string s) ∧ s.size ≤ 64 := by
  rw [litCell hg hlt v]
  rcases (show v = 0 ∨ v = 1 ∨ v = 2 from by omega) with rfl | rfl | rfl
  · exact ⟨_, rfl, h0⟩
  · exact ⟨_, rfl, h1⟩
  · exact ⟨_, rfl, h2⟩
theorem pickT (n : Int) (hn : 1 ≤ n) (hn2 : n ≤ 1000000) {w wc : World} {rb k m q : Nat} {ad : Option Addr} {len cap : Nat} {zs : Nat → Int} {x : RQ} {E : Value} (h : S22 w rb k m ad len cap zs wc x E q) (hq : q ≤ 900000) :
    Calls Try.prog 22 #[.pointer (some ⟨rb, 0, none⟩), .int .i64 n] wc fun e w' => ∃ v : Nat, (v : Int) < n ∧ e = .returned (.int .i64 v) ∧ S22 w rb k m ad len cap zs w' x E (q + 1) ∧ wc.grownBy w' (some rb) := by
  obtain ⟨n', rfl⟩ := Int.eq_ofNat_of_zero_le (show 0 ≤ n by omega)
  refine (pick_any wc rb q ad len cap n' zs h.rd (by omega) (by omega) (by omega)).mono ?_
  rintro e w' ⟨v, hv, rfl, hR, hG⟩
  exact ⟨v, by omega, rfl, h.call hG hR, hG⟩
theorem ruleT (n : Int) (hn : 1 ≤ n) (hn2 : n ≤ 1000000) {w wc : World} {rb k m q : Nat} {ad : Option Addr} {len cap : Nat} {zs : Nat → Int} {x : RQ} {E : Value} (h : S22 w rb k m ad len cap zs wc x E q) (hq : q ≤ 800000) :
    Calls Try.prog 25 #[.pointer (some ⟨rb, 0, none⟩), .int .i64 n] wc fun e w' => ∃ (u : Int) (r t : ByteArray) (g : Bool) (q' : Nat), e = .returned (.agg #[.int .i64 u, .string r, .string t, .bool g]) ∧ (r.size ≤ 64 ∧ t.size ≤ 64) ∧ q' ≤ q + 30 ∧ S22 w rb k m ad len cap zs w' x E q' := by
  obtain ⟨n', rfl⟩ := Int.eq_ofNat_of_zero_le (show 0 ≤ n by omega)
  refine (rule_any wc rb n' q ad len cap zs h.rd (by omega) h.lt2 (by omega) (by omega)).mono ?_
  rintro e w' ⟨y, q', rfl, _, _, h1, h2, hq', hR, hG⟩
  exact ⟨y.user, y.ref, y.path, y.write, q', rfl, ⟨h1, h2⟩, hq', h.call hG hR⟩
theorem pathT (n : Int) (hn : 1 ≤ n) (hn2 : n ≤ 1000000) {w wc : World} {rb k m q : Nat} {ad : Option Addr} {len cap : Nat} {zs : Nat → Int} {x : RQ} {E : Value} (h : S22 w rb k m ad len cap zs wc x E q) (hq : q ≤ 800000) :
    Calls Try.prog 23 #[.pointer (some ⟨rb, 0, none⟩), .int .i64 n] wc fun e w' => ∃ (s : ByteArray) (q' : Nat), e = .returned (.string s) ∧ s.size ≤ 64 ∧ q' ≤ q + 5 ∧ S22 w rb k m ad len cap zs w' x E q' := by
  obtain ⟨n', rfl⟩ := Int.eq_ofNat_of_zero_le (show 0 ≤ n by omega)
  refine (anyPath_any wc rb q n' ad len cap zs h.rd (by omega) h.lt2 (by omega) (by omega)).mono ?_
  rintro e w' ⟨s, q', rfl, hs, hq', hR, hG⟩
  exact ⟨s, q', rfl, hs, hq', h.call hG hR⟩
end Go.Proofs.Ytcdkjlbpcihcjaa.W
