
/-
  The walks of what the laws of chapters 1 and 2 draw: each answers some text of at most 64 bytes (or some number), the reader goes on, and of what lay nothing but the reader has turned.
-/
import Derived.Test.YtbhagojgnljcjaaWalkDraw
import Derived.Maps.AppendAt
namespace Go.Proofs.Ytbhagojgnljcjaa.W
open Go.RowKit Go.Proofs.Ytbhagojgnljcjaa.M

theorem gtrans {a b c : World} {row : Option Nat} (h : a.grownBy b row) (k : b.grownBy c row) : a.grownBy c row :=
  ⟨k.os.trans h.os, k.tape.trans h.tape, k.output.trans h.output, Nat.le_trans h.size k.size, fun j hj hne => (k.block j (Nat.lt_of_lt_of_le hj h.size) hne).trans (h.block j hj hne)⟩
theorem gweak {a b : World} {row : Option Nat} (h : a.grownBy b none) : a.grownBy b row := ⟨h.os, h.tape, h.output, h.size, fun j hj _ => h.block j hj (by simp)⟩
theorem galloc (w : World) (o : Obj) {row : Option Nat} : w.grownBy (w.alloc o) row := gweak (World.grownBy_alloc w o none)
theorem Rd.alloc {w : World} {rb p : Nat} {a : Option Addr} {len cap : Nat} {zs : Nat → Int} (h : Rd w rb p a len cap zs) (hlt : rb < w.heap.size) (o : Obj) : Rd (w.alloc o) rb p a len cap zs :=
  h.kept (World.grownBy_alloc w o none) (fun _ e => by cases e) hlt
theorem Rd.drew {w : World} {rb p : Nat} {a : Option Addr} {len cap : Nat} {zs : Nat → Int} (h : Rd w rb p a len cap zs) : Rd w.drew rb p a len cap zs := ⟨h.c0, h.c1, h.f1, h.hl, h.row⟩
theorem Rd.drewN {w : World} {rb p : Nat} {a : Option Addr} {len cap : Nat} {zs : Nat → Int} (h : Rd w rb p a len cap zs) (n : Nat) : Rd (w.drewN n) rb p a len cap zs := ⟨h.c0, h.c1, h.f1, h.hl, h.row⟩
theorem gdrew {w w2 : World} {row : Option Nat} (h : w.drew.grownBy w2 row) : w.grownBy w2 row := ⟨h.os, h.tape, h.output, h.size, h.block⟩
theorem gdrew' (w : World) {row : Option Nat} : w.grownBy w.drew row := ⟨rfl, rfl, rfl, Nat.le_refl _, fun _ _ _ => rfl⟩
theorem cellKept {w w2 : World} {row : Option Nat} {g v : Nat} {x : Value} (hg : w.grownBy w2 row) (hc : w.cell? ⟨g, v, none⟩ = some x) (hlt : g < w.heap.size) (hne : some g ≠ row) : w2.cell? ⟨g, v, none⟩ = some x :=
  (World.cell?_of_block (a := ⟨g, v, none⟩) (hg.block g hlt hne)).trans hc
theorem litCell {w w2 : World} {rb : Nat} {cs : Array Value} {t : TypeId} (hg : (w.alloc (.cells cs t)).grownBy w2 (some rb)) (hlt : rb < w.heap.size) (v : Nat) : w2.cell? ⟨w.heap.size, v, none⟩ = cs[v]? := by
  have e := hg.block w.heap.size (by simp) (by simp; omega)
  exact (World.cell?_of_block (a := ⟨w.heap.size, v, none⟩) e).trans (by simp)

/-- what a draw of a text answers -/
def DrewS (w : World) (rb p k : Nat) (a : Option Addr) (len cap : Nat) (zs : Nat → Int) (e : Ending) (w' : World) : Prop :=
  ∃ (s : ByteArray) (p' : Nat), e = .returned (.string s) ∧ s.size ≤ 64 ∧ p' ≤ p + k ∧ Rd w' rb p' a len cap zs ∧ w.grownBy w' (some rb)




/-- the four texts that a path is picked from -/
theorem litFour {w w2 : World} {rb : Nat} {t : TypeId} (s1 s2 s3 : ByteArray) (hg : (w.alloc (.cells #[.string ⟨#[]⟩, .string s1, .string s2, .string s3] t)).grownBy w2 (some rb)) (hlt : rb < w.heap.size) (v : Nat) (hv : v < 4) (h1 : s1.size ≤ 64) (h2 : s2.size ≤ 64) (h3 : s3.size ≤ 64) :
    ∃ s : ByteArray, w2.cell? ⟨w.heap.size, v, none⟩ = some (.string s) ∧ s.size ≤ 64 := by
  rw [litCell hg hlt v]
  rcases (show v = 0 ∨ v = 1 ∨ v = 2 ∨ v = 3 from by omega) with rfl | rfl | rfl | rfl
  · exact ⟨_, rfl, by decide⟩
  · exact ⟨_, rfl, h1⟩
  · exact ⟨_, rfl, h2⟩
  · exact ⟨_, rfl, h3⟩

end Go.Proofs.Ytbhagojgnljcjaa.W
