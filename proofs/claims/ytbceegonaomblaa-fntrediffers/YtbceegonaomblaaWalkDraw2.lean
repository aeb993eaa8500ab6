
/-
  The walks of what the laws of chapters 1 and 2 draw: each answers some text of at most 64 bytes (or some number), the reader goes on, and of what lay nothing but the reader has turned.
-/
import Derived.Test.YtbceegonaomblaaWalkDraw
import Derived.Maps.AppendAt
namespace Go.Proofs.Ytbceegonaomblaa.W
open Go.RowKit Go.Proofs.Ytbceegonaomblaa.M

theorem gtrans {a b c : World} {row : Option Nat} (h : a.grownBy b row) (k : b.grownBy c row) : a.grownBy c row :=
  ⟨k.os.trans h.os, k.tape.trans h.tape, k.output.trans h.output, Nat.le_trans h.size k.size, fun j hj hne => (k.block j (Nat.lt_of_lt_of_le hj h.size) hne).trans (h.block j hj hne)⟩
theorem gweak {a b : World} {row : Option Nat} (h : a.grownBy b none) : a.grownBy b row := ⟨h.os, h.tape, h.output, h.size, fun j hj _ => h.block j hj (by simp)⟩
theorem galloc (w : World) (o : Obj) {row : Option Nat} : w.grownBy (w.alloc o) row := gweak (World.grownBy_alloc w o none)
theorem Rd.alloc {w : World} {rb p : Nat} {a : Option Addr} {len cap : Nat} {zs : Nat → Int} (h : Rd w rb p a len cap zs) (hlt : rb < w.heap.size) (o : Obj) : Rd (w.alloc o) rb p a len cap zs :=
  h.kept (World.grownBy_alloc w o none) (fun _ e => by cases e) hlt
theorem Rd.drew {w : World} {rb p : Nat} {a : Option Addr} {len cap : Nat} {zs : Nat → Int} (h : Rd w rb p a len cap zs) : Rd w.drew rb p a len cap zs := ⟨h.c0, h.c1, h.f1, h.hl, h.row⟩
theorem Rd.drewN {w : World} {rb p : Nat} {a : Option Addr} {len cap : Nat} {zs : Nat → Int} (h : Rd w rb p a len cap zs) (n : Nat) : Rd (w.drewN n) rb p a len cap zs := ⟨h.c0, h.c1, h.f1, h.hl, h.row⟩
theorem gdrew {w w2 : World} {row : Option Nat} (h : w.drew.grownBy w2 row) : w.grownBy w2 row := ⟨h.os, h.tape, h.output, h.size, h.block⟩
theorem gdrew' (w : World) {row : Option Nat} : w.grownBy w.drew row := ⟨rfl, rfl, rfl, Nat.le_refl _, fun _ _ _ => rfl⟩
theorem cellKept {w w2 : World} {row : Option Nat} {g v : Nat} {x : Value} (hg : w.grownBy w2 row) (hc : w.cell? ⟨g, v, none⟩ = some x) (hlt : g < w.heap.size) (hne : some g ≠ row) : w2.cell? ⟨g, v, none⟩ = some x :=
  (World.cell?_of_block (a := ⟨g, v, none⟩) (hg.block g hlt hne)).trans hc
theorem litCell {w w2 : World} {rb : Nat} {cs : Array Value} {t : TypeId} (hg : (w.alloc (.cells cs t)).grownBy w2 (some rb)) (hlt : rb < w.heap.size) (v : Nat) : w2.cell? ⟨w.heap.size, v, none⟩ = cs[v]? := by
  have e := hg.block w.heap.size (by simp) (by simp; omega)
  exact (World.cell?_of_block (a := ⟨w.heap.size, v, none⟩) e).trans (by simp)

/-- what a draw of a text answers -/
def DrewS (w : World) (rb p k : Nat) (a : Option Addr) (len cap : Nat) (zs : Nat → Int) (e : Ending) (w' : World) : Prop :=
  ∃ (s : ByteArray) (p' : Nat), e = .returned (.string s) ∧ s.size ≤ 64 ∧ p' ≤ p + k ∧ Rd w' rb p' a len cap zs ∧ w.grownBy w' (some rb)


set_option maxHeartbeats 400000 in
theorem bytes_any (w : World) (rb p : Nat) (a : Option Addr) (len cap : Nat) (zs : Nat → Int) (h : Rd w rb p a len cap zs) (hp : p ≤ 1000000) (hlt : rb < w.heap.size) :
    Calls Try.prog 44 #[.pointer (some ⟨rb, 0, none⟩)] w (DrewS w rb p 1 a len cap zs) := by
  go_enter Try.func44, Try.ntmps44
  go_wp2_with (go_at_call 43; refine (pick_any _ rb p a len cap 7 zs (h.alloc hlt _) hp (by omega) (by omega)).mono ?_; rintro e w2 ⟨v, hv, rfl, hR2, hg2⟩; obtain ⟨s, hcell, hs⟩ : ∃ s : ByteArray, w2.cell? ⟨w.heap.size, v, none⟩ = some (.string s) ∧ s.size ≤ 64 := (by rw [litCell hg2 hlt v]; rcases (show v = 0 ∨ v = 1 ∨ v = 2 ∨ v = 3 ∨ v = 4 ∨ v = 5 ∨ v = 6 from by omega) with rfl | rfl | rfl | rfl | rfl | rfl | rfl <;> exact ⟨_, rfl, by decide⟩))
  go_ret
  exact ⟨s, p + 1, rfl, hs, Nat.le_refl _, hR2, gtrans (galloc _ _) hg2⟩

set_option maxHeartbeats 400000 in
theorem path_any (w : World) (rb p : Nat) (a : Option Addr) (len cap : Nat) (zs : Nat → Int) (h : Rd w rb p a len cap zs) (hp : p ≤ 1000000) (hlt : rb < w.heap.size) :
    Calls Try.prog 45 #[.pointer (some ⟨rb, 0, none⟩)] w (DrewS w rb p 1 a len cap zs) := by
  go_enter Try.func45, Try.ntmps45
  go_wp2_with (go_at_call 43; refine (pick_any _ rb p a len cap 10 zs (h.alloc hlt _) hp (by omega) (by omega)).mono ?_; rintro e w2 ⟨v, hv, rfl, hR2, hg2⟩; obtain ⟨s, hcell, hs⟩ : ∃ s : ByteArray, w2.cell? ⟨w.heap.size, v, none⟩ = some (.string s) ∧ s.size ≤ 64 := (by rw [litCell hg2 hlt v]; rcases (show v = 0 ∨ v = 1 ∨ v = 2 ∨ v = 3 ∨ v = 4 ∨ v = 5 ∨ v = 6 ∨ v = 7 ∨ v = 8 ∨ v = 9 from by omega) with rfl | rfl | rfl | rfl | rfl | rfl | rfl | rfl | rfl | rfl <;> exact ⟨_, rfl, by decide⟩))
  go_ret
  exact ⟨s, p + 1, rfl, hs, Nat.le_refl _, hR2, gtrans (galloc _ _) hg2⟩

/-- the four texts that a path is picked from -/
theorem litFour {w w2 : World} {rb : Nat} {t : TypeId} (s1 s2 s3 : ByteArray) (hg : (w.alloc (.cells #[.string ⟨#[]⟩, .string s1, .string s2, .string s3] t)).grownBy w2 (some rb)) (hlt : rb < w.heap.size) (v : Nat) (hv : v < 4) (h1 : s1.size ≤ 64) (h2 : s2.size ≤ 64) (h3 : s3.size ≤ 64) :
    ∃ s : ByteArray, w2.cell? ⟨w.heap.size, v, none⟩ = some (.string s) ∧ s.size ≤ 64 := by
  rw [litCell hg hlt v]
  rcases (show v = 0 ∨ v = 1 ∨ v = 2 ∨ v = 3 from by omega) with rfl | rfl | rfl | rfl
  · exact ⟨_, rfl, by decide⟩
  · exact ⟨_, rfl, h1⟩
  · exact ⟨_, rfl, h2⟩
  · exact ⟨_, rfl, h3⟩

set_option maxHeartbeats 1000000 in
theorem anyPath_any (w : World) (rb p n : Nat) (a : Option Addr) (len cap : Nat) (zs : Nat → Int) (h : Rd w rb p a len cap zs) (hp : p ≤ 900000) (hlt : rb < w.heap.size) (hn : 1 ≤ n) (hn2 : n ≤ 1000000) :
    Calls Try.prog 24 #[.pointer (some ⟨rb, 0, none⟩), .int .i64 n] w (DrewS w rb p 5 a len cap zs) := by
  go_enter Try.func24, Try.ntmps24
  go_wp2_with (first | (go_at_call 43; refine (pick_any _ rb p a len cap n zs h (by omega) hn hn2).mono ?_; rintro e w1 ⟨v0, hv0, rfl, hR1, hg1⟩; clear h; have hl1 : rb < w1.heap.size := Nat.lt_of_lt_of_le hlt hg1.size) | (go_at_call 45; refine (path_any _ rb _ a len cap zs hR1 (by omega) hl1).mono ?_; rintro e w2 ⟨s1, p1, rfl, hs1, hp1, hR2, hg2⟩; clear hR1; have hl2 : rb < w2.heap.size := Nat.lt_of_lt_of_le hl1 hg2.size) | (go_at_call 45; refine (path_any _ rb _ a len cap zs hR2 (by omega) hl2).mono ?_; rintro e w3 ⟨s2, p2, rfl, hs2, hp2, hR3, hg3⟩; clear hR2; have hl3 : rb < w3.heap.size := Nat.lt_of_lt_of_le hl2 hg3.size) | (go_at_call 45; refine (path_any _ rb _ a len cap zs hR3 (by omega) hl3).mono ?_; rintro e w4 ⟨s3, p3, rfl, hs3, hp3, hR4, hg4⟩; clear hR3; have hl4 : rb < w4.heap.size := Nat.lt_of_lt_of_le hl3 hg4.size) | (go_at_call 43; refine (pick_any _ rb _ a len cap 4 zs (hR4.alloc hl4 _) (by omega) (by omega) (by omega)).mono ?_; rintro e w5 ⟨v, hv, rfl, hR5, hg5⟩; clear hR4; obtain ⟨s, hcell, hs⟩ := litFour s1 s2 s3 hg5 hl4 v hv hs1 hs2 hs3) | (go_at_call 43; refine (pick_any _ rb _ a len cap 10 zs (hR1.alloc hl1 _) (by omega) (by omega) (by omega)).mono ?_; rintro e w2 ⟨v, hv, rfl, hR2, hg2⟩; clear hR1; obtain ⟨s, hcell, hs⟩ : ∃ s : ByteArray, w2.cell? ⟨w1.heap.size, v, none⟩ = some (.string s) ∧ s.size ≤ 64 := (by rw [litCell hg2 hl1 v]; rcases (show v = 0 ∨ v = 1 ∨ v = 2 ∨ v = 3 ∨ v = 4 ∨ v = 5 ∨ v = 6 ∨ v = 7 ∨ v = 8 ∨ v = 9 from by omega) with rfl | rfl | rfl | rfl | rfl | rfl | rfl | rfl | rfl | rfl <;> exact ⟨_, rfl, by decide⟩)))
  · go_ret
    exact ⟨s, _, rfl, hs, by omega, hR5, gtrans (gtrans (gtrans (gtrans (gtrans hg1 hg2) hg3) hg4) (galloc _ _)) hg5⟩
  · go_ret
    exact ⟨s, _, rfl, hs, by omega, hR2, gtrans (gtrans hg1 (galloc _ _)) hg2⟩
end Go.Proofs.Ytbceegonaomblaa.W
