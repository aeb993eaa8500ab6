/-
  The walks of the reader that the laws draw by: 'l20Open' and 'pick'. 'Rd': the reader lies in block rb, has come to place p, and reads bytes that are there. 'pick' answers a number below n.
  The walks of what the laws of chapters 1 and 2 draw: each answers some text of at most 64 bytes (or some number), the reader goes on, and of what lay nothing but the reader has turned.
  The walks of 'l20Open' and of the draws of chapters 1 and 2: some texts of at most 200 bytes; of what lay nothing has turned.
-/
import Derived.Test.YtgbcgchnnmgmfaaBase
import Derived.Test.YtgbcgchnnmgmfaaMathId
import Derived.Below
import Derived.OwnWalk
import Derived.BigQuiet
import Derived.Deep.QuietTactic
import Derived.RangeFuncBox
import Derived.Laws.BitsAllLaws
import Derived.Maps.AppendAt
import Derived.Deep.RegionWith
import Derived.OpenShut
namespace Go.Proofs.Ytgbcgchnnmgmfaa.W
open Go.RowKit Go.Proofs.Ytgbcgchnnmgmfaa.M

structure Rd (w : World) (rb p : Nat) (a : Option Addr) (len cap : Nat) (zs : Nat → Int) : Prop where
  c0 : w.cell? ⟨rb, 0, none⟩ = some (.slice a len cap)
  c1 : w.cell? ⟨rb, 1, none⟩ = some (.int .i64 p)
  f1 : w.frozen? ⟨rb, 1, none⟩ = false
  hl : len ≤ 2000
  row : len = 0 ∨ ∃ b off, a = some ⟨b, off, none⟩ ∧ b < rb ∧ ∀ i, i < len → w.cell? ⟨b, off + i, none⟩ = some (.int .u8 (zs i)) ∧ 0 ≤ zs i ∧ zs i ≤ 255

/-- the number that a reader picks -/
def pickV (zs : Nat → Int) (len p n : Nat) : Int :=
  if len = 0 then 0 else if p < len then zs p % (n : Int) else
    (bits BinOp.xor IntKind.i64 (zs (p % len) * 131 + zs ((p * 7 + 3) % len) * 1117 + (p : Int) * 29 + ((p / len : Nat) : Int) * 53) ((zs (p % len) * 131 + zs ((p * 7 + 3) % len) * 1117 + (p : Int) * 29 + ((p / len : Nat) : Int) * 53) / 64)).tmod (n : Int)
theorem xpick (X : Int) (n : Nat) (h0 : 0 ≤ X) (h1 : X < 4294967296) (hn : 1 ≤ n) :
    0 ≤ (bits BinOp.xor IntKind.i64 X (X / 64)).tmod (n : Int) ∧ (bits BinOp.xor IntKind.i64 X (X / 64)).tmod (n : Int) < n := by
  obtain ⟨x, rfl⟩ := Int.eq_ofNat_of_zero_le h0
  have e : ((x : Int) / 64) = ((x / 64 : Nat) : Int) := cast_div x 64
  rw [e, i64_xor_nat x (x / 64) (by omega) (by omega), Int.tmod_eq_emod_of_nonneg (by omega)]
  exact ⟨Int.emod_nonneg _ (by omega), Int.emod_lt_of_pos _ (by omega)⟩

theorem pickV_bd {w : World} {rb p : Nat} {a : Option Addr} {len cap : Nat} {zs : Nat → Int} (h : Rd w rb p a len cap zs) (n : Nat) (hp : p ≤ 1000000) (hn : 1 ≤ n) : ∃ v : Nat, v < n ∧ pickV zs len p n = (v : Int) := by
  have key : 0 ≤ pickV zs len p n ∧ pickV zs len p n < n := by
    unfold pickV
    by_cases h0 : len = 0
    · rw [if_pos h0]; omega
    · rw [if_neg h0]
      rcases h.row with h1 | ⟨b, off, _, _, hr⟩
      · exact absurd h1 h0
      · by_cases hlt : p < len
        · rw [if_pos hlt]; exact ⟨Int.emod_nonneg _ (by omega), Int.emod_lt_of_pos _ (by omega)⟩
        · rw [if_neg hlt]
          have hpos : 0 < len := by omega
          obtain ⟨_, hz0, hz1⟩ := hr (p % len) (Nat.mod_lt _ hpos)
          obtain ⟨_, hy0, hy1⟩ := hr ((p * 7 + 3) % len) (Nat.mod_lt _ hpos)
          have hl3 : p / len ≤ p := Nat.div_le_self _ _
          generalize p / len = m3 at hl3 ⊢
          exact xpick _ n (by omega) (by omega) hn
  exact ⟨(pickV zs len p n).toNat, by omega, by omega⟩

theorem Rd.kept {w w' : World} {rb p : Nat} {a : Option Addr} {len cap : Nat} {zs : Nat → Int} {row : Option Nat} (h : Rd w rb p a len cap zs) (hg : w.grownBy w' row) (hr : ∀ r, row = some r → rb < r) (hlt : rb < w.heap.size) : Rd w' rb p a len cap zs := by
  have hb : ∀ k, k ≤ rb → w'.heap[k]? = w.heap[k]? := fun k hk => hg.block k (by omega) (fun e => by have := hr k e.symm; omega)
  obtain ⟨c0, c1, f1, hl, row'⟩ := h
  refine ⟨(World.cell?_of_block (a := ⟨rb, 0, none⟩) (hb rb (Nat.le_refl _))).trans c0, (World.cell?_of_block (a := ⟨rb, 1, none⟩) (hb rb (Nat.le_refl _))).trans c1, (World.frozen?_of_block (a := ⟨rb, 1, none⟩) (hb rb (Nat.le_refl _))).trans f1, hl, ?_⟩
  rcases row' with h0 | ⟨b, off, e, hlt', hrow⟩
  · exact .inl h0
  · exact .inr ⟨b, off, e, hlt', fun i hi => by
      obtain ⟨hz, h1, h2⟩ := hrow i hi
      exact ⟨(World.cell?_of_block (a := ⟨b, off + i, none⟩) (hb b (by show b ≤ rb; omega))).trans hz, h1, h2⟩⟩

theorem Rd.picked {w : World} {rb p : Nat} {a : Option Addr} {len cap : Nat} {zs : Nat → Int} (h : Rd w rb p a len cap zs) (q : Nat) : Rd ((w.setCell ⟨rb, 1, none⟩ (.int .i64 ((p : Int) + 1))).drewN q) rb (p + 1) a len cap zs ∧ w.grownBy ((w.setCell ⟨rb, 1, none⟩ (.int .i64 ((p : Int) + 1))).drewN q) (some rb) := by
  obtain ⟨c0, c1, f1, hl, row⟩ := h
  refine ⟨⟨?_, ?_, ?_, hl, ?_⟩, ?_⟩
  · show (w.setCell _ _).cell? _ = _
    rw [World.cell?_setCell_other _ _ _ _ (by simp)]; exact c0
  · show (w.setCell _ _).cell? _ = _
    rw [World.cell?_setCell_same' _ _ _ (by rw [c1]; rfl)]; simp
  · show (w.setCell _ _).frozen? _ = _
    rw [World.frozen?_setCell]; exact f1
  · rcases row with h0 | ⟨b, off, e, hlt', hrow⟩
    · exact .inl h0
    · refine .inr ⟨b, off, e, hlt', fun i hi => ?_⟩
      obtain ⟨hz, h1, h2⟩ := hrow i hi
      refine ⟨?_, h1, h2⟩
      show (w.setCell _ _).cell? _ = _
      rw [World.cell?_setCell_other _ _ _ _ (by simp)]; exact hz
  · have hg := grownBy_setCell' w rb (.int .i64 ((p : Int) + 1))
    exact ⟨rfl, rfl, rfl, by simp, fun k hk hne => Below.heap_setCell w ⟨rb, 1, none⟩ _ k (fun e => hne (by rw [e]))⟩

end Go.Proofs.Ytgbcgchnnmgmfaa.W
namespace Go.Proofs.Ytgbcgchnnmgmfaa.W
open Go.RowKit Go.Proofs.Ytgbcgchnnmgmfaa.M

theorem gtrans {a b c : World} {row : Option Nat} (h : a.grownBy b row) (k : b.grownBy c row) : a.grownBy c row :=
  ⟨k.os.trans h.os, k.tape.trans h.tape, k.output.trans h.output, Nat.le_trans h.size k.size, fun j hj hne => (k.block j (Nat.lt_of_lt_of_le hj h.size) hne).trans (h.block j hj hne)⟩
theorem gweak {a b : World} {row : Option Nat} (h : a.grownBy b none) : a.grownBy b row := ⟨h.os, h.tape, h.output, h.size, fun j hj _ => h.block j hj (by simp)⟩
theorem galloc (w : World) (o : Obj) {row : Option Nat} : w.grownBy (w.alloc o) row := gweak (World.grownBy_alloc w o none)
theorem Rd.alloc {w : World} {rb p : Nat} {a : Option Addr} {len cap : Nat} {zs : Nat → Int} (h : Rd w rb p a len cap zs) (hlt : rb < w.heap.size) (o : Obj) : Rd (w.alloc o) rb p a len cap zs :=
  h.kept (World.grownBy_alloc w o none) (fun _ e => by cases e) hlt
theorem Rd.drew {w : World} {rb p : Nat} {a : Option Addr} {len cap : Nat} {zs : Nat → Int} (h : Rd w rb p a len cap zs) : Rd w.drew rb p a len cap zs := ⟨h.c0, h.c1, h.f1, h.hl, h.row⟩
theorem Rd.drewN {w : World} {rb p : Nat} {a : Option Addr} {len cap : Nat} {zs : Nat → Int} (h : Rd w rb p a len cap zs) (n : Nat) : Rd (w.drewN n) rb p a len cap zs := ⟨h.c0, h.c1, h.f1, h.hl, h.row⟩
theorem gdrew {w w2 : World} {row : Option Nat} (h : w.drew.grownBy w2 row) : w.grownBy w2 row := ⟨h.os, h.tape, h.output, h.size, h.block⟩
theorem gdrew' (w : World) {row : Option Nat} : w.grownBy w.drew row := ⟨rfl, rfl, rfl, Nat.le_refl _, fun _ _ _ => rfl⟩
theorem cellKept {w w2 : World} {row : Option Nat} {g v : Nat} {x : Value} (hg : w.grownBy w2 row) (hc : w.cell? ⟨g, v, none⟩ = some x) (hlt : g < w.heap.size) (hne : some g ≠ row) : w2.cell? ⟨g, v, none⟩ = some x :=
  (World.cell?_of_block (a := ⟨g, v, none⟩) (hg.block g hlt hne)).trans hc
theorem litCell {w w2 : World} {rb : Nat} {cs : Array Value} {t : TypeId} (hg : (w.alloc (.cells cs t)).grownBy w2 (some rb)) (hlt : rb < w.heap.size) (v : Nat) : w2.cell? ⟨w.heap.size, v, none⟩ = cs[v]? := by
  have e := hg.block w.heap.size (by simp) (by simp; omega)
  exact (World.cell?_of_block (a := ⟨w.heap.size, v, none⟩) e).trans (by simp)

/-- what a draw of a text answers -/
def DrewS (w : World) (rb p k : Nat) (a : Option Addr) (len cap : Nat) (zs : Nat → Int) (e : Ending) (w' : World) : Prop :=
  ∃ (s : ByteArray) (p' : Nat), e = .returned (.string s) ∧ s.size ≤ 64 ∧ p' ≤ p + k ∧ Rd w' rb p' a len cap zs ∧ w.grownBy w' (some rb)




/-- the four texts that a path is picked from -/
theorem litFour {w w2 : World} {rb : Nat} {t : TypeId} (s1 s2 s3 : ByteArray) (hg : (w.alloc (.cells #[.string ⟨#[]⟩, .string s1, .string s2, .string s3] t)).grownBy w2 (some rb)) (hlt : rb < w.heap.size) (v : Nat) (hv : v < 4) (h1 : s1.size ≤ 64) (h2 : s2.size ≤ 64) (h3 : s3.size ≤ 64) :
    ∃ s : ByteArray, w2.cell? ⟨w.heap.size, v, none⟩ = some (.string s) ∧ s.size ≤ 64 := by
  rw [litCell hg hlt v]
  rcases (show v = 0 ∨ v = 1 ∨ v = 2 ∨ v = 3 from by omega) with rfl | rfl | rfl | rfl
  · exact ⟨_, rfl, by decide⟩
  · exact ⟨_, rfl, h1⟩
  · exact ⟨_, rfl, h2⟩
  · exact ⟨_, rfl, h3⟩

end Go.Proofs.Ytgbcgchnnmgmfaa.W
namespace Go.Proofs.Ytgbcgchnnmgmfaa.W
open Go.RowKit Go.Proofs.Ytgbcgchnnmgmfaa.M

/-- bytes that are there to be read -/
def Src (w : World) (a : Option Addr) (len cap : Nat) (zs : Nat → Int) : Prop :=
  len = 0 ∨ ∃ b off, a = some ⟨b, off, none⟩ ∧ len ≤ cap ∧ cap ≤ 9223372036854775807 ∧ b < w.heap.size ∧ ∀ i, i < len → w.cell? ⟨b, off + i, none⟩ = some (.int .u8 (zs i)) ∧ 0 ≤ zs i ∧ zs i ≤ 255

theorem Src.below {w w' : World} {a : Option Addr} {len cap : Nat} {zs : Nat → Int} (h : Src w a len cap zs) (hb : Below w.heap.size w w') : Src w' a len cap zs := by
  rcases h with h | ⟨b, off, e, h1, h2, h3, h4⟩
  · exact .inl h
  · refine .inr ⟨b, off, e, h1, h2, Nat.lt_of_lt_of_le h3 hb.size, fun i hi => ?_⟩
    obtain ⟨hz, hz0, hz1⟩ := h4 i hi
    exact ⟨(hb.cell (p := ⟨b, off + i, none⟩) h3).trans hz, hz0, hz1⟩

theorem cell_lt {w : World} {b o : Nat} {v : Value} (h : w.cell? ⟨b, o, none⟩ = some v) : b < w.heap.size := by
  rcases Nat.lt_or_ge b w.heap.size with h' | h'
  · exact h'
  · have : w.heap[b]? = none := Array.getElem?_eq_none h'
    simp [World.cell?, this] at h
theorem addN (b off i : Nat) : (⟨b, off, none⟩ : Addr).add i = ⟨b, off + i, none⟩ := by unfold Addr.add; split <;> simp_all
theorem src_of (w : World) (a : Option Addr) (len cap : Nat) (zs : List Int)
    (h : (a = none ∧ len = 0 ∧ cap = 0 ∧ zs = []) ∨ ∃ x, a = some x ∧ len ≤ cap ∧ cap ≤ maxLen ∧ zs.length = cap ∧ (∀ i, i < zs.length → w.cell? (x.add i) = some (.int .u8 (zs.getD i 0))) ∧ ∀ n ∈ zs, (Lit.int .u8 n).wf = true) :
    Src w a len cap (fun i => zs.getD i 0) := by
  rcases h with ⟨_, h0, _, _⟩ | ⟨x, rfl, hl, hm, hz, hcell, hwz⟩
  · exact .inl h0
  · by_cases h0 : len = 0
    · exact .inl h0
    · obtain ⟨b, off, spot⟩ := x
      have hc := hcell 0 (by omega)
      have hspot : spot = none := by simpa [Addr.add] using World.cell?_spot hc
      subst hspot
      have hc0 : w.cell? ⟨b, off, none⟩ = some (.int .u8 (zs.getD 0 0)) := by simpa [Addr.add] using hc
      refine .inr ⟨b, off, rfl, hl, hm, cell_lt hc0, fun i hi => ⟨?_, ?_⟩⟩
      · have := hcell i (by omega); rwa [addN] at this
      · have hmem : zs.getD i 0 ∈ zs := by
          rw [List.getD_eq_getElem?_getD, List.getElem?_eq_getElem (by omega)]; exact List.getElem_mem _
        have hw := hwz _ hmem
        exact bounds_u8 hw

end Go.Proofs.Ytgbcgchnnmgmfaa.W
