
/-
  The walks of the reader that the laws draw by: 'l20Open' and 'pick'. 'Rd': the reader lies in block rb, has come to place p, and reads bytes that are there. 'pick' answers a number below n.
-/
import Derived.Test.YtbceegonaomblaaBase
import Derived.Test.YtbceegonaomblaaMathId
import Derived.Below
import Derived.OwnWalk
import Derived.BigQuiet
import Derived.Deep.QuietTactic
import Derived.RangeFuncBox
import Derived.Laws.BitsAllLaws
namespace Go.Proofs.Ytbceegonaomblaa.W
open Go.RowKit Go.Proofs.Ytbceegonaomblaa.M

structure Rd (w : World) (rb p : Nat) (a : Option Addr) (len cap : Nat) (zs : Nat → Int) : Prop where
  c0 : w.cell? ⟨rb, 0, none⟩ = some (.slice a len cap)
  c1 : w.cell? ⟨rb, 1, none⟩ = some (.int .i64 p)
  f1 : w.frozen? ⟨rb, 1, none⟩ = false
  hl : len ≤ 2000
  row : len = 0 ∨ ∃ b off, a = some ⟨b, off, none⟩ ∧ b < rb ∧ ∀ i, i < len → w.cell? ⟨b, off + i, none⟩ = some (.int .u8 (zs i)) ∧ 0 ≤ zs i ∧ zs i ≤ 255

/-- the number that a reader picks -/
def pickV (zs : Nat → Int) (len p n : Nat) : Int :=
  if len = 0 then 0 else if p < len then zs p % (n : Int) else
    (bits BinOp.xor IntKind.i64 (zs (p % len) * 131 + zs ((p * 7 + 3) % len) * 1117 + (p : Int) * 29 + ((p / len : Nat) : Int) * 53) ((zs (p % len) * 131 + zs ((p * 7 + 3) % len) * 1117 + (p : Int) * 29 + ((p / len : Nat) : Int) * 53) / 64)).tmod (n : Int)
theorem xpick (X : Int) (n : Nat) (h0 : 0 ≤ X) (h1 : X < 4294967296) (hn : 1 ≤ n) :
    0 ≤ (bits BinOp.xor IntKind.i64 X (X / 64)).tmod (n : Int) ∧ (bits BinOp.xor IntKind.i64 X (X / 64)).tmod (n : Int) < n := by
  obtain ⟨x, rfl⟩ := Int.eq_ofNat_of_zero_le h0
  have e : ((x : Int) / 64) = ((x / 64 : Nat) : Int) := cast_div x 64
  rw [e, i64_xor_nat x (x / 64) (by omega) (by omega), Int.tmod_eq_emod_of_nonneg (by omega)]
  exact ⟨Int.emod_nonneg _ (by omega), Int.emod_lt_of_pos _ (by omega)⟩

set_option maxHeartbeats 1000000 in
theorem pick_raw (w : World) (rb p : Nat) (a : Option Addr) (len cap n : Nat) (zs : Nat → Int) (h : Rd w rb p a len cap zs) (hp : p ≤ 1000000) (hn : 1 ≤ n) (hn2 : n ≤ 1000000) :
    Calls Try.prog 43 #[.pointer (some ⟨rb, 0, none⟩), .int .i64 n] w fun e w' => e = .returned (.int .i64 (pickV zs len p n)) ∧ ∃ q, w' = (w.setCell ⟨rb, 1, none⟩ (.int .i64 ((p : Int) + 1))).drewN q := by
  obtain ⟨c0, c1, f1, hl, row⟩ := h
  rcases row with h0 | ⟨b, off, rfl, hb, row⟩
  · subst h0
    go_enter Try.func43, Try.ntmps43
    go_wp2
    go_ret
    exact ⟨ret_int (by simp [pickV]), 0, rfl⟩
  · have hne : b ≠ rb := by omega
    have ROW : Hid (∀ i, i < len → w.cell? ⟨b, off + i, none⟩ = some (.int .u8 (zs i)) ∧ 0 ≤ zs i ∧ zs i ≤ 255) := row
    clear row
    by_cases h0 : len = 0
    · subst h0
      go_enter Try.func43, Try.ntmps43
      go_wp2
      go_ret
      exact ⟨ret_int (by simp [pickV]), 0, rfl⟩
    · have hpos : 0 < len := by omega
      have h0' : ((len : Int) == 0) = false := by simp; omega
      by_cases hlt : p < len
      · obtain ⟨hz, hz0, hz1⟩ := ROW.out p hlt
        have HV : Hid (pickV zs len p n = zs p % (n : Int)) := by show pickV zs len p n = _; unfold pickV; rw [if_neg h0, if_pos hlt]
        go_enter Try.func43, Try.ntmps43
        go_wp2
        go_ret
        exact ⟨ret_int (by rw [HV.out]), 0, rfl⟩
      · have HV : Hid (pickV zs len p n = (bits BinOp.xor IntKind.i64 (zs (p % len) * 131 + zs ((p * 7 + 3) % len) * 1117 + (p : Int) * 29 + ((p / len : Nat) : Int) * 53) ((zs (p % len) * 131 + zs ((p * 7 + 3) % len) * 1117 + (p : Int) * 29 + ((p / len : Nat) : Int) * 53) / 64)).tmod (n : Int)) := by show pickV zs len p n = _; unfold pickV; rw [if_neg h0, if_neg hlt]
        obtain ⟨m1, hm1, hl1, e1⟩ : ∃ m1 : Nat, (p : Int) % (len : Int) = (m1 : Int) ∧ m1 < len ∧ Hid (p % len = m1) := ⟨p % len, by simp, Nat.mod_lt _ hpos, rfl⟩
        obtain ⟨m2, hm2, hl2, e2⟩ : ∃ m2 : Nat, ((p : Int) * 7 + 3) % (len : Int) = (m2 : Int) ∧ m2 < len ∧ Hid ((p * 7 + 3) % len = m2) := ⟨(p * 7 + 3) % len, by simp, Nat.mod_lt _ hpos, rfl⟩
        obtain ⟨m3, hm3, hl3, e3⟩ : ∃ m3 : Nat, (p : Int) / (len : Int) = (m3 : Int) ∧ m3 ≤ p ∧ Hid (p / len = m3) := ⟨p / len, by simp, Nat.div_le_self _ _, rfl⟩
        obtain ⟨hz, hz0, hz1⟩ := ROW.out m1 hl1
        obtain ⟨hy, hy0, hy1⟩ := ROW.out m2 hl2
        clear ROW
        go_enter Try.func43, Try.ntmps43
        go_wp2
        go_quiet (fail)
        go_wp2
        go_ret
        exact ⟨ret_int (by rw [HV.out, e1.out, e2.out, e3.out]), _, rfl⟩

theorem pickV_bd {w : World} {rb p : Nat} {a : Option Addr} {len cap : Nat} {zs : Nat → Int} (h : Rd w rb p a len cap zs) (n : Nat) (hp : p ≤ 1000000) (hn : 1 ≤ n) : ∃ v : Nat, v < n ∧ pickV zs len p n = (v : Int) := by
  have key : 0 ≤ pickV zs len p n ∧ pickV zs len p n < n := by
    unfold pickV
    by_cases h0 : len = 0
    · rw [if_pos h0]; omega
    · rw [if_neg h0]
      rcases h.row with h1 | ⟨b, off, _, _, hr⟩
      · exact absurd h1 h0
      · by_cases hlt : p < len
        · rw [if_pos hlt]; exact ⟨Int.emod_nonneg _ (by omega), Int.emod_lt_of_pos _ (by omega)⟩
        · rw [if_neg hlt]
          have hpos : 0 < len := by omega
          obtain ⟨_, hz0, hz1⟩ := hr (p % len) (Nat.mod_lt _ hpos)
          obtain ⟨_, hy0, hy1⟩ := hr ((p * 7 + 3) % len) (Nat.mod_lt _ hpos)
          have hl3 : p / len ≤ p := Nat.div_le_self _ _
          generalize p / len = m3 at hl3 ⊢
          exact xpick _ n (by omega) (by omega) hn
  exact ⟨(pickV zs len p n).toNat, by omega, by omega⟩

theorem Rd.kept {w w' : World} {rb p : Nat} {a : Option Addr} {len cap : Nat} {zs : Nat → Int} {row : Option Nat} (h : Rd w rb p a len cap zs) (hg : w.grownBy w' row) (hr : ∀ r, row = some r → rb < r) (hlt : rb < w.heap.size) : Rd w' rb p a len cap zs := by
  have hb : ∀ k, k ≤ rb → w'.heap[k]? = w.heap[k]? := fun k hk => hg.block k (by omega) (fun e => by have := hr k e.symm; omega)
  obtain ⟨c0, c1, f1, hl, row'⟩ := h
  refine ⟨(World.cell?_of_block (a := ⟨rb, 0, none⟩) (hb rb (Nat.le_refl _))).trans c0, (World.cell?_of_block (a := ⟨rb, 1, none⟩) (hb rb (Nat.le_refl _))).trans c1, (World.frozen?_of_block (a := ⟨rb, 1, none⟩) (hb rb (Nat.le_refl _))).trans f1, hl, ?_⟩
  rcases row' with h0 | ⟨b, off, e, hlt', hrow⟩
  · exact .inl h0
  · exact .inr ⟨b, off, e, hlt', fun i hi => by
      obtain ⟨hz, h1, h2⟩ := hrow i hi
      exact ⟨(World.cell?_of_block (a := ⟨b, off + i, none⟩) (hb b (by show b ≤ rb; omega))).trans hz, h1, h2⟩⟩

theorem Rd.picked {w : World} {rb p : Nat} {a : Option Addr} {len cap : Nat} {zs : Nat → Int} (h : Rd w rb p a len cap zs) (q : Nat) : Rd ((w.setCell ⟨rb, 1, none⟩ (.int .i64 ((p : Int) + 1))).drewN q) rb (p + 1) a len cap zs ∧ w.grownBy ((w.setCell ⟨rb, 1, none⟩ (.int .i64 ((p : Int) + 1))).drewN q) (some rb) := by
  obtain ⟨c0, c1, f1, hl, row⟩ := h
  refine ⟨⟨?_, ?_, ?_, hl, ?_⟩, ?_⟩
  · show (w.setCell _ _).cell? _ = _
    rw [World.cell?_setCell_other _ _ _ _ (by simp)]; exact c0
  · show (w.setCell _ _).cell? _ = _
    rw [World.cell?_setCell_same' _ _ _ (by rw [c1]; rfl)]; simp
  · show (w.setCell _ _).frozen? _ = _
    rw [World.frozen?_setCell]; exact f1
  · rcases row with h0 | ⟨b, off, e, hlt', hrow⟩
    · exact .inl h0
    · refine .inr ⟨b, off, e, hlt', fun i hi => ?_⟩
      obtain ⟨hz, h1, h2⟩ := hrow i hi
      refine ⟨?_, h1, h2⟩
      show (w.setCell _ _).cell? _ = _
      rw [World.cell?_setCell_other _ _ _ _ (by simp)]; exact hz
  · have hg := grownBy_setCell' w rb (.int .i64 ((p : Int) + 1))
    exact ⟨rfl, rfl, rfl, by simp, fun k hk hne => Below.heap_setCell w ⟨rb, 1, none⟩ _ k (fun e => hne (by rw [e]))⟩

theorem pick_det (w : World) (rb p : Nat) (a : Option Addr) (len cap n : Nat) (zs : Nat → Int) (h : Rd w rb p a len cap zs) (hp : p ≤ 1000000) (hn : 1 ≤ n) (hn2 : n ≤ 1000000) :
    Calls Try.prog 43 #[.pointer (some ⟨rb, 0, none⟩), .int .i64 n] w fun e w' => e = .returned (.int .i64 (pickV zs len p n)) ∧ Rd w' rb (p + 1) a len cap zs ∧ w.grownBy w' (some rb) := by
  refine (pick_raw w rb p a len cap n zs h hp hn hn2).mono ?_
  rintro e w' ⟨rfl, q, rfl⟩
  exact ⟨rfl, (h.picked q).1, (h.picked q).2⟩
theorem pick_any (w : World) (rb p : Nat) (a : Option Addr) (len cap n : Nat) (zs : Nat → Int) (h : Rd w rb p a len cap zs) (hp : p ≤ 1000000) (hn : 1 ≤ n) (hn2 : n ≤ 1000000) :
    Calls Try.prog 43 #[.pointer (some ⟨rb, 0, none⟩), .int .i64 n] w fun e w' => ∃ v : Nat, v < n ∧ e = .returned (.int .i64 v) ∧ Rd w' rb (p + 1) a len cap zs ∧ w.grownBy w' (some rb) := by
  obtain ⟨v, hv, he⟩ := pickV_bd h n hp hn
  refine (pick_det w rb p a len cap n zs h hp hn hn2).mono ?_
  rintro e w' ⟨rfl, h1, h2⟩
  exact ⟨v, hv, ret_int he, h1, h2⟩
end Go.Proofs.Ytbceegonaomblaa.W
