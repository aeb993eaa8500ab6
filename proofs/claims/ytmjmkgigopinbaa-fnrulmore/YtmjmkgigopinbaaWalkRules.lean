
/-
  The walk of the draw of rules: some rules, at most eight, their texts of at most 64 bytes, in memory of their own; the reader has gone on, and of what lay nothing but the reader has turned.
-/
import Derived.Test.YtmjmkgigopinbaaWalkRule3
import Derived.Test.YtmjmkgigopinbaaWalkRulQ
namespace Go.Proofs.Ytmjmkgigopinbaa.W
open Go.RowKit Go.Proofs.Ytmjmkgigopinbaa.M

theorem belowG {w w' : World} (h : Below w.heap.size w w') {row : Option Nat} : w.grownBy w' row := ⟨h.os, h.tape, h.output, h.size, fun j hj _ => h.block j hj⟩
theorem Rd.below {w w' : World} {rb p : Nat} {a : Option Addr} {len cap : Nat} {zs : Nat → Int} (h : Rd w rb p a len cap zs) (hb : Below w.heap.size w w') (hlt : rb < w.heap.size) : Rd w' rb p a len cap zs :=
  h.kept (belowG (row := none) hb) (fun _ e => by cases e) hlt
theorem ownsRd {w w' : World} {rb b z n : Nat} {e : TypeId} {v : Value} {xs : List Value} (o : w.ownsRow b e z v n xs) (hb : rb < b) (hg : w.grownBy w' (some rb)) : w'.ownsRow b e z v n xs := by
  refine o.kept hg ?_
  cases h : v.ownBlock with
  | none => exact .inl rfl
  | some k => exact .inr fun e => by cases e; have := (o.lt _ h).1; omega
theorem growRd {w w' : World} {rb b z n : Nat} {a : World} {e : TypeId} {v : Value} {xs : List Value} (o : w.ownsRow b e z v n xs) (hb : a.heap.size ≤ b) (h : a.grownBy w (some rb)) (hg : w.grownBy w' v.ownBlock) : a.grownBy w' (some rb) :=
  ⟨hg.os.trans h.os, hg.tape.trans h.tape, hg.output.trans h.output, Nat.le_trans h.size hg.size, fun j hj hne => (hg.block j (Nat.lt_of_lt_of_le hj h.size) (fun e => by have := (o.lt j e.symm).1; omega)).trans (h.block j hj hne)⟩
theorem rdGrow {w w' : World} {rb p b z n : Nat} {ad : Option Addr} {len cap : Nat} {zs : Nat → Int} {e : TypeId} {v : Value} {xs : List Value} (h : Rd w rb p ad len cap zs) (o : w.ownsRow b e z v n xs) (hb : rb < b) (hg : w.grownBy w' v.ownBlock) (hlt : rb < w.heap.size) : Rd w' rb p ad len cap zs :=
  h.kept hg (fun r e => by have := (o.lt r e).1; omega) hlt
theorem owns_ne {w : World} {b z n : Nat} {e : TypeId} {v : Value} {xs : List Value} (o : w.ownsRow b e z v n xs) (hn : 0 < n) : v ≠ .slice none 0 0 := by
  rintro rfl
  rcases o.2 with ⟨_, h0⟩ | ⟨g, cap, cur, h, _⟩
  · omega
  · cases h
/-- texts of at most 64 bytes -/
def SmR (L : List RR) : Prop := ∀ x ∈ L, x.ref.size ≤ 64 ∧ x.path.size ≤ 64
theorem SmR.at {L : List RR} (h : SmR L) : ∀ j (hj : j < L.length), (L[j]).ref.size ≤ 1048576 ∧ (L[j]).path.size ≤ 1048576 := fun j hj => by
  have := h _ (List.getElem_mem hj); omega
theorem SmR.snoc {L : List RR} {x : RR} (h : SmR L) (h1 : x.ref.size ≤ 64) (h2 : x.path.size ≤ 64) : SmR (L ++ [x]) := fun y hy => by
  rcases List.mem_append.1 hy with hy | hy
  · exact h y hy
  · rw [List.mem_singleton] at hy; subst hy; exact ⟨h1, h2⟩

set_option maxRecDepth 100000 in
set_option maxHeartbeats 2000000 in
theorem rules_any (w : World) (rb n : Nat) (p : Nat) (ad : Option Addr) (len cap : Nat) (zs : Nat → Int) (h : Rd w rb p ad len cap zs) (hp : p ≤ 700000) (hlt : rb < w.heap.size) (hn : 1 ≤ n) (hn2 : n ≤ 1000000) :
    Calls Try.prog 28 #[.pointer (some ⟨rb, 0, none⟩), .int .i64 n] w fun e w' => ∃ (v : Value) (L : List RR) (p' : Nat), e = .returned v ∧ v ≠ .slice none 0 0 ∧ L.length ≤ 8 ∧ SmR L ∧ w'.ownsRow w.heap.size 32 4 v L.length (cellsR L) ∧ p' ≤ p + 300 ∧ Rd w' rb p' ad len cap zs ∧ w.grownBy w' (some rb) := by
  obtain ⟨i0, hi, hz0, hz1, hz2⟩ := info_parts infoR
  have HR : Hid (Rd w rb p ad len cap zs) := h
  clear h
  have hown0 : (w.alloc (.cells #[] 32)).ownsRow w.heap.size 32 4 (.slice (some ⟨w.heap.size, 0, none⟩) 0 0) 0 [] := by simpa using World.ownsRow_lit (base := w.heap.size) (e := 32) (size := 4) w #[] 0 (Nat.le_refl _) (by unfold maxLen; omega) rfl
  go_enter Try.func28, Try.ntmps28
  go_wp2_with (go_at_call 29; refine (pick_any _ rb p ad len cap 7 zs (HR.out.alloc hlt _) (by omega) (by omega) (by omega)).mono ?_; rintro e w1 ⟨k0, hk0, rfl, hR1, hg1⟩; clear HR; have hs1 := hg1.size; have hown1 := ownsRd hown0 hlt hg1)
  go_loopw [5, 6] (fun v kv wr => ∃ (k q : Nat) (L : List RR), kv = .int .i64 k ∧ k + L.length ≤ 6 ∧ q + 30 * k ≤ p + 200 ∧ v ≠ .slice none 0 0 ∧ Hid (SmR L) ∧ Hid (wr.ownsRow w.heap.size 32 4 v L.length (cellsR L)) ∧ Hid (Rd wr rb q ad len cap zs) ∧ Hid (w.grownBy wr (some rb))) (fun _ k _ => (intOf k).toNat)
  case atStart => exact ⟨k0, p + 1, [], rfl, by simp; omega, by omega, by simp, (fun x hx => by cases hx), hown1, hR1, gtrans (galloc _ _) hg1⟩
  case round =>
    obtain ⟨k, q, L, rfl, hk, hq, hv, HS, HO, HR, HG⟩ := hrel
    have hsz := HG.out.size
    by_cases hpos : 0 < k
    · have _t := trivial
      go_wp2_with (first | (go_at_call 38; refine (rule_any wr rb 99 q ad len cap zs HR.out (by omega) (by omega) (by omega) (by omega)).mono ?_; rintro e w2 ⟨x, q2, rfl, u1, u2, x1, x2, hq2, hR2, hg2⟩; have hs2 := hg2.size; have hO2 := ownsRd HO.out hlt hg2; clear HR HO) | (go_at_call 16; refine (rulPutS_own _ L x w2 hv hO2 (by omega) HS.out.at (by omega) (by omega)).mono ?_; rintro e w3 ⟨⟨v3, rfl, hO3⟩, hb3⟩; have hR3 := hR2.below hb3 (by omega); have hG3 := gtrans (gtrans HG.out hg2) (belowG hb3); have hL3 := ownsUnder hO2 hb3 (Nat.le_refl _); clear hO2 HG; cases hq3 : putB L x))
      · go_wp2
        go_roundw
        case rel => exact ⟨k - 1, q2, L, by go_num, by omega, by omega, hv, HS, hL3, hR3, hG3⟩
        case measure => simp [intOf]; omega
      · rw [putR_yes hq3] at hO3
        go_wp2
        go_roundw
        case rel => exact ⟨k - 1, q2, L ++ [x], by go_num, by simp; omega, by omega, owns_ne hO3 (by simp), HS.out.snoc x1 x2, ownsDown hO3 (by omega), hR3, hG3⟩
        case measure => simp [intOf]; omega
    · obtain rfl : k = 0 := by omega
      go_wp2_with (first | (go_at_call 29; refine (pick_any wr rb q ad len cap n zs HR.out (by omega) (by omega) (by omega)).mono ?_; rintro e w2 ⟨v2, hv2, rfl, hR2, hg2⟩; have hs2 := hg2.size; have hO2 := ownsRd HO.out hlt hg2; have hG2 := gtrans HG.out hg2; clear HR HO HG) | (go_at_call 38; refine (rule_any w2 rb 2 (q + 1) ad len cap zs hR2 (by omega) (by omega) (by omega) (by omega)).mono ?_; rintro e w3 ⟨x, q3, rfl, u1, u2, x1, x2, hq3, hR3, hg3⟩; have hs3 := hg3.size; have hO3 := ownsRd hO2 hlt hg3; have hG3 := gtrans hG2 hg3; have hM := HS.out.snoc x1 x2; clear hR2 hO2) | (at_builtin; refine wpList_append_own _ rfl _ _ 23 rfl w.heap.size 32 i0 (.agg #[.int .i64 0, .string ByteArray.empty, .string ByteArray.empty, .bool false]) 4 48 Try.underlying23 hi hz0 hz1 hz2 rfl (by decide) _ _ _ rfl (hO3.alloc _) ⟨w3.heap.size, 0, none⟩ 1 1 [.int .i64 x.user, .string x.ref, .string x.path, .bool x.write] rfl rfl (cells_new _ #[.int .i64 x.user, .string x.ref, .string x.path, .bool x.write] _) (fun u hu => by simp at hu; rcases hu with rfl | rfl | rfl | rfl <;> rfl) (by unfold maxLen; omega) (by first | omega | (simp; omega)) (by simp; omega) ?_; intro v4 w4 hO4 hg4 _; have hR4 := rdGrow (hR3.alloc (by omega) _) (hO3.alloc _) hlt hg4 (by simp; omega); have hG4 := growRd (hO3.alloc _) (Nat.le_refl _) (gtrans hG3 (galloc _ _)) hg4; have hs4 := hG4.size; rw [← cellsR_snoc] at hO4; clear hO3 hR3 hg4) | (go_at_call 29; refine (pick_any w4 rb q3 ad len cap 2 zs hR4 (by omega) (by omega) (by omega)).mono ?_; rintro e w5 ⟨v5, hv5, rfl, hR5, hg5⟩; have hs5 := hg5.size; have hG5 := gtrans hG4 hg5; have hO5 : w5.ownsRow w.heap.size 32 4 v4 (L ++ [x]).length (cellsR (L ++ [x])) := (by rw [List.length_append]; exact ownsRd hO4 hlt hg5); clear hR4 hO4; obtain ⟨A5, c5, rfl, rd5⟩ := rdR_of_own hO5; obtain ⟨y, hy⟩ : ∃ y, (L ++ [x])[0]'(by simp) = y := ⟨_, rfl⟩; have hy1 := hM y (hy ▸ List.getElem_mem _); obtain ⟨b5, o5, rfl, hbl5, c51, c52, c53, c54⟩ := rd5 0 (by simp); rw [hy] at c51 c52 c53 c54; simp only [Nat.zero_mul, Nat.add_zero] at c51 c52 c53 c54; clear rd5 hy; simp only [List.length_append, List.length_cons, List.length_nil, Nat.zero_add] at hO5) | (at_builtin; refine wpList_append_own _ rfl _ _ 23 rfl w.heap.size 32 i0 (.agg #[.int .i64 0, .string ByteArray.empty, .string ByteArray.empty, .bool false]) 4 48 Try.underlying23 hi hz0 hz1 hz2 rfl (by decide) _ _ _ rfl (hO5.alloc _) ⟨w5.heap.size, 0, none⟩ 1 1 [.int .i64 y.user, .string y.ref, .string y.path, .bool y.write] rfl rfl (cells_new _ #[.int .i64 y.user, .string y.ref, .string y.path, .bool y.write] _) (fun u hu => by simp at hu; rcases hu with rfl | rfl | rfl | rfl <;> rfl) (by unfold maxLen; omega) (by first | omega | (simp; omega)) (by simp; omega) ?_; intro v6 w6 hO6 hg6 _; have hR6 := rdGrow (hR5.alloc (by omega) _) (hO5.alloc _) hlt hg6 (by simp; omega); have hG6 := growRd (hO5.alloc _) (Nat.le_refl _) (gtrans hG5 (galloc _ _)) hg6; rw [← cellsR_snoc] at hO6; have hM6 := hM.snoc hy1.1 hy1.2; clear hO5 hR5 hg6))
      · go_ret
        exact ⟨_, L ++ [x] ++ [y], q3 + 1, rfl, owns_ne hO6 (by simp), by simp; omega, hM6, by simpa using hO6, by omega, hR6, hG6⟩
      · go_ret
        exact ⟨_, L ++ [x], q3 + 1, rfl, by simp, by simp; omega, hM, by simpa using hO5, by omega, hR5, hG5⟩
      · go_ret
        exact ⟨_, L, q + 1, rfl, hv, by omega, HS.out, hO2, by omega, hR2, hG2⟩
end Go.Proofs.Ytmjmkgigopinbaa.W
