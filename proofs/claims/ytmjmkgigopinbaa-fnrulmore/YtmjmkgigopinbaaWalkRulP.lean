
/-
  The rules with one more; the walks of RulPut of the specification and of the program. At most 1048576 rules, texts of at most 1048576 bytes.
-/
import Derived.Test.YtmjmkgigopinbaaWalkRulL
import Derived.Test.YtmjmkgigopinbaaWalkRulC
import Derived.Test.YtmjmkgigopinbaaWalkRulO
import Derived.Test.YtmjmkgigopinbaaWalkCatR
namespace Go.Proofs.Ytmjmkgigopinbaa.W
open Go.RowKit Go.Proofs.Ytmjmkgigopinbaa.M

/-- one rule more may be put -/
def putB (L : List RR) (r : RR) : Bool := okR L && (rulB r && (!(decide (L.length = 6)) && !(L.any fun x => eqR x r)))
def putR (L : List RR) (r : RR) : List RR := if putB L r = true then L ++ [r] else L
theorem putR_yes {L : List RR} {r : RR} (h : putB L r = true) : putR L r = L ++ [r] := if_pos h
theorem putR_no {L : List RR} {r : RR} (h : putB L r = false) : putR L r = L := if_neg (by rw [h]; decide)
theorem putR_len (L : List RR) (r : RR) : (putR L r).length ≤ L.length + 1 := by unfold putR; split <;> simp
theorem gR_left (L : List RR) (r : RR) (i : Nat) (h : i < L.length) : gR (L ++ [r]) i = gR L i := by
  rw [gR_at (L ++ [r]) i (by simp; omega), gR_at L i h, List.getElem_append_left h, List.take_append_of_le_length (by omega)]
theorem gR_last (L : List RR) (r : RR) : gR (L ++ [r]) L.length = (rulB r && !(L.any fun y => eqR y r)) := by
  rw [gR_at _ _ (by simp)]; simp
theorem okR_snoc (L : List RR) (r : RR) : okR (L ++ [r]) = putB L r := by
  have e : (List.range L.length).all (gR (L ++ [r])) = (List.range L.length).all (gR L) := by
    rw [Bool.eq_iff_iff, List.all_eq_true, List.all_eq_true]
    constructor
    · intro h x hx; have := h x hx; rwa [gR_left L r x (List.mem_range.1 hx)] at this
    · intro h x hx; rw [gR_left L r x (List.mem_range.1 hx)]; exact h x hx
  unfold okR putB okR
  rw [List.length_append, List.length_singleton, List.range_succ, List.all_append, e]
  simp only [List.all_cons, List.all_nil, Bool.and_true, gR_last]
  by_cases h6 : L.length + 1 ≤ 6
  · rw [decide_eq_true h6, decide_eq_true (show L.length ≤ 6 by omega), decide_eq_false (show ¬ L.length = 6 by omega)]
    simp
  · rw [decide_eq_false h6]
    by_cases h7 : L.length = 6
    · rw [decide_eq_true h7]; simp
    · rw [decide_eq_false (show ¬ L.length ≤ 6 by omega)]; simp
theorem bL (L : List RR) (r : RR) (h : okR L = false) : putB L r = false := by unfold putB; rw [h]; rfl
theorem bO (L : List RR) (r : RR) (h : rulB r = false) : putB L r = false := by unfold putB; rw [h]; simp
theorem b6 (L : List RR) (r : RR) (h : L.length = 6) : putB L r = false := by unfold putB; rw [decide_eq_true h]; simp
theorem bS (L : List RR) (r : RR) (h : (L.any fun x => eqR x r) = true) : putB L r = false := by unfold putB; rw [h]; simp
theorem bY (L : List RR) (r : RR) (h0 : okR L = true) (h1 : rulB r = true) (h2 : ¬ L.length = 6) (h3 : (L.any fun x => eqR x r) = false) : putB L r = true := by unfold putB; rw [h0, h1, h3, decide_eq_false h2]; rfl

set_option maxRecDepth 100000 in
set_option maxHeartbeats 1000000 in
theorem rulPut_spec (b o c : Nat) (L : List RR) (r : RR) (w : World) (hL : RdR w.heap.size w (some ⟨b, o, none⟩) L) (hn : L.length ≤ 1048576) (hc : L.length ≤ c) (ht : ∀ j (h : j < L.length), (L[j]).ref.size ≤ 1048576 ∧ (L[j]).path.size ≤ 1048576) (hrr : r.ref.size ≤ 1048576) (hrp : r.path.size ≤ 1048576) :
    Calls Try.prog 16 #[.slice (some ⟨b, o, none⟩) L.length c, .agg #[.int .i64 r.user, .string r.ref, .string r.path, .bool r.write]] w fun e w' => (∃ v, e = .returned (.tuple #[v, .bool (putB L r)]) ∧ w'.ownsRow w.heap.size 32 4 v (putR L r).length (cellsR (putR L r))) ∧ Below w.heap.size w w' := by
  have HL : Hid (RdR w.heap.size w (some ⟨b, o, none⟩) L) := hL
  have HT : Hid (∀ j (h : j < L.length), (L[j]).ref.size ≤ 1048576 ∧ (L[j]).path.size ≤ 1048576) := ht
  have HC : Hid (∀ j u, (cellsR L)[j]? = some u → (((w.alloc (.cells #[.int .i64 r.user, .string r.ref, .string r.path, .bool r.write] 32)).alloc (.cells #[] 32))).cell? ((⟨b, o, none⟩ : Addr).add j) = some u) := rdR_cells (hL.below (((Below.refl _ w).alloc (Nat.le_refl _) _).alloc (by simp) _) (Nat.le_refl _))
  have O0 : ((w.alloc (.cells #[.int .i64 r.user, .string r.ref, .string r.path, .bool r.write] 32)).alloc (.cells #[] 32)).ownsRow (w.heap.size + 1) 32 4 (.slice (some ⟨w.heap.size + 1, 0, none⟩) 0 0) 0 [] := by simpa using World.ownsRow_lit (base := w.heap.size + 1) (w.alloc (.cells #[.int .i64 r.user, .string r.ref, .string r.path, .bool r.write] 32)) #[] 0 (by simp) (by unfold maxLen; omega) rfl
  obtain ⟨i0, hi, hz0, hz1, hz2⟩ := info_parts infoR
  clear hL ht
  cases q0 : okR L
  · rw [putR_no (bL L r q0), bL L r q0]
    have E0 : Hid (okR L = false) := q0
    clear q0
    go_enter Try.func16, Try.ntmps16
    go_wp2_with (first | (at_builtin; refine wpList_append_own _ rfl _ _ 23 rfl (w.heap.size + 1) 32 i0 (.agg #[.int .i64 0, .string ByteArray.empty, .string ByteArray.empty, .bool false]) 4 48 Try.underlying23 hi hz0 hz1 hz2 rfl (by decide) _ _ _ rfl O0 ⟨b, o, none⟩ L.length c (cellsR L) rfl (cellsR_length L) HC.out (cellsR_one L) (by unfold maxLen; omega) (by omega) (by simp) ?_; intro v1 w1 o1 g1 hnil1; have B1 : Below (w.heap.size + 1) (w.alloc (.cells #[.int .i64 r.user, .string r.ref, .string r.path, .bool r.write] 32)) w1 := growOwn ((Below.refl _ _).alloc (by simp) _) (by simp) O0 g1 (Nat.le_refl _); have z1 := B1.size; simp only [World.size_alloc] at z1; have B := ((Below.refl _ w).alloc (Nat.le_refl _) _).trans (B1.mono (by omega)); have D := (atR_new w r 32).below B1 (Nat.lt_succ_self _); obtain ⟨d0, d1, d2, d3⟩ := id D; clear B1 g1 hnil1 O0) | (go_at_call 23; refine (rulListOk_spec (some ⟨b, o, none⟩) c L _ (HL.out.up B) hn hc HT.out).mono ?_; rw [E0.out]; rintro e w2 ⟨rfl, hb⟩; clear d0 d1 d2 d3; replace o1 := ownsUnder o1 hb (Nat.le_refl _); replace D := D.up hb; obtain ⟨d0, d1, d2, d3⟩ := id D; replace B := B.trans (hb.mono B.size); clear hb))
    obtain ⟨A1, c1, rfl, _⟩ := rdR_of_own (L := L) (by simpa only [Nat.zero_add, List.nil_append] using o1)
    refine bodyPost_ret (v := .tuple #[.slice A1 L.length c1, .bool false]) (by simp [results, Try.results16, go_sem]) rfl ?_
    exact ⟨⟨_, rfl, ownsDown (by simpa only [Nat.zero_add, List.nil_append] using o1) (by omega)⟩, B⟩
  have E0 : Hid (okR L = true) := q0
  cases q1 : rulB r
  · rw [putR_no (bO L r q1), bO L r q1]
    have E1 : Hid (rulB r = false) := q1
    clear q0 q1
    go_enter Try.func16, Try.ntmps16
    go_wp2_with (first | (at_builtin; refine wpList_append_own _ rfl _ _ 23 rfl (w.heap.size + 1) 32 i0 (.agg #[.int .i64 0, .string ByteArray.empty, .string ByteArray.empty, .bool false]) 4 48 Try.underlying23 hi hz0 hz1 hz2 rfl (by decide) _ _ _ rfl O0 ⟨b, o, none⟩ L.length c (cellsR L) rfl (cellsR_length L) HC.out (cellsR_one L) (by unfold maxLen; omega) (by omega) (by simp) ?_; intro v1 w1 o1 g1 hnil1; have B1 : Below (w.heap.size + 1) (w.alloc (.cells #[.int .i64 r.user, .string r.ref, .string r.path, .bool r.write] 32)) w1 := growOwn ((Below.refl _ _).alloc (by simp) _) (by simp) O0 g1 (Nat.le_refl _); have z1 := B1.size; simp only [World.size_alloc] at z1; have B := ((Below.refl _ w).alloc (Nat.le_refl _) _).trans (B1.mono (by omega)); have D := (atR_new w r 32).below B1 (Nat.lt_succ_self _); obtain ⟨d0, d1, d2, d3⟩ := id D; clear B1 g1 hnil1 O0) | (go_at_call 23; refine (rulListOk_spec (some ⟨b, o, none⟩) c L _ (HL.out.up B) hn hc HT.out).mono ?_; rw [E0.out]; rintro e w2 ⟨rfl, hb⟩; clear d0 d1 d2 d3; replace o1 := ownsUnder o1 hb (Nat.le_refl _); replace D := D.up hb; obtain ⟨d0, d1, d2, d3⟩ := id D; replace B := B.trans (hb.mono B.size); clear hb) | (go_at_call 40; refine (rulOk_spec r _ hrr hrp).mono ?_; rw [E1.out]; rintro e w3 ⟨rfl, hb⟩; clear d0 d1 d2 d3; replace o1 := ownsUnder o1 hb (Nat.le_refl _); replace D := D.up hb; obtain ⟨d0, d1, d2, d3⟩ := id D; replace B := B.trans (hb.mono B.size); clear hb))
    obtain ⟨A1, c1, rfl, _⟩ := rdR_of_own (L := L) (by simpa only [Nat.zero_add, List.nil_append] using o1)
    refine bodyPost_ret (v := .tuple #[.slice A1 L.length c1, .bool false]) (by simp [results, Try.results16, go_sem]) rfl ?_
    exact ⟨⟨_, rfl, ownsDown (by simpa only [Nat.zero_add, List.nil_append] using o1) (by omega)⟩, B⟩
  have E1 : Hid (rulB r = true) := q1
  by_cases q2 : L.length = 6
  · rw [putR_no (b6 L r q2), b6 L r q2]
    have q2' : ((L.length : Int) == 6) = true := by rw [beq_iff_eq]; omega
    have hn6 : L.length ≤ 7 := by omega
    clear q0 q1 q2
    go_enter Try.func16, Try.ntmps16
    go_wp2_with (first | (at_builtin; refine wpList_append_own _ rfl _ _ 23 rfl (w.heap.size + 1) 32 i0 (.agg #[.int .i64 0, .string ByteArray.empty, .string ByteArray.empty, .bool false]) 4 48 Try.underlying23 hi hz0 hz1 hz2 rfl (by decide) _ _ _ rfl O0 ⟨b, o, none⟩ L.length c (cellsR L) rfl (cellsR_length L) HC.out (cellsR_one L) (by unfold maxLen; omega) (by omega) (by simp) ?_; intro v1 w1 o1 g1 hnil1; have B1 : Below (w.heap.size + 1) (w.alloc (.cells #[.int .i64 r.user, .string r.ref, .string r.path, .bool r.write] 32)) w1 := growOwn ((Below.refl _ _).alloc (by simp) _) (by simp) O0 g1 (Nat.le_refl _); have z1 := B1.size; simp only [World.size_alloc] at z1; have B := ((Below.refl _ w).alloc (Nat.le_refl _) _).trans (B1.mono (by omega)); have D := (atR_new w r 32).below B1 (Nat.lt_succ_self _); obtain ⟨d0, d1, d2, d3⟩ := id D; clear B1 g1 hnil1 O0) | (go_at_call 23; refine (rulListOk_spec (some ⟨b, o, none⟩) c L _ (HL.out.up B) hn hc HT.out).mono ?_; rw [E0.out]; rintro e w2 ⟨rfl, hb⟩; clear d0 d1 d2 d3; replace o1 := ownsUnder o1 hb (Nat.le_refl _); replace D := D.up hb; obtain ⟨d0, d1, d2, d3⟩ := id D; replace B := B.trans (hb.mono B.size); clear hb) | (go_at_call 40; refine (rulOk_spec r _ hrr hrp).mono ?_; rw [E1.out]; rintro e w3 ⟨rfl, hb⟩; clear d0 d1 d2 d3; replace o1 := ownsUnder o1 hb (Nat.le_refl _); replace D := D.up hb; obtain ⟨d0, d1, d2, d3⟩ := id D; replace B := B.trans (hb.mono B.size); clear hb))
    obtain ⟨A1, c1, rfl, _⟩ := rdR_of_own (L := L) (by simpa only [Nat.zero_add, List.nil_append] using o1)
    refine bodyPost_ret (v := .tuple #[.slice A1 L.length c1, .bool false]) (by simp [results, Try.results16, go_sem]) rfl ?_
    exact ⟨⟨_, rfl, ownsDown (by simpa only [Nat.zero_add, List.nil_append] using o1) (by omega)⟩, B⟩
  cases q3 : (L.any fun x => eqR x r)
  · rw [putR_yes (bY L r q0 q1 q2 q3), bY L r q0 q1 q2 q3]
    have E3 : Hid ((L.any fun x => eqR x r) = false) := q3
    have q2' : ((L.length : Int) == 6) = false := by rw [beq_eq_false_iff_ne]; omega
    clear q0 q1 q3
    go_enter Try.func16, Try.ntmps16
    go_wp2_with (first | (at_builtin; refine wpList_append_own _ rfl _ _ 23 rfl (w.heap.size + 1) 32 i0 (.agg #[.int .i64 0, .string ByteArray.empty, .string ByteArray.empty, .bool false]) 4 48 Try.underlying23 hi hz0 hz1 hz2 rfl (by decide) _ _ _ rfl O0 ⟨b, o, none⟩ L.length c (cellsR L) rfl (cellsR_length L) HC.out (cellsR_one L) (by unfold maxLen; omega) (by omega) (by simp) ?_; intro v1 w1 o1 g1 hnil1; have B1 : Below (w.heap.size + 1) (w.alloc (.cells #[.int .i64 r.user, .string r.ref, .string r.path, .bool r.write] 32)) w1 := growOwn ((Below.refl _ _).alloc (by simp) _) (by simp) O0 g1 (Nat.le_refl _); have z1 := B1.size; simp only [World.size_alloc] at z1; have B := ((Below.refl _ w).alloc (Nat.le_refl _) _).trans (B1.mono (by omega)); have D := (atR_new w r 32).below B1 (Nat.lt_succ_self _); obtain ⟨d0, d1, d2, d3⟩ := id D; clear B1 g1 hnil1 O0) | (go_at_call 23; refine (rulListOk_spec (some ⟨b, o, none⟩) c L _ (HL.out.up B) hn hc HT.out).mono ?_; rw [E0.out]; rintro e w2 ⟨rfl, hb⟩; clear d0 d1 d2 d3; replace o1 := ownsUnder o1 hb (Nat.le_refl _); replace D := D.up hb; obtain ⟨d0, d1, d2, d3⟩ := id D; replace B := B.trans (hb.mono B.size); clear hb) | (go_at_call 40; refine (rulOk_spec r _ hrr hrp).mono ?_; rw [E1.out]; rintro e w3 ⟨rfl, hb⟩; clear d0 d1 d2 d3; replace o1 := ownsUnder o1 hb (Nat.le_refl _); replace D := D.up hb; obtain ⟨d0, d1, d2, d3⟩ := id D; replace B := B.trans (hb.mono B.size); clear hb) | (go_at_call 41; refine (l5Same_any (some ⟨b, o, none⟩) c L r _ (HL.out.up B) hn).mono ?_; rw [E3.out]; rintro e w4 ⟨rfl, hb⟩; clear d0 d1 d2 d3; replace o1 := ownsUnder o1 hb (Nat.le_refl _); replace D := D.up hb; obtain ⟨d0, d1, d2, d3⟩ := id D; replace B := B.trans (hb.mono B.size); clear hb) | (at_builtin; refine wpList_append_own _ rfl _ _ 23 rfl (w.heap.size + 1) 32 i0 (.agg #[.int .i64 0, .string ByteArray.empty, .string ByteArray.empty, .bool false]) 4 48 Try.underlying23 hi hz0 hz1 hz2 rfl (by decide) _ _ _ rfl (o1.alloc _) ⟨_, 0, none⟩ 1 1 [.int .i64 r.user, .string r.ref, .string r.path, .bool r.write] rfl rfl (cells_new _ #[.int .i64 r.user, .string r.ref, .string r.path, .bool r.write] _) (fun u hu => by simp at hu; rcases hu with rfl | rfl | rfl | rfl <;> rfl) (by unfold maxLen; omega) (by omega) (by have := D.lt; simp; omega) ?_; intro v5 w5 o5 g5 hnil5))
    have o6 : w5.ownsRow (w.heap.size + 1) 32 4 v5 (L ++ [r]).length (cellsR (L ++ [r])) := by
      rw [cellsR_snoc, List.length_append, List.length_singleton]
      simpa only [Nat.zero_add, List.nil_append] using o5
    obtain ⟨A1, c1, rfl, _⟩ := rdR_of_own o6
    refine bodyPost_ret (v := .tuple #[.slice A1 (L ++ [r]).length c1, .bool true]) (by simp [results, Try.results16, go_sem]) rfl ?_
    exact ⟨⟨_, rfl, ownsDown o6 (by omega)⟩, growOwn (B.alloc B.size _) (by have := B.size; simp; omega) (o1.alloc _) g5 (by omega)⟩
  · rw [putR_no (bS L r q3), bS L r q3]
    have E3 : Hid ((L.any fun x => eqR x r) = true) := q3
    have q2' : ((L.length : Int) == 6) = false := by rw [beq_eq_false_iff_ne]; omega
    clear q0 q1 q3
    go_enter Try.func16, Try.ntmps16
    go_wp2_with (first | (at_builtin; refine wpList_append_own _ rfl _ _ 23 rfl (w.heap.size + 1) 32 i0 (.agg #[.int .i64 0, .string ByteArray.empty, .string ByteArray.empty, .bool false]) 4 48 Try.underlying23 hi hz0 hz1 hz2 rfl (by decide) _ _ _ rfl O0 ⟨b, o, none⟩ L.length c (cellsR L) rfl (cellsR_length L) HC.out (cellsR_one L) (by unfold maxLen; omega) (by omega) (by simp) ?_; intro v1 w1 o1 g1 hnil1; have B1 : Below (w.heap.size + 1) (w.alloc (.cells #[.int .i64 r.user, .string r.ref, .string r.path, .bool r.write] 32)) w1 := growOwn ((Below.refl _ _).alloc (by simp) _) (by simp) O0 g1 (Nat.le_refl _); have z1 := B1.size; simp only [World.size_alloc] at z1; have B := ((Below.refl _ w).alloc (Nat.le_refl _) _).trans (B1.mono (by omega)); have D := (atR_new w r 32).below B1 (Nat.lt_succ_self _); obtain ⟨d0, d1, d2, d3⟩ := id D; clear B1 g1 hnil1 O0) | (go_at_call 23; refine (rulListOk_spec (some ⟨b, o, none⟩) c L _ (HL.out.up B) hn hc HT.out).mono ?_; rw [E0.out]; rintro e w2 ⟨rfl, hb⟩; clear d0 d1 d2 d3; replace o1 := ownsUnder o1 hb (Nat.le_refl _); replace D := D.up hb; obtain ⟨d0, d1, d2, d3⟩ := id D; replace B := B.trans (hb.mono B.size); clear hb) | (go_at_call 40; refine (rulOk_spec r _ hrr hrp).mono ?_; rw [E1.out]; rintro e w3 ⟨rfl, hb⟩; clear d0 d1 d2 d3; replace o1 := ownsUnder o1 hb (Nat.le_refl _); replace D := D.up hb; obtain ⟨d0, d1, d2, d3⟩ := id D; replace B := B.trans (hb.mono B.size); clear hb) | (go_at_call 41; refine (l5Same_any (some ⟨b, o, none⟩) c L r _ (HL.out.up B) hn).mono ?_; rw [E3.out]; rintro e w4 ⟨rfl, hb⟩; clear d0 d1 d2 d3; replace o1 := ownsUnder o1 hb (Nat.le_refl _); replace D := D.up hb; obtain ⟨d0, d1, d2, d3⟩ := id D; replace B := B.trans (hb.mono B.size); clear hb))
    obtain ⟨A1, c1, rfl, _⟩ := rdR_of_own (L := L) (by simpa only [Nat.zero_add, List.nil_append] using o1)
    refine bodyPost_ret (v := .tuple #[.slice A1 L.length c1, .bool false]) (by simp [results, Try.results16, go_sem]) rfl ?_
    exact ⟨⟨_, rfl, ownsDown (by simpa only [Nat.zero_add, List.nil_append] using o1) (by omega)⟩, B⟩

end Go.Proofs.Ytmjmkgigopinbaa.W
