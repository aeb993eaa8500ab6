
/-
  The walk of RulPut of the program. At most 1048576 rules, texts of at most 1048576 bytes.
-/
import Derived.Test.YtmjmkgigopinbaaWalkRulP
namespace Go.Proofs.Ytmjmkgigopinbaa.W
open Go.RowKit Go.Proofs.Ytmjmkgigopinbaa.M

theorem own_some {w : World} {base : Nat} {e : TypeId} {v : Value} {L : List RR} {r : RR} (h : w.ownsRow base e 4 v (L ++ [r]).length (cellsR (L ++ [r]))) : ∃ g cap, v = .slice (some ⟨g, 0, none⟩) (L.length + 1) cap := by
  rcases h.2 with ⟨e, hn0⟩ | ⟨g, cap, cur, e, _⟩
  · simp at hn0
  · exact ⟨g, cap, by rw [e, List.length_append, List.length_singleton]⟩
theorem own_rd {w : World} {base g cap n : Nat} {e : TypeId} {L : List RR} (h : w.ownsRow base e 4 (.slice (some ⟨g, 0, none⟩) n cap) L.length (cellsR L)) : RdR w.heap.size w (some ⟨g, 0, none⟩) L ∧ L.length ≤ cap := by
  obtain ⟨A, c, e, rd, k⟩ := rdR_own_cap h
  cases e
  exact ⟨rd, k⟩
theorem own_less {w : World} {base : Nat} {v : Value} {L : List RR} {r : RR} {g cap : Nat} (hv : v = .slice (some ⟨g, 0, none⟩) (L ++ [r]).length cap) (h : w.ownsRow base 32 4 v (L ++ [r]).length (cellsR (L ++ [r]))) : w.ownsRow base 32 4 (.slice (some ⟨g, 0, none⟩) L.length cap) L.length (cellsR L) := by
  subst hv
  refine ⟨by rw [cellsR_length], .inr ?_⟩
  rcases h.2 with ⟨e, hn0⟩ | ⟨g', cap', cur, e, h1, h2, h3, h4, h5, h6⟩
  · cases e
  · cases e
    refine ⟨g, cap, cur, rfl, h1, h2, by simp at h3; omega, h4, h5, ?_⟩
    have : cur.toList.take (L.length * 4) = (cur.toList.take ((L ++ [r]).length * 4)).take (L.length * 4) := by
      rw [List.take_take, Nat.min_eq_left (by simp; omega)]
    rw [this, h6, cellsR_snoc, List.take_append_of_le_length (by rw [cellsR_length]; exact Nat.le_refl _), List.take_of_length_le (by rw [cellsR_length]; exact Nat.le_refl _)]

set_option maxRecDepth 100000 in
set_option maxHeartbeats 1000000 in
theorem rulPut_impl (b o c : Nat) (L : List RR) (r : RR) (w : World) (hL : RdR w.heap.size w (some ⟨b, o, none⟩) L) (hn : L.length ≤ 1048576) (ht : ∀ j (h : j < L.length), (L[j]).ref.size ≤ 1048576 ∧ (L[j]).path.size ≤ 1048576) (hrr : r.ref.size ≤ 1048576) (hrp : r.path.size ≤ 1048576) :
    Calls Try.prog 15 #[.slice (some ⟨b, o, none⟩) L.length c, .agg #[.int .i64 r.user, .string r.ref, .string r.path, .bool r.write]] w fun e w' => (∃ v, e = .returned (.tuple #[v, .bool (putB L r)]) ∧ w'.ownsRow w.heap.size 32 4 v (putR L r).length (cellsR (putR L r))) ∧ Below w.heap.size w w' := by
  have HL : Hid (RdR w.heap.size w (some ⟨b, o, none⟩) L) := hL
  have HT : Hid (∀ j (h : j < (L ++ [r]).length), ((L ++ [r])[j]).ref.size ≤ 1048576 ∧ ((L ++ [r])[j]).path.size ≤ 1048576) := fun j h => by
    by_cases hj : j < L.length
    · rw [List.getElem_append_left hj]; exact ht j hj
    · have : (L ++ [r])[j] = r := by rw [List.getElem_append_right (by omega)]; simp
      rw [this]; exact ⟨hrr, hrp⟩
  have hlen : (L ++ [r]).length ≤ 2000000 := by simp; omega
  have W3 : Hid (Below w.heap.size w (((w.alloc (.cells #[.int .i64 r.user, .string r.ref, .string r.path, .bool r.write] 32)).alloc (.cells #[.int .i64 r.user, .string r.ref, .string r.path, .bool r.write] 32)).alloc (.cells #[.slice (some ⟨b, o, none⟩) L.length c, .slice (some ⟨w.heap.size + 1, 0, none⟩) 1 1] 23))) := (((Below.refl _ w).alloc (Nat.le_refl _) _).alloc (by simp) _).alloc (by simp; omega) _
  have hcat : Hid (Calls Try.prog 39 #[.slice (some ⟨w.heap.size + 1 + 1, 0, none⟩) 2 2] (((w.alloc (.cells #[.int .i64 r.user, .string r.ref, .string r.path, .bool r.write] 32)).alloc (.cells #[.int .i64 r.user, .string r.ref, .string r.path, .bool r.write] 32)).alloc (.cells #[.slice (some ⟨b, o, none⟩) L.length c, .slice (some ⟨w.heap.size + 1, 0, none⟩) 1 1] 23)) fun e w' => (∃ v, e = .returned v ∧ w'.ownsRow w.heap.size 32 4 v (L ++ [r]).length (cellsR (L ++ [r]))) ∧ Below w.heap.size w w') := by
    refine (concatR b o c (w.heap.size + 1) (w.heap.size + 1 + 1) L r _ (by omega) (hL.up W3.out) ?_ ?_ ?_).mono ?_
    · have D := atR_new (w.alloc (.cells #[.int .i64 r.user, .string r.ref, .string r.path, .bool r.write] 32)) r 32
      rw [World.size_alloc] at D
      exact D.below ((Below.refl _ _).alloc (Nat.le_refl _) _) (by simp)
    · simpa [Addr.add] using cells_new' ((w.alloc (.cells #[.int .i64 r.user, .string r.ref, .string r.path, .bool r.write] 32)).alloc (.cells #[.int .i64 r.user, .string r.ref, .string r.path, .bool r.write] 32)) #[.slice (some ⟨b, o, none⟩) L.length c, .slice (some ⟨w.heap.size + 1, 0, none⟩) 1 1] 23 (w.heap.size + 1 + 1) (by simp) 0 _ rfl
    · simpa [Addr.add] using cells_new' ((w.alloc (.cells #[.int .i64 r.user, .string r.ref, .string r.path, .bool r.write] 32)).alloc (.cells #[.int .i64 r.user, .string r.ref, .string r.path, .bool r.write] 32)) #[.slice (some ⟨b, o, none⟩) L.length c, .slice (some ⟨w.heap.size + 1, 0, none⟩) 1 1] 23 (w.heap.size + 1 + 1) (by simp) 1 _ rfl
    · rintro e w2 ⟨⟨v, rfl, o2⟩, hb⟩
      exact ⟨⟨v, rfl, ownsDown o2 (by simp; omega)⟩, W3.out.trans (hb.mono (by simp; omega))⟩
  clear hL ht
  cases q0 : putB L r
  · have E0 : Hid (okR (L ++ [r]) = false) := (okR_snoc L r).trans q0
    rw [putR_no q0]
    clear q0
    go_enter Try.func15, Try.ntmps15
    go_wp2_with (first
      | (go_at_call 39; refine hcat.out.mono ?_; rintro e w2 ⟨⟨v, rfl, o2⟩, B⟩; obtain ⟨g2, c2, hv2⟩ := own_some o2; subst hv2; obtain ⟨rd2, k2⟩ := own_rd o2; have hlo := rulListOk_impl (some ⟨g2, 0, none⟩) c2 (L ++ [r]) w2 rd2 hlen k2 HT.out; rw [List.length_append, List.length_singleton, E0.out] at hlo; have HLo : Hid (Calls Try.prog 20 #[.slice (some ⟨g2, 0, none⟩) (L.length + 1) c2] w2 fun e w' => e = .returned (.bool false) ∧ Below w2.heap.size w2 w') := hlo; clear hlo; have k2' : L.length + 1 ≤ c2 := by simpa using k2)
      | (go_at_call 20; refine HLo.out.mono ?_; rintro e w3 ⟨rfl, hb⟩; replace o2 := ownsUnder o2 hb (Nat.le_refl _); replace B := B.trans (hb.mono B.size); clear hb))
    refine bodyPost_ret (v := .tuple #[.slice (some ⟨g2, 0, none⟩) L.length c2, .bool false]) (by simp [results, Try.results15, go_sem]) rfl ?_
    exact ⟨⟨_, rfl, own_less (by simp) o2⟩, B⟩
  · have E0 : Hid (okR (L ++ [r]) = true) := (okR_snoc L r).trans q0
    rw [putR_yes q0]
    clear q0
    go_enter Try.func15, Try.ntmps15
    go_wp2_with (first
      | (go_at_call 39; refine hcat.out.mono ?_; rintro e w2 ⟨⟨v, rfl, o2⟩, B⟩; obtain ⟨g2, c2, hv2⟩ := own_some o2; subst hv2; obtain ⟨rd2, k2⟩ := own_rd o2; have hlo := rulListOk_impl (some ⟨g2, 0, none⟩) c2 (L ++ [r]) w2 rd2 hlen k2 HT.out; rw [List.length_append, List.length_singleton, E0.out] at hlo; have HLo : Hid (Calls Try.prog 20 #[.slice (some ⟨g2, 0, none⟩) (L.length + 1) c2] w2 fun e w' => e = .returned (.bool true) ∧ Below w2.heap.size w2 w') := hlo; clear hlo; have k2' : L.length + 1 ≤ c2 := by simpa using k2)
      | (go_at_call 20; refine HLo.out.mono ?_; rintro e w3 ⟨rfl, hb⟩; replace o2 := ownsUnder o2 hb (Nat.le_refl _); replace B := B.trans (hb.mono B.size); clear hb))
    refine bodyPost_ret (v := .tuple #[.slice (some ⟨g2, 0, none⟩) (L.length + 1) c2, .bool true]) (by simp [results, Try.results15, go_sem]) rfl ?_
    exact ⟨⟨_, rfl, o2⟩, B⟩
theorem rulPutI_own {b : Nat} {e : TypeId} (v : Value) (L : List RR) (r : RR) (w : World) (hv : v ≠ .slice none 0 0) (h : w.ownsRow b e 4 v L.length (cellsR L)) (hn : L.length ≤ 1048576) (ht : ∀ j (h : j < L.length), (L[j]).ref.size ≤ 1048576 ∧ (L[j]).path.size ≤ 1048576) (hrr : r.ref.size ≤ 1048576) (hrp : r.path.size ≤ 1048576) :
    Calls Try.prog 15 #[v, .agg #[.int .i64 r.user, .string r.ref, .string r.path, .bool r.write]] w fun e w' => (∃ v, e = .returned (.tuple #[v, .bool (putB L r)]) ∧ w'.ownsRow w.heap.size 32 4 v (putR L r).length (cellsR (putR L r))) ∧ Below w.heap.size w w' := by
  obtain ⟨A, c, rfl, rd, k⟩ := rdR_own_cap h
  rcases h.2 with ⟨e, hn0⟩ | ⟨g, cap, cur, e, _⟩
  · exact absurd e hv
  · cases e
    exact rulPut_impl g 0 _ L r w rd hn ht hrr hrp
theorem rulPutS_own {b : Nat} {e : TypeId} (v : Value) (L : List RR) (r : RR) (w : World) (hv : v ≠ .slice none 0 0) (h : w.ownsRow b e 4 v L.length (cellsR L)) (hn : L.length ≤ 1048576) (ht : ∀ j (h : j < L.length), (L[j]).ref.size ≤ 1048576 ∧ (L[j]).path.size ≤ 1048576) (hrr : r.ref.size ≤ 1048576) (hrp : r.path.size ≤ 1048576) :
    Calls Try.prog 16 #[v, .agg #[.int .i64 r.user, .string r.ref, .string r.path, .bool r.write]] w fun e w' => (∃ v, e = .returned (.tuple #[v, .bool (putB L r)]) ∧ w'.ownsRow w.heap.size 32 4 v (putR L r).length (cellsR (putR L r))) ∧ Below w.heap.size w w' := by
  obtain ⟨A, c, rfl, rd, k⟩ := rdR_own_cap h
  rcases h.2 with ⟨e, hn0⟩ | ⟨g, cap, cur, e, _⟩
  · exact absurd e hv
  · cases e
    exact rulPut_spec g 0 _ L r w rd (by omega) k ht hrr hrp
end Go.Proofs.Ytmjmkgigopinbaa.W
