/-
  Contracts of package token: lengths, distances; the search for what says a number. No conditions but those of the calls.
-/
import Derived.Test.YtmooiheomecieaaTokC
namespace Go.Proofs.Ytmooiheomecieaa.Tok
open Go.RowKit

theorem rise_small : (∀ k, k ≤ 28 → riseL 3 4 k ≤ 1000000 ∧ riseN 4 k ≤ 30) ∧ ∀ k, k ≤ 30 → riseL 1 2 k ≤ 1000000 ∧ riseN 2 k ≤ 30 := by
  have h1 : ∀ k, k < 29 → riseL 3 4 k ≤ 1000000 ∧ riseN 4 k ≤ 30 := by decide
  have h2 : ∀ k, k < 31 → riseL 1 2 k ≤ 1000000 ∧ riseN 2 k ≤ 30 := by decide
  exact ⟨fun k hk => h1 k (by omega), fun k hk => h2 k (by omega)⟩

/-- rising, and what it yields gathered: the three boxes. -/
theorem boxes (w : World) (x y z : Int) : ∃ W, W = ((w.alloc (.cells #[.int .i64 x] 3)).alloc (.cells #[.int .i64 y] 3)).alloc (.cells #[.int .i64 z] 3) ∧ Below w.heap.size w W ∧ W.heap.size = w.heap.size + 3 ∧
    W.cell? ⟨w.heap.size, 0, none⟩ = some (.int .i64 x) ∧ W.cell? ⟨w.heap.size + 1, 0, none⟩ = some (.int .i64 y) ∧ W.cell? ⟨w.heap.size + 2, 0, none⟩ = some (.int .i64 z) := by
  have s1 := (St.start w).newBox #[.int .i64 x] 3
  have s2 := s1.newBox #[.int .i64 y] 3
  have s3 := s2.newBox #[.int .i64 z] 3
  have e1 : (w.alloc (.cells #[.int .i64 x] 3)).heap.size = w.heap.size + 1 := by simp
  have e2 : ((w.alloc (.cells #[.int .i64 x] 3)).alloc (.cells #[.int .i64 y] 3)).heap.size = w.heap.size + 2 := by simp
  have c0 := (s3.third.boxAt 0).1
  have c1 := (s3.swap.boxAt 0).1
  have c2 := (s3.boxAt 0).1
  rw [e1] at c1
  rw [e2] at c2
  exact ⟨_, rfl, s3.below (Nat.le_refl _), by simp, c0, c1, c2⟩

set_option maxRecDepth 100000 in
set_option maxHeartbeats 2000000 in
theorem distances_any (w : World) : Calls Try.prog 25 #[] w fun e w' => ∃ v', e = .returned v' ∧ w'.ownsRow w.heap.size 53 2 v' disS.length (spn disS) ∧ Below w.heap.size w w' := by
  obtain ⟨W, rfl, hb, hz, c0, c1, c2⟩ := boxes w 1 30 2
  have hc := collected_any _ w.heap.size 1 30 2 (by omega) (by omega) (by omega) (by omega) rise_small.2 c0 c1 c2
  have hD : disS = spansOf 1 2 30 := rfl
  rw [← hD] at hc
  clear hD
  generalize disS = S at *
  go_enter Try.func25, Try.ntmps25
  go_wp2_with (first | (go_at_call 36; refine (rising_any 1 30 2 _).mono ?_; rintro e w1 ⟨rfl, rfl⟩) | (go_at_call 35; refine hc.mono ?_; rintro e w2 ⟨v2, rfl, ho, hb2⟩; obtain ⟨va, vc, rfl⟩ := ownsRow_slice ho))
  go_ret
  have s2 := ((St.start w).quiet hb).addRow hb2 ho
  exact ⟨_, rfl, s2.rowFrom, s2.below (Nat.le_refl _)⟩

set_option maxRecDepth 100000 in
set_option maxHeartbeats 2000000 in
theorem lengths_any (w : World) : Calls Try.prog 23 #[] w fun e w' => ∃ v', e = .returned v' ∧ w'.ownsRow w.heap.size 53 2 v' lenS.length (spn lenS) ∧ Below w.heap.size w w' := by
  obtain ⟨W, rfl, hb, hz, c0, c1, c2⟩ := boxes w 3 28 4
  have hc := collected_any _ w.heap.size 3 28 4 (by omega) (by omega) (by omega) (by omega) rise_small.1 c0 c1 c2
  have hD : lenS = spansOf 3 4 28 ++ [(258, 0)] := rfl
  have hlen := Nat.le_of_eq (spansOf_length 3 4 28)
  rw [hD]
  clear hD
  generalize spansOf 3 4 28 = S at *
  obtain ⟨i0, hi, hz0, hz1, hz2⟩ := info_parts infoSpan
  go_enter Try.func23, Try.ntmps23
  go_wp2_with (first | (go_at_call 36; refine (rising_any 3 28 4 _).mono ?_; rintro e w1 ⟨rfl, rfl⟩) | (go_at_call 35; refine hc.mono ?_; rintro e w2 ⟨v2, rfl, ho, hb2⟩; obtain ⟨va, vc, rfl⟩ := ownsRow_slice ho; have s2 := ((St.start w).quiet hb).addRow hb2 ho) | (at_builtin; refine wpList_append_one rfl _ _ 44 rfl 53 i0 (.agg #[.int .i64 0, .int .i64 0]) 2 16 Try.underlying44 hi hz0 hz1 hz2 rfl (by decide) s2 rfl [.int .i64 258, .int .i64 0] rfl rfl (by simp [Value.oneCell']) (by unfold maxLen; omega) (by omega) ?_; intro v6 w6 s6))
  obtain ⟨xa, xc, rfl⟩ := ownsRow_slice s6.row
  go_wp2
  go_ret
  refine ⟨_, rfl, ?_, s6.below (Nat.le_refl _)⟩
  rw [spn_append, List.length_append]
  exact s6.rowFrom

end Go.Proofs.Ytmooiheomecieaa.Tok
