/-
  The walk of TokenSymbols. No conditions.
-/
import Derived.Test.YtmooiheomecieaaTokX
import Derived.Test.YtmooiheomecieaaTokG
namespace Go.Proofs.Ytmooiheomecieaa.tokenSymbols
open Go.RowKit Tok

theorem first_cell {S : List (Nat × Nat)} {n k : Nat} (hn : S.length = n) (hk : k < S.length) : ∀ W v, NumRow W v (S.map (·.1)) → ∃ b off cap, v = .slice (some ⟨b, off, none⟩) n cap ∧ n ≤ cap ∧ W.cell? ⟨b, off + k, none⟩ = some (.int .i64 (S[k].1 : Int)) := fun W v h => by
  obtain ⟨a, cap, rfl, hcap, _, hc⟩ := h
  obtain ⟨b, off, rfl, hc0⟩ := hc k (by rw [List.length_map]; exact hk)
  rw [List.getElem_map] at hc0
  rw [List.length_map, hn] at hcap ⊢
  exact ⟨b, off, cap, rfl, hcap, hc0⟩

set_option maxRecDepth 100000 in
set_option maxHeartbeats 4000000 in
theorem neg (w : World) (n : Int) (hn0 : -9223372036854775808 ≤ n) (hn1 : n ≤ 9223372036854775807) (d : Int) (hd0 : -9223372036854775808 ≤ d) (hd1 : d ≤ 9223372036854775807) (s : Int) (hs0 : -9223372036854775808 ≤ s) (hs1 : s ≤ 9223372036854775807) (h : s < 0) :
    Calls Try.prog 3 #[.int .i64 n, .int .i64 d, .int .i64 s] w fun e w' => e = .returned (.bool true) ∧ Below w.heap.size w w' := by
  have hsays := fun W => says_any W
  have q1 := fun W => length_any W n hn0 hn1
  have q2 := fun W => refLength_any W n hn0 hn1
  have q3 := fun W => distance_any W d hd0 hd1
  have q4 := fun W => refDistance_any W d hd0 hd1
  generalize lenAns n = r1 at q1 q2
  generalize disAns d = r2 at q3 q4
  obtain ⟨p1, p2, p3, p4⟩ := r1
  obtain ⟨t1, t2, t3, t4⟩ := r2
  have q5 := fun W => lengthOf_any W s hs0 hs1
  have q6 := fun W => distanceOf_any W s hs0 hs1
  have a5 : lenOfAns s = (0, 0, 5) := ansOf_out lenS 257 s (by rw [lenS_length]; omega)
  have a6 : disOfAns s = (0, 0, 5) := ansOf_out disS 0 s (by rw [disS_length]; omega)
  rw [a5] at q5
  rw [a6] at q6
  clear a5 a6
  go_enter Try.func3, Try.ntmps3
  go_wp2_with (first | (go_at_call 9; refine (q1 _).mono ?_; rintro e w1 ⟨rfl, b1⟩) | (go_at_call 10; refine (q2 _).mono ?_; rintro e w2 ⟨rfl, b2⟩) | (go_at_call 11; refine (q3 _).mono ?_; rintro e w3 ⟨rfl, b3⟩) | (go_at_call 12; refine (q4 _).mono ?_; rintro e w4 ⟨rfl, b4⟩) | (go_at_call 13; refine (q5 _).mono ?_; rintro e w5 ⟨rfl, b5⟩) | (go_at_call 16; refine (q6 _).mono ?_; rintro e w6 ⟨rfl, b6⟩) | (go_at_call 17; refine (hsays _).mono ?_; rintro e w9 ⟨rfl, b9⟩))
  go_ret
  exact ⟨rfl, Below.andThen (Below.andThen (Below.andThen (Below.andThen (Below.andThen (Below.andThen (b1) b2) b3) b4) b5) b6) b9⟩

set_option maxRecDepth 100000 in
set_option maxHeartbeats 4000000 in
theorem mid (w : World) (n : Int) (hn0 : -9223372036854775808 ≤ n) (hn1 : n ≤ 9223372036854775807) (d : Int) (hd0 : -9223372036854775808 ≤ d) (hd1 : d ≤ 9223372036854775807) (s : Int) (hs0 : -9223372036854775808 ≤ s) (hs1 : s ≤ 9223372036854775807) (h1 : 29 < s) (h2 : s < 257) :
    Calls Try.prog 3 #[.int .i64 n, .int .i64 d, .int .i64 s] w fun e w' => e = .returned (.bool true) ∧ Below w.heap.size w w' := by
  have hsays := fun W => says_any W
  have q1 := fun W => length_any W n hn0 hn1
  have q2 := fun W => refLength_any W n hn0 hn1
  have q3 := fun W => distance_any W d hd0 hd1
  have q4 := fun W => refDistance_any W d hd0 hd1
  generalize lenAns n = r1 at q1 q2
  generalize disAns d = r2 at q3 q4
  obtain ⟨p1, p2, p3, p4⟩ := r1
  obtain ⟨t1, t2, t3, t4⟩ := r2
  have q5 := fun W => lengthOf_any W s hs0 hs1
  have q6 := fun W => distanceOf_any W s hs0 hs1
  have a5 : lenOfAns s = (0, 0, 5) := ansOf_out lenS 257 s (by rw [lenS_length]; omega)
  have a6 : disOfAns s = (0, 0, 5) := ansOf_out disS 0 s (by rw [disS_length]; omega)
  rw [a5] at q5
  rw [a6] at q6
  clear a5 a6
  go_enter Try.func3, Try.ntmps3
  go_wp2_with (first | (go_at_call 9; refine (q1 _).mono ?_; rintro e w1 ⟨rfl, b1⟩) | (go_at_call 10; refine (q2 _).mono ?_; rintro e w2 ⟨rfl, b2⟩) | (go_at_call 11; refine (q3 _).mono ?_; rintro e w3 ⟨rfl, b3⟩) | (go_at_call 12; refine (q4 _).mono ?_; rintro e w4 ⟨rfl, b4⟩) | (go_at_call 13; refine (q5 _).mono ?_; rintro e w5 ⟨rfl, b5⟩) | (go_at_call 16; refine (q6 _).mono ?_; rintro e w6 ⟨rfl, b6⟩) | (go_at_call 17; refine (hsays _).mono ?_; rintro e w9 ⟨rfl, b9⟩))
  go_ret
  exact ⟨rfl, Below.andThen (Below.andThen (Below.andThen (Below.andThen (Below.andThen (Below.andThen (b1) b2) b3) b4) b5) b6) b9⟩

set_option maxRecDepth 100000 in
set_option maxHeartbeats 4000000 in
theorem high (w : World) (n : Int) (hn0 : -9223372036854775808 ≤ n) (hn1 : n ≤ 9223372036854775807) (d : Int) (hd0 : -9223372036854775808 ≤ d) (hd1 : d ≤ 9223372036854775807) (s : Int) (hs0 : -9223372036854775808 ≤ s) (hs1 : s ≤ 9223372036854775807) (h : 285 < s) :
    Calls Try.prog 3 #[.int .i64 n, .int .i64 d, .int .i64 s] w fun e w' => e = .returned (.bool true) ∧ Below w.heap.size w w' := by
  have hsays := fun W => says_any W
  have q1 := fun W => length_any W n hn0 hn1
  have q2 := fun W => refLength_any W n hn0 hn1
  have q3 := fun W => distance_any W d hd0 hd1
  have q4 := fun W => refDistance_any W d hd0 hd1
  generalize lenAns n = r1 at q1 q2
  generalize disAns d = r2 at q3 q4
  obtain ⟨p1, p2, p3, p4⟩ := r1
  obtain ⟨t1, t2, t3, t4⟩ := r2
  have q5 := fun W => lengthOf_any W s hs0 hs1
  have q6 := fun W => distanceOf_any W s hs0 hs1
  have a5 : lenOfAns s = (0, 0, 5) := ansOf_out lenS 257 s (by rw [lenS_length]; omega)
  have a6 : disOfAns s = (0, 0, 5) := ansOf_out disS 0 s (by rw [disS_length]; omega)
  rw [a5] at q5
  rw [a6] at q6
  clear a5 a6
  go_enter Try.func3, Try.ntmps3
  go_wp2_with (first | (go_at_call 9; refine (q1 _).mono ?_; rintro e w1 ⟨rfl, b1⟩) | (go_at_call 10; refine (q2 _).mono ?_; rintro e w2 ⟨rfl, b2⟩) | (go_at_call 11; refine (q3 _).mono ?_; rintro e w3 ⟨rfl, b3⟩) | (go_at_call 12; refine (q4 _).mono ?_; rintro e w4 ⟨rfl, b4⟩) | (go_at_call 13; refine (q5 _).mono ?_; rintro e w5 ⟨rfl, b5⟩) | (go_at_call 16; refine (q6 _).mono ?_; rintro e w6 ⟨rfl, b6⟩) | (go_at_call 17; refine (hsays _).mono ?_; rintro e w9 ⟨rfl, b9⟩))
  go_ret
  exact ⟨rfl, Below.andThen (Below.andThen (Below.andThen (Below.andThen (Below.andThen (Below.andThen (b1) b2) b3) b4) b5) b6) b9⟩

set_option maxRecDepth 100000 in
set_option maxHeartbeats 4000000 in
theorem len (w : World) (n : Int) (hn0 : -9223372036854775808 ≤ n) (hn1 : n ≤ 9223372036854775807) (d : Int) (hd0 : -9223372036854775808 ≤ d) (hd1 : d ≤ 9223372036854775807) (s : Int) (hs0 : -9223372036854775808 ≤ s) (hs1 : s ≤ 9223372036854775807) (h1 : 257 ≤ s) (h2 : s ≤ 285) :
    Calls Try.prog 3 #[.int .i64 n, .int .i64 d, .int .i64 s] w fun e w' => e = .returned (.bool true) ∧ Below w.heap.size w w' := by
  have hsays := fun W => says_any W
  have q1 := fun W => length_any W n hn0 hn1
  have q2 := fun W => refLength_any W n hn0 hn1
  have q3 := fun W => distance_any W d hd0 hd1
  have q4 := fun W => refDistance_any W d hd0 hd1
  generalize lenAns n = r1 at q1 q2
  generalize disAns d = r2 at q3 q4
  obtain ⟨p1, p2, p3, p4⟩ := r1
  obtain ⟨t1, t2, t3, t4⟩ := r2
  obtain ⟨k, rfl⟩ : ∃ k : Nat, s = ((257 + k : Nat) : Int) := ⟨(s - 257).toNat, by omega⟩
  have hk : k < lenS.length := by rw [lenS_length]; omega
  have hk2 : k < 29 := by omega
  have q5 := fun W => lengthOf_any W ((257 + k : Nat) : Int) hs0 hs1
  have q6 := fun W => distanceOf_any W ((257 + k : Nat) : Int) hs0 hs1
  have a5 : lenOfAns ((257 + k : Nat) : Int) = _ := ansOf_in lenS 257 k hk
  have a6 : disOfAns ((257 + k : Nat) : Int) = (0, 0, 5) := ansOf_out disS 0 _ (by rw [disS_length]; omega)
  rw [a5] at q5
  rw [a6] at q6
  have hr := fun W => refLengths_any W
  have hcell := first_cell lenS_length hk
  have hbits := fun W => lengthBits_any W (257 + k) (by omega)
  rw [lbits_eq k hk] at hbits
  have hsm := small_spans.1 _ (List.getElem_mem hk)
  generalize lenS[k].1 = y at *
  generalize lenS[k].2 = z at *
  have e1 : ((257 + k : Nat) : Int) - 257 = (k : Int) := by omega
  clear a5 a6 hk
  generalize 257 + k = m at *
  generalize lenS = S at *
  go_enter Try.func3, Try.ntmps3
  go_wp2_with (first | (go_at_call 9; refine (q1 _).mono ?_; rintro e w1 ⟨rfl, b1⟩) | (go_at_call 10; refine (q2 _).mono ?_; rintro e w2 ⟨rfl, b2⟩) | (go_at_call 11; refine (q3 _).mono ?_; rintro e w3 ⟨rfl, b3⟩) | (go_at_call 12; refine (q4 _).mono ?_; rintro e w4 ⟨rfl, b4⟩) | (go_at_call 13; refine (q5 _).mono ?_; rintro e w5 ⟨rfl, b5⟩) | (go_at_call 16; refine (q6 _).mono ?_; rintro e w6 ⟨rfl, b6⟩) | (go_at_call 17; refine (hsays _).mono ?_; rintro e w9 ⟨rfl, b9⟩) | (go_at_call 14; refine (hr _).mono ?_; rintro e w7 ⟨v7, rfl, hn7, b7⟩; obtain ⟨bb, oo, cc, rfl, hcap, hc⟩ := hcell _ _ hn7) | (go_at_call 15; refine (hbits _).mono ?_; rintro e w8 ⟨rfl, b8⟩))
  go_ret
  exact ⟨rfl, Below.andThen (Below.andThen (Below.andThen (Below.andThen (Below.andThen (Below.andThen (Below.andThen (Below.andThen (b1) b2) b3) b4) b5) b7) b8) b6) b9⟩

set_option maxRecDepth 100000 in
set_option maxHeartbeats 4000000 in
theorem dis (w : World) (n : Int) (hn0 : -9223372036854775808 ≤ n) (hn1 : n ≤ 9223372036854775807) (d : Int) (hd0 : -9223372036854775808 ≤ d) (hd1 : d ≤ 9223372036854775807) (s : Int) (hs0 : -9223372036854775808 ≤ s) (hs1 : s ≤ 9223372036854775807) (h1 : 0 ≤ s) (h2 : s ≤ 29) :
    Calls Try.prog 3 #[.int .i64 n, .int .i64 d, .int .i64 s] w fun e w' => e = .returned (.bool true) ∧ Below w.heap.size w w' := by
  have hsays := fun W => says_any W
  have q1 := fun W => length_any W n hn0 hn1
  have q2 := fun W => refLength_any W n hn0 hn1
  have q3 := fun W => distance_any W d hd0 hd1
  have q4 := fun W => refDistance_any W d hd0 hd1
  generalize lenAns n = r1 at q1 q2
  generalize disAns d = r2 at q3 q4
  obtain ⟨p1, p2, p3, p4⟩ := r1
  obtain ⟨t1, t2, t3, t4⟩ := r2
  obtain ⟨k, rfl⟩ : ∃ k : Nat, s = (k : Int) := ⟨s.toNat, by omega⟩
  have hk : k < disS.length := by rw [disS_length]; omega
  have hk2 : k < 30 := by omega
  have q5 := fun W => lengthOf_any W (k : Int) hs0 hs1
  have q6 := fun W => distanceOf_any W (k : Int) hs0 hs1
  have a5 : lenOfAns (k : Int) = (0, 0, 5) := ansOf_out lenS 257 _ (by rw [lenS_length]; omega)
  have a6 : disOfAns ((0 + k : Nat) : Int) = _ := ansOf_in disS 0 k hk
  rw [Nat.zero_add] at a6
  rw [a5] at q5
  rw [a6] at q6
  have hr := fun W => refDistances_any W
  have hcell := first_cell disS_length hk
  have hbits := fun W => distanceBits_any W k (by omega)
  rw [dbits_eq k hk] at hbits
  have hsm := small_spans.2 _ (List.getElem_mem hk)
  generalize disS[k].1 = y at *
  generalize disS[k].2 = z at *
  clear a5 a6 hk
  generalize disS = S at *
  go_enter Try.func3, Try.ntmps3
  go_wp2_with (first | (go_at_call 9; refine (q1 _).mono ?_; rintro e w1 ⟨rfl, b1⟩) | (go_at_call 10; refine (q2 _).mono ?_; rintro e w2 ⟨rfl, b2⟩) | (go_at_call 11; refine (q3 _).mono ?_; rintro e w3 ⟨rfl, b3⟩) | (go_at_call 12; refine (q4 _).mono ?_; rintro e w4 ⟨rfl, b4⟩) | (go_at_call 13; refine (q5 _).mono ?_; rintro e w5 ⟨rfl, b5⟩) | (go_at_call 16; refine (q6 _).mono ?_; rintro e w6 ⟨rfl, b6⟩) | (go_at_call 17; refine (hsays _).mono ?_; rintro e w9 ⟨rfl, b9⟩) | (go_at_call 18; refine (hr _).mono ?_; rintro e w7 ⟨v7, rfl, hn7, b7⟩; obtain ⟨bb, oo, cc, rfl, hcap, hc⟩ := hcell _ _ hn7) | (go_at_call 19; refine (hbits _).mono ?_; rintro e w8 ⟨rfl, b8⟩))
  go_ret
  exact ⟨rfl, Below.andThen (Below.andThen (Below.andThen (Below.andThen (Below.andThen (Below.andThen (Below.andThen (Below.andThen (b1) b2) b3) b4) b5) b6) b7) b8) b9⟩

theorem walk (w : World) (n : Int) (hn : (Lit.int .i64 n).wf = true) (d : Int) (hd : (Lit.int .i64 d).wf = true) (s : Int) (hs : (Lit.int .i64 s).wf = true) :
    Calls Try.prog 3 #[.int .i64 n, .int .i64 d, .int .i64 s] w fun e w' => e = .returned (.bool true) ∧ Below w.heap.size w w' := by
  obtain ⟨hn0, hn1⟩ := int_wf hn
  obtain ⟨hd0, hd1⟩ := int_wf hd
  obtain ⟨hs0, hs1⟩ := int_wf hs
  by_cases c1 : s < 0
  · exact neg w n hn0 hn1 d hd0 hd1 s hs0 hs1 c1
  · by_cases c2 : s ≤ 29
    · exact dis w n hn0 hn1 d hd0 hd1 s hs0 hs1 (by omega) c2
    · by_cases c3 : s < 257
      · exact mid w n hn0 hn1 d hd0 hd1 s hs0 hs1 (by omega) c3
      · by_cases c4 : s ≤ 285
        · exact len w n hn0 hn1 d hd0 hd1 s hs0 hs1 (by omega) c4
        · exact high w n hn0 hn1 d hd0 hd1 s hs0 hs1 (by omega)

end Go.Proofs.Ytmooiheomecieaa.tokenSymbols
