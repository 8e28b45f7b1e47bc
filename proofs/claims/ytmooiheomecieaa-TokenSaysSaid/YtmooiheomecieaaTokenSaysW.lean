/-
  The walk of TokenSays. No conditions.
-/
import Derived.Test.YtmooiheomecieaaTokX
namespace Go.Proofs.Ytmooiheomecieaa.tokenSays
open Go.RowKit Tok

/-- What the two calls say of a length. -/
theorem len_fact (n : Nat) (h1 : 3 ≤ n) (h2 : n ≤ 258) : ∃ k z y d P : Nat, k < 29 ∧ k = at_ lenS n ∧ lenAns (n : Int) = (257 + k, z, d, 0) ∧ lenOfAns ((257 + k : Nat) : Int) = (y, z, 0) ∧ y + d = n ∧ d < P ∧ 2 ^ z = P ∧ z ≤ 16 ∧ P ≤ 65536 := by
  have h0 : 0 < lenS.length := by rw [lenS_length]; omega
  have hl := at_lt lenS n h0
  have hlo : lenS[0].1 ≤ n := by show 3 ≤ n; omega
  have hs := at_says lenS n 258 rises_lenS close_lenS h0 hlo h2 (fun _ => by show 258 < 258 + 2 ^ 0; decide)
  have ha : lenAns (n : Int) = _ := ans_in lenS 3 258 257 n h1 h2 h0
  have ho : lenOfAns ((257 + at_ lenS n : Nat) : Int) = _ := ansOf_in lenS 257 _ hl
  have hz := (small_spans.1 _ (List.getElem_mem hl)).2
  refine ⟨at_ lenS n, _, _, _, _, by rw [lenS_length] at hl; exact hl, rfl, ha, ho, by omega, by omega, rfl, by omega, ?_⟩
  calc 2 ^ (lenS[at_ lenS n]'hl).2 ≤ 2 ^ 16 := Nat.pow_le_pow_right (by omega) (by omega)
    _ = 65536 := rfl

/-- .. of a distance. -/
theorem dis_fact (n : Nat) (h1 : 1 ≤ n) (h2 : n ≤ 32768) : ∃ k z y d P : Nat, k < 30 ∧ k = at_ disS n ∧ disAns (n : Int) = (k, z, d, 0) ∧ disOfAns (k : Int) = (y, z, 0) ∧ y + d = n ∧ d < P ∧ 2 ^ z = P ∧ z ≤ 16 ∧ P ≤ 65536 := by
  have h0 : 0 < disS.length := by rw [disS_length]; omega
  have hl := at_lt disS n h0
  have hlo : disS[0].1 ≤ n := by show 1 ≤ n; omega
  have hs := at_says disS n 32768 rises_disS close_disS h0 hlo h2 (fun _ => by show 32768 < 24577 + 2 ^ 13; decide)
  have ha : disAns (n : Int) = _ := ans_in disS 1 32768 0 n h1 h2 h0
  have ho : disOfAns ((0 + at_ disS n : Nat) : Int) = _ := ansOf_in disS 0 _ hl
  rw [Nat.zero_add] at ha ho
  have hz := (small_spans.2 _ (List.getElem_mem hl)).2
  refine ⟨at_ disS n, _, _, _, _, by rw [disS_length] at hl; exact hl, rfl, ha, ho, by omega, by omega, rfl, by omega, ?_⟩
  calc 2 ^ (disS[at_ disS n]'hl).2 ≤ 2 ^ 16 := Nat.pow_le_pow_right (by omega) (by omega)
    _ = 65536 := rfl

theorem at_mono (S : List (Nat × Nat)) (n m : Nat) (h : n ≤ m) : at_ S n ≤ at_ S m := by
  have := upTo_mono S n m h
  unfold at_
  omega

theorem u16_wf {v : Int} (hv : (Lit.int .u16 v).wf = true) : ∃ x : Nat, v = (x : Int) ∧ x < 65536 := by
  simp only [Lit.wf, Bool.and_eq_true, decide_eq_true_eq] at hv
  have h1 : IntKind.u16.min = 0 := rfl
  have h2 : IntKind.u16.max = 65535 := rfl
  rw [h1, h2] at hv
  exact ⟨v.toNat, by omega, by omega⟩

set_option maxRecDepth 100000 in
set_option maxHeartbeats 4000000 in
theorem walk (w : World) (x : Int) (hx : (Lit.int .u16 x).wf = true) (y : Int) (hy : (Lit.int .u16 y).wf = true) :
    Calls Try.prog 5 #[.int .u16 x, .int .u16 y] w fun e w' => e = .returned (.bool true) ∧ Below w.heap.size w w' := by
  obtain ⟨d0, rfl, hd0⟩ := u16_wf hx
  obtain ⟨m0, rfl, hm0⟩ := u16_wf hy
  clear hx hy
  have hsays := fun W => says_any W
  go_enter Try.func5, Try.ntmps5
  go_wp2
  go_loopw [5, 6, 7, 8, 9, 10, 11, 12, 13] (fun was s _ _ _ _ _ _ _ wr => ∃ n q : Nat, 3 ≤ n ∧ n ≤ 259 ∧ s = .int .i64 (n : Int) ∧ was = .int .i64 (q : Int) ∧ q ≤ 257 + at_ lenS n ∧ Below w.heap.size w wr) (fun _ s _ _ _ _ _ _ _ _ => 259 - (intOf s).toNat)
  case atStart => exact ⟨3, 0, Nat.le_refl _, by omega, rfl, rfl, Nat.zero_le _, Below.refl _ _⟩
  case round =>
    obtain ⟨n, q, hn3, hn, rfl, rfl, hq, hb⟩ := hrel
    by_cases hlt : n ≤ 258
    · obtain ⟨k, z, y, d, P, hk, hka, ha, ho, hyd, hdP, hP, hz, hP2⟩ := len_fact n hn3 hlt
      have h1 := fun W => length_any W (n : Int) (by omega) (by omega)
      have h2 := fun W => lengthOf_any W ((257 + k : Nat) : Int) (by omega) (by omega)
      rw [ha] at h1
      rw [ho] at h2
      rw [← hka] at hq
      have hmo := at_mono lenS n (n + 1) (by omega)
      rw [← hka] at hmo
      have HMO := Lib.hid hmo
      have hP1 : (2 : Int) ^ z = (P : Int) := by rw [← hP]; simp
      have hyd1 : (y : Int) + (d : Int) = (n : Int) := by omega
      obtain ⟨m, hm⟩ : ∃ m, 257 + k = m := ⟨_, rfl⟩
      rw [hm] at h1 h2 hq
      have hmm : m ≤ 300 := by omega
      have HM := Lib.hid hm
      have hn1 : n < 259 := by omega
      clear hm ha ho hka hmo hyd hP hk hsays
      go_wp2_with (first | (go_at_call 9; refine (h1 _).mono ?_; rintro e w1 ⟨rfl, hb1⟩) | (go_at_call 13; refine (h2 _).mono ?_; rintro e w2 ⟨rfl, hb2⟩))
      exact ⟨⟨n + 1, m, by omega, by omega, by go_num, rfl, by have h8 := HM.out; have h9 := HMO.out; omega, Below.andThen hb (Below.andThen hb1 hb2)⟩, by simp [intOf]; omega⟩
    · obtain rfl : n = 259 := by omega
      clear hn3 hn hq hlt
      obtain ⟨r0, hr0⟩ : ∃ r0, d0 % 32768 = r0 := ⟨_, rfl⟩
      have hr1 : (d0 : Int) % 32768 = (r0 : Int) := by omega
      have hr2 : r0 < 32768 := by omega
      obtain ⟨a, ha⟩ : ∃ a, 1 + r0 = a := ⟨_, rfl⟩
      have ha1 : (1 : Int) + (r0 : Int) = (a : Int) := by omega
      obtain ⟨s, hs⟩ : ∃ s, 32769 - a = s := ⟨_, rfl⟩
      have hs1 : (32769 : Int) - (a : Int) = (s : Int) := by omega
      have hs0 : 0 < s := by omega
      obtain ⟨r5, hr5⟩ : ∃ r5, m0 % s = r5 := ⟨_, rfl⟩
      have hr6 : (m0 : Int) % (s : Int) = (r5 : Int) := by rw [← hr5]; simp
      have hr7 : r5 < s := by rw [← hr5]; exact Nat.mod_lt _ hs0
      obtain ⟨c, hc⟩ : ∃ c, a + r5 = c := ⟨_, rfl⟩
      have hc1 : (a : Int) + (r5 : Int) = (c : Int) := by omega
      have hA1 : 1 ≤ a := by omega
      have hA2 : a ≤ 32768 := by omega
      have hC1 : a ≤ c := by omega
      have hC2 : c ≤ 32768 := by omega
      clear hr0 ha hs hr5 hc
      obtain ⟨k, z, y, d, P, hk, hka, ha, ho, hyd, hdP, hP, hz, hP2⟩ := dis_fact a hA1 hA2
      obtain ⟨k', z', y', d', P', hk', hka', ha', -⟩ := dis_fact c (by omega) hC2
      have hkk : k ≤ k' := by rw [hka, hka']; exact at_mono disS a c hC1
      have h1 := fun W => distance_any W (a : Int) (by omega) (by omega)
      have h2 := fun W => distanceOf_any W (k : Int) (by omega) (by omega)
      have h3 := fun W => distance_any W (c : Int) (by omega) (by omega)
      rw [ha] at h1
      rw [ho] at h2
      rw [ha'] at h3
      have hP1 : (2 : Int) ^ z = (P : Int) := by rw [← hP]; simp
      have hyd1 : (y : Int) + (d : Int) = (a : Int) := by omega
      clear ha ho ha' hka hka' hyd hP
      go_wp2_with fail
      refine (h1 _).mono ?_
      rintro e w1 ⟨rfl, hb1⟩
      clear h1
      go_wp2_with (go_at_call 16; refine (h2 _).mono ?_; rintro e w2 ⟨rfl, hb2⟩)
      refine (h3 _).mono ?_
      rintro e w3 ⟨rfl, hb3⟩
      clear h2 h3
      go_wp2_with (go_at_call 17; refine (hsays _).mono ?_; rintro e w4 ⟨rfl, hb4⟩)
      go_ret
      exact ⟨rfl, Below.andThen hb (Below.andThen (Below.andThen (Below.andThen hb1 hb2) hb3) hb4)⟩

end Go.Proofs.Ytmooiheomecieaa.tokenSays
