/-
  A number of n bits is laid as its higher k bits and then the others, and read so: the walk of MsbSplit. No conditions.
-/
import Derived.Test.YtlhhoiimmalpgaaMsbLays
import Derived.Test.YtlhhoiimmalpgaaRegion
namespace Go.Proofs.Ytlhhoiimmalpgaa.Msb.msbSplit
open Go.RowKit

theorem read_part (A C D : List Bool) : bitsAt (pk (A ++ C ++ D)) A.length C.length = C := by
  rw [bitsAt_pk _ _ _ (by simp)]
  simp

theorem bits_split (x pt d : Nat) : bitsOf x (pt + d) = bitsOf (x / 2 ^ d) pt ++ bitsOf (x % 2 ^ d) d := by
  induction d generalizing x with
  | zero => simp [bitsOf]
  | succ d ih =>
    rw [show pt + (d + 1) = (pt + d) + 1 from by omega, bitsOf, bitsOf, ih (x / 2), List.append_assoc]
    have e1 : x % 2 ^ (d + 1) % 2 = x % 2 := by rw [Nat.pow_succ, Nat.mul_comm, Nat.mod_mul_right_mod]
    have e2 : x % 2 ^ (d + 1) / 2 = x / 2 % 2 ^ d := by rw [Nat.pow_succ, Nat.mul_comm, Nat.mod_mul_right_div_self]
    have e3 : x / 2 ^ (d + 1) = x / 2 / 2 ^ d := by rw [Nat.pow_succ, Nat.mul_comm, Nat.div_div_eq_div_mul]
    rw [e1, e2, e3]

set_option maxRecDepth 100000 in
set_option maxHeartbeats 1000000 in
theorem walk1 (w : World) (ah v n k sz pt d hd P x R fi la : Nat) (h0 : ah < 256) (h2 : n < 256) (h3 : k < 256) (e1 : (n : Int) % 33 = (sz : Int)) (e2 : (k : Int) % ((sz : Int) + 1) = (pt : Int)) (e3 : (ah : Int) % 20 + 1 = (hd : Int))
    (b1 : pt + d = sz) (e14 : (sz : Int) - (pt : Int) = (d : Int)) (hlt : sz < 32) (e4 : (2 : Int) ^ sz % 4294967296 = (P : Int)) (e5 : 0 < P) (e6 : (v : Int) % (P : Int) = (x : Int)) (HX : Hid (x < 2 ^ sz))
    (e7 : IntKind.u64.wrap (x : Int) = (x : Int)) (e8 : IntKind.u64.wrap ((2 : Int) ^ d) = (R : Int)) (e9 : 0 < R) (e10 : (x : Int) % (R : Int) = (la : Int)) (e11 : (x : Int) / 2 ^ d = (fi : Int))
    (HFi : Hid (fi < 2 ^ pt)) (HLa : Hid (la < 2 ^ d)) (e12 : (fi : Int) % 4294967296 = (fi : Int)) (e13 : (la : Int) % 4294967296 = (la : Int)) (HB : Hid (bitsOf x sz = bitsOf fi pt ++ bitsOf la d)) :
    Calls Try.prog 7 #[.int .u8 (ah : Int), .int .u32 (v : Int), .int .u8 (n : Int), .int .u8 (k : Int)] w fun e w' => e = .returned (.bool true) ∧ Below w.heap.size w w' := by
  have s0 := (St.start w).mnewWr.mnewWr.swap
  go_enter Try.func7, Try.ntmps7
  go_wp2_with fail
  refine (put_st s0 1 hd (by simp; omega) (by omega) (Nat.one_lt_two_pow (by omega))).mono ?_
  rintro e w1 ⟨rfl, s1⟩
  have s2 := s1.swap
  clear s0 s1
  rw [World.size_alloc] at s2
  go_wp2_with fail
  refine (put_st s2 1 hd (by simp; omega) (by omega) (Nat.one_lt_two_pow (by omega))).mono ?_
  rintro e w3 ⟨rfl, s3⟩
  have s4 := s3.swap
  clear s2 s3
  go_wp2_with fail
  refine (put_st s4 x sz (by simp [bitsOf_length]; omega) (by omega) HX.out).mono ?_
  rintro e w5 ⟨rfl, s5⟩
  have s6 := s5.swap
  clear s4 s5
  go_wp2_with fail
  go_quiet (fail)
  have s7 := s6.drewN nq
  clear s6
  go_wp2_with fail
  refine (put_st s7 fi pt (by simp [bitsOf_length]; omega) (by omega) HFi.out).mono ?_
  rintro e w8 ⟨rfl, s8⟩
  clear s7
  go_wp2_with fail
  refine (put_st s8 la d (by simp [bitsOf_length]; omega) (by omega) HLa.out).mono ?_
  rintro e w9 ⟨rfl, s9⟩
  have s10 := s9.swap
  clear s8 s9
  go_wp2_with fail
  refine (bytes_st s10 (by simp [bitsOf_length]; omega)).mono ?_
  rintro e w11 ⟨v11, rfl, s11⟩
  clear s10
  go_wp2_with fail
  refine (new_st s11.drop (Reads.of_owns s11.row) (pk_lt _) (by rw [pk_length]; simp [bitsOf_length]; omega)).mono ?_
  rintro e w12 ⟨qb, rfl, s12⟩
  clear s11
  have len1 : 8 * (pk ([] ++ bitsOf 1 hd ++ bitsOf x sz)).length = 8 * ((hd + sz + 7) / 8) := by rw [pk_length]; simp [bitsOf_length]
  have L1 := Lib.hid len1
  clear len1
  go_wp2_with fail
  refine (get_st s12 hd (by omega) (by have := L1.out; omega)).mono ?_
  rintro e w13 ⟨rfl, s13⟩
  clear s12
  go_wp2_with fail
  refine (get_st s13 pt (by omega) (by have := L1.out; omega)).mono ?_
  rintro e w14 ⟨he, s14⟩
  have g1 : num (bitsAt (pk ([] ++ bitsOf 1 hd ++ bitsOf x sz)) (0 + hd) pt) = fi := by
    have e := read_part (bitsOf 1 hd) (bitsOf fi pt) (bitsOf la d)
    rw [bitsOf_length, bitsOf_length] at e
    rw [HB.out, List.nil_append, ← List.append_assoc, Nat.zero_add, e, num_bitsOf_lt HFi.out]
  rw [g1] at he
  subst he
  clear s13 g1
  go_wp2_with fail
  refine (get_st s14 d (by omega) (by have := L1.out; omega)).mono ?_
  rintro e w15 ⟨he, s15⟩
  have g2 : num (bitsAt (pk ([] ++ bitsOf 1 hd ++ bitsOf x sz)) (0 + hd + pt) d) = la := by
    have e := read_part (bitsOf 1 hd ++ bitsOf fi pt) (bitsOf la d) []
    rw [List.length_append, bitsOf_length, bitsOf_length, bitsOf_length, List.append_nil] at e
    rw [HB.out, List.nil_append, ← List.append_assoc, Nat.zero_add, e, num_bitsOf_lt HLa.out]
  rw [g2] at he
  subst he
  clear s14 g2
  go_wp2_with fail
  rw [List.append_assoc ([] ++ bitsOf 1 hd), ← HB.out] at s15
  have hL : ([] ++ bitsOf 1 hd ++ bitsOf x sz).length < 1125899906842000 := by simp [bitsOf_length]; omega
  have sD := s15.drop.drew
  clear s15 L1
  generalize [] ++ bitsOf 1 hd ++ bitsOf x sz = L at sD hL
  refine region_seg (by kernel_rfl) [0, 1, 2, 3, 4, 5, 6, 7, 8, 9, 10, 11] 29 rfl (by kernel_rfl) (by kernel_rfl) (fun _ _ d _ _ h => by cases d <;> exact h) ?_
  intro K hK
  simp only [pickL, List.getElem?_cons_zero, List.getElem?_cons_succ]
  go_wp2_with fail
  refine (bytes_st sD hL).mono ?_
  rintro e w16 ⟨v16, rfl, s16⟩
  have cv16 := s16.string
  go_wp2_with fail
  refine wpAny_late (c := 12) (v := .string (strOf (pk L))) rfl (by kernel_rfl) (fun _ _ d _ _ h => by cases d <;> exact h) 26 [13, 14] _ _ _ (by kernel_rfl) ⟨rfl, by go_simp⟩ ?_
  refine late_step _ rfl ?_
  intro N hN
  go_wp2_with fail
  refine (bytes_st s16.third hL).mono ?_
  rintro e w17 ⟨v17, rfl, s17⟩
  have cv17 := s17.string
  have cv18 := s17.third.string
  go_wp2_with fail
  refine hN _ _ ⟨rfl, by go_simp⟩ ?_
  refine late_step _ rfl ?_
  intro N2 hN2
  go_wp2_with fail
  refine hN2 _ _ ⟨rfl, by go_simp⟩ ?_
  refine late_end ?_
  refine mid_seg [15, 16, 17, 18, 19, 20, 21, 22, 23, 24, 25, 28, 26, 27, 29, 30, 31, 34, 32, 33, 35, 36, 37, 38, 39, 40] 0 (by kernel_rfl) (by kernel_rfl) (fun _ _ d _ _ h => by cases d <;> exact h) ?_
  clear hN hN2 N N2 cv16 cv17 cv18
  intro K2 hK2
  simp only [pickL, List.getElem?_cons_zero, List.getElem?_cons_succ]
  go_wp2_with fail
  refine (lays_st s17).mono ?_
  rintro e w18 ⟨rfl, s18⟩
  go_wp2_with fail
  refine wpAny_done (by kernel_rfl) ?_ 0
  go_wp2
  go_ret
  exact ⟨rfl, s18.below (Nat.le_refl _)⟩

set_option maxRecDepth 100000 in
set_option maxHeartbeats 1000000 in
theorem walk2 (w : World) (ah n k sz pt d hd x R fi la : Nat) (h0 : ah < 256) (h2 : n < 256) (h3 : k < 256) (e1 : (n : Int) % 33 = (sz : Int)) (e2 : (k : Int) % ((sz : Int) + 1) = (pt : Int)) (e3 : (ah : Int) % 20 + 1 = (hd : Int))
    (b1 : pt + d = sz) (e14 : (sz : Int) - (pt : Int) = (d : Int)) (hlt : sz = 32) (HX : Hid (x < 2 ^ sz))
    (e7 : IntKind.u64.wrap (x : Int) = (x : Int)) (e8 : IntKind.u64.wrap ((2 : Int) ^ d) = (R : Int)) (e9 : 0 < R) (e10 : (x : Int) % (R : Int) = (la : Int)) (e11 : (x : Int) / 2 ^ d = (fi : Int))
    (HFi : Hid (fi < 2 ^ pt)) (HLa : Hid (la < 2 ^ d)) (e12 : (fi : Int) % 4294967296 = (fi : Int)) (e13 : (la : Int) % 4294967296 = (la : Int)) (HB : Hid (bitsOf x sz = bitsOf fi pt ++ bitsOf la d)) :
    Calls Try.prog 7 #[.int .u8 (ah : Int), .int .u32 (x : Int), .int .u8 (n : Int), .int .u8 (k : Int)] w fun e w' => e = .returned (.bool true) ∧ Below w.heap.size w w' := by
  have hge : ¬ (sz : Int) < 32 := by omega
  have hle : sz ≤ 32 := by omega
  have h32 : 32 ≤ sz := by omega
  clear hlt
  have s0 := (St.start w).mnewWr.mnewWr.swap
  go_enter Try.func7, Try.ntmps7
  go_wp2_with fail
  refine (put_st s0 1 hd (by simp; omega) (by omega) (Nat.one_lt_two_pow (by omega))).mono ?_
  rintro e w1 ⟨rfl, s1⟩
  have s2 := s1.swap
  clear s0 s1
  rw [World.size_alloc] at s2
  go_wp2_with fail
  refine (put_st s2 1 hd (by simp; omega) (by omega) (Nat.one_lt_two_pow (by omega))).mono ?_
  rintro e w3 ⟨rfl, s3⟩
  have s4 := s3.swap
  clear s2 s3
  go_wp2_with fail
  refine (put_st s4 x sz (by simp [bitsOf_length]; omega) (by omega) HX.out).mono ?_
  rintro e w5 ⟨rfl, s5⟩
  have s6 := s5.swap
  clear s4 s5
  go_wp2_with fail
  go_quiet (fail)
  have s7 := s6.drewN nq
  clear s6
  go_wp2_with fail
  refine (put_st s7 fi pt (by simp [bitsOf_length]; omega) (by omega) HFi.out).mono ?_
  rintro e w8 ⟨rfl, s8⟩
  clear s7
  go_wp2_with fail
  refine (put_st s8 la d (by simp [bitsOf_length]; omega) (by omega) HLa.out).mono ?_
  rintro e w9 ⟨rfl, s9⟩
  have s10 := s9.swap
  clear s8 s9
  go_wp2_with fail
  refine (bytes_st s10 (by simp [bitsOf_length]; omega)).mono ?_
  rintro e w11 ⟨v11, rfl, s11⟩
  clear s10
  go_wp2_with fail
  refine (new_st s11.drop (Reads.of_owns s11.row) (pk_lt _) (by rw [pk_length]; simp [bitsOf_length]; omega)).mono ?_
  rintro e w12 ⟨qb, rfl, s12⟩
  clear s11
  have len1 : 8 * (pk ([] ++ bitsOf 1 hd ++ bitsOf x sz)).length = 8 * ((hd + sz + 7) / 8) := by rw [pk_length]; simp [bitsOf_length]
  have L1 := Lib.hid len1
  clear len1
  go_wp2_with fail
  refine (get_st s12 hd (by omega) (by have := L1.out; omega)).mono ?_
  rintro e w13 ⟨rfl, s13⟩
  clear s12
  go_wp2_with fail
  refine (get_st s13 pt (by omega) (by have := L1.out; omega)).mono ?_
  rintro e w14 ⟨he, s14⟩
  have g1 : num (bitsAt (pk ([] ++ bitsOf 1 hd ++ bitsOf x sz)) (0 + hd) pt) = fi := by
    have e := read_part (bitsOf 1 hd) (bitsOf fi pt) (bitsOf la d)
    rw [bitsOf_length, bitsOf_length] at e
    rw [HB.out, List.nil_append, ← List.append_assoc, Nat.zero_add, e, num_bitsOf_lt HFi.out]
  rw [g1] at he
  subst he
  clear s13 g1
  go_wp2_with fail
  refine (get_st s14 d (by omega) (by have := L1.out; omega)).mono ?_
  rintro e w15 ⟨he, s15⟩
  have g2 : num (bitsAt (pk ([] ++ bitsOf 1 hd ++ bitsOf x sz)) (0 + hd + pt) d) = la := by
    have e := read_part (bitsOf 1 hd ++ bitsOf fi pt) (bitsOf la d) []
    rw [List.length_append, bitsOf_length, bitsOf_length, bitsOf_length, List.append_nil] at e
    rw [HB.out, List.nil_append, ← List.append_assoc, Nat.zero_add, e, num_bitsOf_lt HLa.out]
  rw [g2] at he
  subst he
  clear s14 g2
  go_wp2_with fail
  rw [List.append_assoc ([] ++ bitsOf 1 hd), ← HB.out] at s15
  have hL : ([] ++ bitsOf 1 hd ++ bitsOf x sz).length < 1125899906842000 := by simp [bitsOf_length]; omega
  have sD := s15.drop.drew
  clear s15 L1
  generalize [] ++ bitsOf 1 hd ++ bitsOf x sz = L at sD hL
  refine region_seg (by kernel_rfl) [0, 1, 2, 3, 4, 5, 6, 7, 8, 9, 10, 11] 29 rfl (by kernel_rfl) (by kernel_rfl) (fun _ _ d _ _ h => by cases d <;> exact h) ?_
  intro K hK
  simp only [pickL, List.getElem?_cons_zero, List.getElem?_cons_succ]
  go_wp2_with fail
  refine (bytes_st sD hL).mono ?_
  rintro e w16 ⟨v16, rfl, s16⟩
  have cv16 := s16.string
  go_wp2_with fail
  refine wpAny_late (c := 12) (v := .string (strOf (pk L))) rfl (by kernel_rfl) (fun _ _ d _ _ h => by cases d <;> exact h) 26 [13, 14] _ _ _ (by kernel_rfl) ⟨rfl, by go_simp⟩ ?_
  refine late_step _ rfl ?_
  intro N hN
  go_wp2_with fail
  refine (bytes_st s16.third hL).mono ?_
  rintro e w17 ⟨v17, rfl, s17⟩
  have cv17 := s17.string
  have cv18 := s17.third.string
  go_wp2_with fail
  refine hN _ _ ⟨rfl, by go_simp⟩ ?_
  refine late_step _ rfl ?_
  intro N2 hN2
  go_wp2_with fail
  refine hN2 _ _ ⟨rfl, by go_simp⟩ ?_
  refine late_end ?_
  refine mid_seg [15, 16, 17, 18, 19, 20, 21, 22, 23, 24, 25, 28, 26, 27, 29, 30, 31, 34, 32, 33, 35, 36, 37, 38, 39, 40] 0 (by kernel_rfl) (by kernel_rfl) (fun _ _ d _ _ h => by cases d <;> exact h) ?_
  clear hN hN2 N N2 cv16 cv17 cv18
  intro K2 hK2
  simp only [pickL, List.getElem?_cons_zero, List.getElem?_cons_succ]
  go_wp2_with fail
  refine (lays_st s17).mono ?_
  rintro e w18 ⟨rfl, s18⟩
  go_wp2_with fail
  refine wpAny_done (by kernel_rfl) ?_ 0
  go_wp2
  go_ret
  exact ⟨rfl, s18.below (Nat.le_refl _)⟩

theorem walk (w : World) (a0 : Int) (w0 : (Lit.int .u8 a0).wf = true) (a1 : Int) (w1 : (Lit.int .u32 a1).wf = true) (a2 : Int) (w2 : (Lit.int .u8 a2).wf = true) (a3 : Int) (w3 : (Lit.int .u8 a3).wf = true) :
    Calls Try.prog 7 #[.int .u8 a0, .int .u32 a1, .int .u8 a2, .int .u8 a3] w fun e w' => e = .returned (.bool true) ∧ Below w.heap.size w w' := by
  have hu8 : ∀ z : Int, (Lit.int .u8 z).wf = true → ∃ y : Nat, z = (y : Int) ∧ y < 256 := by
    intro z hz
    simp only [Lit.wf, Bool.and_eq_true, decide_eq_true_eq] at hz
    have h1 : IntKind.u8.min = 0 := rfl
    have h2 : IntKind.u8.max = 255 := rfl
    rw [h1, h2] at hz
    exact ⟨z.toNat, by omega, by omega⟩
  obtain ⟨v, rfl, hv⟩ : ∃ y : Nat, a1 = (y : Int) ∧ y < 4294967296 := by
    simp only [Lit.wf, Bool.and_eq_true, decide_eq_true_eq] at w1
    have h1 : IntKind.u32.min = 0 := rfl
    have h2 : IntKind.u32.max = 4294967295 := rfl
    rw [h1, h2] at w1
    exact ⟨a1.toNat, by omega, by omega⟩
  obtain ⟨ah, rfl, h0⟩ := hu8 a0 w0
  obtain ⟨n, rfl, h2⟩ := hu8 a2 w2
  obtain ⟨k, rfl, h3⟩ := hu8 a3 w3
  have hsz : n % 33 ≤ 32 := by omega
  have hpt : k % (n % 33 + 1) ≤ n % 33 := by have := Nat.mod_lt k (show 0 < n % 33 + 1 by omega); omega
  obtain ⟨d, hd⟩ : ∃ d, k % (n % 33 + 1) + d = n % 33 := ⟨n % 33 - k % (n % 33 + 1), by omega⟩
  have e14 : ((n % 33 : Nat) : Int) - ((k % (n % 33 + 1) : Nat) : Int) = (d : Int) := by omega
  have pw : ∀ m : Nat, m ≤ 32 → 2 ^ m ≤ 4294967296 := fun m hm => Nat.pow_le_pow_right (n := 2) (by omega) hm
  have all : ∀ (x sz pt : Nat), sz ≤ 32 → pt + d = sz → x < 2 ^ sz →
      IntKind.u64.wrap (x : Int) = (x : Int) ∧ IntKind.u64.wrap ((2 : Int) ^ d) = ((2 ^ d : Nat) : Int) ∧ 0 < 2 ^ d ∧ (x : Int) % ((2 ^ d : Nat) : Int) = ((x % 2 ^ d : Nat) : Int) ∧ (x : Int) / 2 ^ d = ((x / 2 ^ d : Nat) : Int) ∧
      x / 2 ^ d < 2 ^ pt ∧ x % 2 ^ d < 2 ^ d ∧ ((x / 2 ^ d : Nat) : Int) % 4294967296 = ((x / 2 ^ d : Nat) : Int) ∧ ((x % 2 ^ d : Nat) : Int) % 4294967296 = ((x % 2 ^ d : Nat) : Int) ∧ bitsOf x sz = bitsOf (x / 2 ^ d) pt ++ bitsOf (x % 2 ^ d) d := by
    intro x sz pt h1 h2 hx
    have p1 := pw sz h1
    have p2 := pw pt (by omega)
    have p3 := pw d (by omega)
    have hlo : x % 2 ^ d < 2 ^ d := Nat.mod_lt _ (Nat.two_pow_pos d)
    have hhi : x / 2 ^ d < 2 ^ pt := by
      rw [Nat.div_lt_iff_lt_mul (Nat.two_pow_pos d), ← Nat.pow_add, h2]
      exact hx
    have h9 : ((x / 2 ^ d : Nat) : Int) % 4294967296 = ((x / 2 ^ d : Nat) : Int) := by
      generalize x / 2 ^ d = y at hhi
      omega
    refine ⟨?_, ?_, Nat.two_pow_pos d, by simp, by simp, hhi, hlo, h9, by omega, by rw [← h2]; exact bits_split x pt d⟩
    · rw [IntKind.wrap_u64]; omega
    · rw [IntKind.wrap_u64, show (2 : Int) ^ d = ((2 ^ d : Nat) : Int) from by simp]; omega
  by_cases h32 : n % 33 < 32
  · have hx : v % 2 ^ (n % 33) < 2 ^ (n % 33) := Nat.mod_lt _ (Nat.two_pow_pos _)
    obtain ⟨q1, q2, q3, q4, q5, q6, q7, q8, q9, q10⟩ := all (v % 2 ^ (n % 33)) (n % 33) (k % (n % 33 + 1)) hsz hd hx
    have p1 := pw (n % 33) hsz
    have p2 : 2 ^ (n % 33) * 2 ≤ 4294967296 := by rw [← Nat.pow_succ]; exact pw _ (by omega)
    refine walk1 w ah v n k (n % 33) (k % (n % 33 + 1)) d (ah % 20 + 1) (2 ^ (n % 33)) (v % 2 ^ (n % 33)) (2 ^ d) _ _ h0 h2 h3 (by omega) (by simp) (by omega) hd e14 h32 ?_ (Nat.two_pow_pos _) (by simp) hx q1 q2 q3 q4 q5 q6 q7 q8 q9 q10
    rw [show (2 : Int) ^ (n % 33) = ((2 ^ (n % 33) : Nat) : Int) from by simp]
    have := Nat.two_pow_pos (n % 33)
    omega
  · have e32 : n % 33 = 32 := by omega
    obtain ⟨q1, q2, q3, q4, q5, q6, q7, q8, q9, q10⟩ := all v (n % 33) (k % (n % 33 + 1)) hsz hd (by rw [e32]; exact hv)
    exact walk2 w ah n k (n % 33) (k % (n % 33 + 1)) d (ah % 20 + 1) v (2 ^ d) _ _ h0 h2 h3 (by omega) (by simp) (by omega) hd e14 e32 (by rw [e32]; exact hv) q1 q2 q3 q4 q5 q6 q7 q8 q9 q10

end Go.Proofs.Ytlhhoiimmalpgaa.Msb.msbSplit
