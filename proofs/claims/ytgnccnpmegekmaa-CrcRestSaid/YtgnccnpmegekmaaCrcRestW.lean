/-
  Bytes, and behind them the four bytes of their sum, have one sum: the walk of CrcRest. No conditions.
-/
import Derived.Test.YtgnccnpmegekmaaCrcM
namespace Go.Proofs.Ytgnccnpmegekmaa.crcRest
open Go.RowKit Go.Proofs.Ytgnccnpmegekmaa.Crc

theorem le4_u8s (v : Nat) (h : v < 4294967296) : [Value.int .u8 ((v : Int) % 256), .int .u8 ((v : Int) / 256 % 256), .int .u8 ((v : Int) / 65536 % 256), .int .u8 ((v : Int) / 16777216)] = u8s (le4 v) := by
  have e : (v : Int) / 16777216 = (v : Int) / 16777216 % 256 := by omega
  rw [e]
  simp [u8s, le4]
theorem be4_u8s (v : Nat) (h : v < 4294967296) : [Value.int .u8 ((v : Int) / 16777216), .int .u8 ((v : Int) / 65536 % 256), .int .u8 ((v : Int) / 256 % 256), .int .u8 ((v : Int) % 256)] = u8s (be4 v) := by
  have e : (v : Int) / 16777216 = (v : Int) / 16777216 % 256 := by omega
  rw [e]
  simp [u8s, be4]
theorem le4_lt (v : Nat) : ∀ x ∈ le4 v, x < 256 := by intro x hx; simp only [le4, List.mem_cons, List.not_mem_nil, or_false] at hx; omega
theorem be4_lt (v : Nat) : ∀ x ∈ be4 v, x < 256 := by intro x hx; simp only [be4, List.mem_cons, List.not_mem_nil, or_false] at hx; omega

theorem app_lt {xs ys : List Nat} (hx : ∀ x ∈ xs, x < 256) (hy : ∀ x ∈ ys, x < 256) : ∀ x ∈ xs ++ ys, x < 256 := by
  intro x h
  rcases List.mem_append.1 h with h | h
  · exact hx x h
  · exact hy x h

set_option maxRecDepth 100000 in
set_option maxHeartbeats 1000000 in
theorem walk (w : World) (v : Value) (xs : List Nat) (hb : ByteRow w v xs) :
    Calls Try.prog 8 #[v] w fun e w' => e = .returned (.bool true) ∧ Below w.heap.size w w' := by
  have hbyte := hb.byte
  obtain ⟨a, cap, rfl, hc, -⟩ := id hb
  by_cases c1 : 5000 < xs.length
  · go_enter Try.func8, Try.ntmps8
    go_wp2
    go_ret
    exact ⟨rfl, Below.refl _ _⟩
  · have hl : xs.length ≤ 140737488355328 := by omega
    have HB := Lib.hid hb
    clear hb
    have h1 : lowSum xs < 4294967296 := (lowReg _ ^^^ ones).isLt
    have h2 : highSum xs < 4294967296 := (highReg _ ^^^ ones).isLt
    have r1 := low_rest xs
    have r2 := high_rest xs
    have l1 := app_lt hbyte (le4_lt (lowSum xs))
    have l2 := app_lt hbyte (be4_lt (highSum xs))
    have e1 := le4_u8s (lowSum xs) h1
    have e2 := be4_u8s (highSum xs) h2
    have m1 : (xs ++ le4 (lowSum xs)).length = xs.length + 4 := List.length_append
    have m2 : (xs ++ be4 (highSum xs)).length = xs.length + 4 := List.length_append
    have H := Lib.hid (And.intro r1 (And.intro r2 (And.intro l1 (And.intro l2 (And.intro e1 (And.intro e2 (And.intro m1 m2)))))))
    clear r1 r2 l1 l2 e1 e2 m1 m2
    go_enter Try.func8, Try.ntmps8
    go_wp2_with fail
    refine (low_st (St.start w) HB.out hl).mono ?_
    rintro e w1 ⟨rfl, s1, -⟩
    go_wp2_with fail
    refine (high_st s1 (HB.out.below (s1.below (Nat.le_refl _)) (Nat.le_refl _)) hl).mono ?_
    rintro e w2 ⟨rfl, s2, -⟩
    clear s1
    obtain ⟨p, hp⟩ : ∃ p, lowSum xs = p := ⟨_, rfl⟩
    obtain ⟨q, hq⟩ : ∃ q, highSum xs = q := ⟨_, rfl⟩
    rw [hp, hq] at H
    rw [hp] at h1
    rw [hq] at h2
    simp only [hp, hq]
    clear hp hq
    go_wp2_with (at_builtin; refine wpList_copy rfl _ _ rfl s2 (HB.out.below (s2.below (Nat.le_refl _)) (Nat.le_refl _)) rfl rfl hl ?_)
    intro v3 w3 s3
    obtain ⟨ad3, cp3, rfl⟩ := ownsRow_slice s3.row
    go_wp2_with (at_builtin; refine wpList_append_lit (m := 4) rfl _ _ rfl s3 rfl [.int .u8 ((p : Int) % 256), .int .u8 ((p : Int) / 256 % 256), .int .u8 ((p : Int) / 65536 % 256), .int .u8 ((p : Int) / 16777216)] rfl rfl ?c1 (by omega) ?_)
    case c1 => intro u hu; simp at hu; rcases hu with rfl | rfl | rfl | rfl <;> rfl
    intro v4 w4 s4
    obtain ⟨r1, r2, l1, l2, e1, e2, m1, m2⟩ := H.out
    rw [e1, ← u8s_append, ← m1] at s4
    clear s3 r1 r2 l1 l2 e1 e2 m1 m2
    go_wp2_with fail
    refine (low_st s4 (St.bytesRow s4 H.out.2.2.1) (by rw [H.out.2.2.2.2.2.2.1]; omega)).mono ?_
    rintro e w5 ⟨rfl, s5, -⟩
    rw [H.out.1]
    have s6 := s5.drop
    clear s4 s5
    go_wp2_with (at_builtin; refine wpList_copyW rfl _ _ rfl s6 (HB.out.below (s6.below (Nat.le_refl _)) (Nat.le_refl _)) rfl rfl hl ?_)
    intro v7 w7 s7
    obtain ⟨ad7, cp7, rfl⟩ := ownsRow_slice s7.row
    go_wp2_with (at_builtin; refine wpList_append_lit (m := 4) rfl _ _ rfl s7 rfl [.int .u8 ((q : Int) / 16777216), .int .u8 ((q : Int) / 65536 % 256), .int .u8 ((q : Int) / 256 % 256), .int .u8 ((q : Int) % 256)] rfl rfl ?c1 (by omega) ?_)
    case c1 => intro u hu; simp at hu; rcases hu with rfl | rfl | rfl | rfl <;> rfl
    intro v8 w8 s8
    obtain ⟨r1, r2, l1, l2, e1, e2, m1, m2⟩ := H.out
    rw [e2, ← u8s_append, ← m2] at s8
    clear s7 r1 r2 l1 l2 e1 e2 m1 m2
    go_wp2_with fail
    refine (high_st s8 (St.bytesRow s8 H.out.2.2.2.1) (by rw [H.out.2.2.2.2.2.2.2]; omega)).mono ?_
    rintro e w9 ⟨rfl, s9, -⟩
    rw [H.out.2.1]
    go_wp2_with fail
    refine (sums_st s9).mono ?_
    rintro e w10 ⟨rfl, s10⟩
    clear s8 s9
    go_wp2
    go_ret
    exact ⟨rfl, s10.below (Nat.le_refl _)⟩

end Go.Proofs.Ytgnccnpmegekmaa.crcRest
