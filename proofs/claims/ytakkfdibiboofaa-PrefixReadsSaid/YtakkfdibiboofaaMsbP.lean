/-
  Contracts of the calls of package msb's writer. No conditions but that rows stay below 2^50 bits.
-/
import Derived.Test.YtakkfdibiboofaaMsbW
import Derived.WalkSpells
namespace Go.Proofs.Ytakkfdibiboofaa.Msb
open Go.RowKit

theorem WrTo.trans {w w1 w2 : World} {pb : Nat} {v v1 : Value} {l2 : List Bool} (ho : Only (Mine pb v) w w1) (hf : Fresh w v v1) (k : WrTo w1 pb v1 l2 w2) : WrTo w pb v l2 w2 := by
  obtain ⟨v2, h2, o2, f2⟩ := k
  exact ⟨v2, h2, ho.trans o2 (fun i hi hm => Mine.of_fresh hf hi hm), hf.trans ho.size f2⟩

/-- What holds of 'spread' ahead of round k. -/
def SpreadAt (w : World) (pb : Nat) (v : Value) (l : List Bool) (x n k : Nat) (wr : World) : Prop := WrTo w pb v (l ++ (bitsOf x n).take k) wr

theorem spread_bit (x : Nat) (k : Nat) : bits .and .u8 ((x : Int) / 2 ^ k % 256) 1 = (((x / 2 ^ k % 2 == 1 : Bool).toNat : Nat) : Int) := by
  have e : (x : Int) / 2 ^ k = ((x / 2 ^ k : Nat) : Int) := by simp
  rw [e, and1_u8 _ (by omega) (by omega)]
  generalize x / 2 ^ k = y
  rcases Nat.mod_two_eq_zero_or_one y with h | h <;> simp [h] <;> omega

theorem spread_any (w : World) (pb : Nat) (v : Value) (l : List Bool) (x n : Nat) (h : Wr w pb v l) (hl : l.length + n < 1125899906842000) (hn : n ≤ 32) (hx : x < 4294967296) :
    Calls Try.prog 60 #[.int .u32 (x : Int), .int .i64 (n : Int), .func (.func 61) #[.pointer (some ⟨pb, 0, none⟩)] #[]] w fun e w' => e = .returned (.tuple #[]) ∧ WrTo w pb v (l ++ bitsOf x n) w' := by
  have hx' : (x : Int) < 4294967296 := by omega
  go_enter Try.func60, Try.ntmps60
  go_wp2
  go_loopw [6, 8] (fun _ i wr => ∃ k : Nat, k ≤ n ∧ i = .int .i64 (k : Int) ∧ SpreadAt w pb v l x n k wr) (fun _ i _ => n - (intOf i).toNat)
  case atStart => exact ⟨0, Nat.zero_le _, rfl, by unfold SpreadAt; simpa [bitsOf] using WrTo.refl h⟩
  case round =>
    obtain ⟨k, hk, rfl, hto⟩ := hrel
    by_cases hlt : k < n
    · go_wp2_with fail
      obtain ⟨v1, h1, o1, f1⟩ := hto
      rw [spread_bit x (n - 1 - k)]
      refine (lay_any wr pb v1 (l ++ (bitsOf x n).take k) _ h1 (by simp [bitsOf_length]; omega)).mono ?_
      rintro e w2 ⟨rfl, hto2⟩
      have hto3 : SpreadAt w pb v l x n (k + 1) w2 := by
        unfold SpreadAt
        rw [bitsOf_take x n k hlt, ← List.append_assoc]
        exact WrTo.trans o1 f1 hto2
      clear hto2 h1 o1 f1
      go_wp2
      go_roundw
      case rel => exact ⟨k + 1, by omega, by go_num, hto3⟩
      case measure => simp [intOf]; omega
    · go_wp2
      go_end0
      obtain rfl : k = n := by omega
      unfold SpreadAt at hto
      rw [List.take_of_length_le (by rw [bitsOf_length]; exact Nat.le_refl _)] at hto
      exact ⟨rfl, hto⟩

/-- Put: a number that may be. -/
theorem put_ok (w : World) (pb : Nat) (v : Value) (l : List Bool) (x n : Nat) (h : Wr w pb v l) (hl : l.length + n < 1125899906842000) (hn : n ≤ 32) (hx : x < 2 ^ n) :
    Calls Try.prog 41 #[.pointer (some ⟨pb, 0, none⟩), .int .u32 (x : Int), .int .i64 (n : Int)] w fun e w' => e = .returned (.int .i64 0) ∧ WrTo w pb v (l ++ bitsOf x n) w' := by
  have hx2 : x < 4294967296 := Nat.lt_of_lt_of_le hx (Nat.pow_le_pow_right (by omega) hn)
  have hx' : (x : Int) < 4294967296 := by omega
  have hq : ((x : Int) / 2 ^ n != 0) = false := by
    rw [show (x : Int) / 2 ^ n = ((x / 2 ^ n : Nat) : Int) from by simp, Nat.div_eq_of_lt hx]
    rfl
  have d1 : decide ((n : Int) < 0) = false := by simp
  have d2 : decide ((32 : Int) < (n : Int)) = false := by simp; omega
  go_enter Try.func41, Try.ntmps41
  go_wp2_with fail
  refine (spread_any w pb v l x n h hl hn hx2).mono ?_
  rintro e w1 ⟨rfl, hto⟩
  go_wp2
  go_ret
  exact ⟨rfl, hto⟩

/-- Put: a number that may not be. -/
theorem put_arg (w : World) (pb : Nat) (x n : Int) (hx0 : 0 ≤ x) (hx1 : x < 4294967296) (hn : n < 0 ∨ 32 < n ∨ ¬ x < 2 ^ n.toNat) :
    Calls Try.prog 41 #[.pointer (some ⟨pb, 0, none⟩), .int .u32 x, .int .i64 n] w fun e w' => e = .returned (.int .i64 5) ∧ w = w' := by
  by_cases c1 : n < 0
  · go_enter Try.func41, Try.ntmps41
    go_wp2
    go_ret
    exact ⟨rfl, rfl⟩
  · by_cases c2 : 32 < n
    · go_enter Try.func41, Try.ntmps41
      go_wp2
      go_ret
      exact ⟨rfl, rfl⟩
    · obtain ⟨k, rfl⟩ := Int.eq_ofNat_of_zero_le (show 0 ≤ n by omega)
      have hq : ((x : Int) / 2 ^ k != 0) = true := by
        obtain ⟨y, rfl⟩ := Int.eq_ofNat_of_zero_le hx0
        have h3 : ¬ (y : Int) < 2 ^ k := by rcases hn with hn | hn | hn <;> first | omega | exact hn
        have h4 : ¬ y < 2 ^ k := fun h => h3 (by exact_mod_cast h)
        rw [bne_iff_ne, show (y : Int) / 2 ^ k = ((y / 2 ^ k : Nat) : Int) from by simp]
        have := Nat.div_pos (Nat.le_of_not_lt h4) (Nat.two_pow_pos k)
        omega
      clear hn
      have d1 : decide ((k : Int) < 0) = false := by simp
      have d2 : decide ((32 : Int) < (k : Int)) = false := by simp; omega
      go_enter Try.func41, Try.ntmps41
      go_wp2
      go_ret
      exact ⟨rfl, rfl⟩

/-- Len. -/
theorem len_any (w : World) (pb : Nat) (v : Value) (l : List Bool) (h : Wr w pb v l) :
    Calls Try.prog 26 #[.pointer (some ⟨pb, 0, none⟩)] w fun e w' => e = .returned (.int .i64 (l.length : Int)) ∧ w = w' := by
  obtain ⟨hc0, hc1, hf0, hf1⟩ := cell_two h.head
  go_enter Try.func26, Try.ntmps26
  go_wp2
  go_ret
  exact ⟨rfl, rfl⟩

end Go.Proofs.Ytakkfdibiboofaa.Msb
