/-
  Contracts of the document's own answers for layer 2 (package pressworkref02): rows of bits as lists. No conditions but that rows are small.
-/
import Derived.Test.YtlhhoiimmalpgaaMsbT
import Derived.Test.YtlhhoiimmalpgaaBools
namespace Go.Proofs.Ytlhhoiimmalpgaa.Msb
open Go.RowKit

/-- May. -/
theorem may_no (w : World) (x n : Int) (h : n < 0 ∨ 32 < n) :
    Calls Try.prog 29 #[.int .u32 x, .int .i64 n] w fun e w' => e = .returned (.bool false) ∧ w = w' := by
  by_cases c1 : n < 0
  · go_enter Try.func29, Try.ntmps29
    go_wp2
    go_ret
    exact ⟨rfl, rfl⟩
  · have c2 : 32 < n := by omega
    go_enter Try.func29, Try.ntmps29
    go_wp2
    go_ret
    exact ⟨rfl, rfl⟩

theorem may_any (w : World) (x n : Nat) (hx : x < 4294967296) (h : n ≤ 32) :
    Calls Try.prog 29 #[.int .u32 (x : Int), .int .i64 (n : Int)] w fun e w' => e = .returned (.bool (decide (x < 2 ^ n))) ∧ w = w' := by
  have d1 : decide ((n : Int) < 0) = false := by simp
  have d2 : decide ((32 : Int) < (n : Int)) = false := by simp; omega
  go_enter Try.func29, Try.ntmps29
  go_wp2
  go_loop [0, 5] (fun a i => ∃ k : Nat, k ≤ n ∧ i = .int .i64 (k : Int) ∧ a = .int .u32 ((x / 2 ^ k : Nat) : Int)) (fun _ i => n - (intOf i).toNat)
  case atStart => exact ⟨0, by omega, rfl, by simp⟩
  case round =>
    obtain ⟨k, hk, rfl, rfl⟩ := hrel
    by_cases hlt : k < n
    · have hy0 : x / 2 ^ k ≤ x := Nat.div_le_self _ _
      generalize hy : x / 2 ^ k = y at hy0
      have hz : x / 2 ^ (k + 1) = y / 2 := by rw [Nat.pow_succ, ← Nat.div_div_eq_div_mul, hy]
      have HZ := Lib.hid hz
      have HX := Lib.hid hx
      clear hz hy hx
      go_wp2
      go_round
      case rel => exact ⟨k + 1, by omega, by go_num, by rw [HZ.out]; have := HX.out; congr 1; omega⟩
      case measure => simp [intOf]; omega
    · go_wp2
      go_ret
      obtain rfl : k = n := by omega
      exact ⟨by rw [← div_small]; rfl, rfl⟩

theorem bitsOf_cons (v n : Nat) : bitsOf v (n + 1) = (v / 2 ^ n % 2 == 1) :: bitsOf v n := by
  induction n generalizing v with
  | zero => simp [bitsOf]
  | succ n ih =>
    rw [bitsOf, ih (v / 2), bitsOf, List.cons_append, Nat.div_div_eq_div_mul, ← Nat.pow_succ']

theorem set_behind (m : Nat) (l : List Bool) (b : Bool) : (List.replicate (m + 1) false ++ l).set m b = List.replicate m false ++ b :: l := by
  rw [List.replicate_succ', List.append_assoc, List.set_append_right _ _ (by simp), List.length_replicate, Nat.sub_self]
  rfl

/-- Bits. -/
theorem bits_any (w : World) (x n : Nat) (hx : x < 4294967296) (h : n ≤ 32) :
    Calls Try.prog 30 #[.int .u32 (x : Int), .int .i64 (n : Int)] w (NewRow w (bitsOf x n)) := by
  obtain ⟨i0, hi, hz0, hz1, hz2⟩ := info_parts infoBool
  go_enter Try.func30, Try.ntmps30
  go_wp2_with ((at_make; refine wpList_make_full _ rfl _ _ 27 rfl w.heap.size 4 i0 (.bool false) 1 Try.underlying27 hi hz0 hz1 _ _ _ _ n rfl rfl rfl rfl ?c1 ?c2 ?c3 ?_))
  case c1 => rw [hz2]; omega
  case c2 => unfold maxLen; omega
  case c3 => omega
  intro w1 hown hgrow
  rw [toList_madeCells_one, show List.replicate n (Value.bool false) = bools (List.replicate n false) from by simp [bools]] at hown
  have hbel := (Below.refl w.heap.size w).grown hgrow (Nat.le_refl _) (by simp)
  clear hi hz0 hz1 hz2 hgrow
  go_wp2
  go_loopw [0, 6] (fun a i wr => ∃ k : Nat, k ≤ n ∧ i = .int .i64 (k : Int) ∧ a = .int .u32 ((x / 2 ^ k : Nat) : Int) ∧ wr.ownsRow w.heap.size 4 1 (.slice (some ⟨w.heap.size, 0, none⟩) n n) n (bools (List.replicate (n - k) false ++ bitsOf x k)) ∧ Below w.heap.size w wr) (fun _ i _ => n - (intOf i).toNat)
  case atStart => exact ⟨0, by omega, rfl, by simp, by simpa [bitsOf] using hown, hbel⟩
  case round =>
    obtain ⟨k, hk, rfl, rfl, hown2, hbel2⟩ := hrel
    clear hown hbel
    by_cases hlt : k < n
    · have hy0 : x / 2 ^ k ≤ x := Nat.div_le_self _ _
      have hsn := bitsOf_cons x k
      generalize hy : x / 2 ^ k = y at hy0 hsn
      have hz : x / 2 ^ (k + 1) = y / 2 := by rw [Nat.pow_succ, ← Nat.div_div_eq_div_mul, hy]
      have c0 : ∃ u, wr.cell? ⟨w.heap.size, n - 1 - k, none⟩ = some (.bool u) := by
        rw [hown2.cellAt (n - 1 - k) (by omega), bools_get _ _ (by simp [bitsOf_length]; omega)]
        exact ⟨_, rfl⟩
      obtain ⟨u, c0⟩ := c0
      have f0 := hown2.frozenAt (n - 1 - k)
      have hst := hown2.stored (n - 1 - k) (.bool (y % 2 == 1))
      rw [← bools_set] at hst
      have e1 : (List.replicate (n - k) false ++ bitsOf x k).set (n - 1 - k) (y % 2 == 1) = List.replicate (n - (k + 1)) false ++ bitsOf x (k + 1) := by
        rw [show n - k = (n - 1 - k) + 1 from by omega, set_behind, hsn, show n - (k + 1) = n - 1 - k from by omega]
      rw [e1] at hst
      have ei : (y % 2 == 1) = ((y : Int) % 2 == 1) := by rw [Bool.eq_iff_iff]; simp only [beq_iff_eq]; omega
      rw [ei] at hst
      have HZ := Lib.hid hz
      have HX := Lib.hid hx
      have HS := Lib.hid hst
      clear hz hy hx hsn hst e1 ei
      go_wp2
      go_roundw
      case rel => exact ⟨k + 1, by omega, by go_num, by rw [HZ.out]; have := HX.out; congr 1; omega, HS.out.1, hbel2.setCell (Nat.le_refl _) _⟩
      case measure => simp [intOf]; omega
    · go_wp2
      go_ret
      obtain rfl : k = n := by omega
      refine ⟨_, rfl, ?_, hbel2⟩
      simpa [bitsOf_length] using hown2

end Go.Proofs.Ytlhhoiimmalpgaa.Msb
