/-
  Contracts of the document's own answers for layer 1 (package pressworkref01): rows of bits as lists. No conditions but that rows are small.
-/
import Derived.Test.YtpinfihmageeoaaGreatGB
import Derived.Test.YtpinfihmageeoaaGreatBools
namespace Go.Proofs.YtpinfihmageeoaaGreat
open Go.RowKit

/-- Bits. -/
theorem bits_any (w : World) (x n : Nat) (hx : x < 4294967296) (h : n ≤ 32) :
    Calls Tryz.prog 71 #[.int .u32 (x : Int), .int .i64 (n : Int)] w (NewRow w (bitsOf x n)) := by
  obtain ⟨i0, hi, hz0, hz1, hz2⟩ := info_parts infoBool
  go_enter Tryz.func71, Tryz.ntmps71
  go_wp2_with ((at_make; refine wpList_make_full _ rfl _ _ 106 rfl w.heap.size 4 i0 (.bool false) 1 Tryz.underlying106 hi hz0 hz1 _ _ _ _ n rfl rfl rfl rfl ?c1 ?c2 ?c3 ?_))
  case c1 => rw [hz2]; omega
  case c2 => unfold maxLen; omega
  case c3 => omega
  intro w1 hown hgrow
  rw [toList_madeCells_one, show List.replicate n (Value.bool false) = bools (List.replicate n false) from by simp [bools]] at hown
  have hbel := (Below.refl w.heap.size w).grown hgrow (Nat.le_refl _) (by simp)
  clear hi hz0 hz1 hz2 hgrow
  go_wp2
  go_loopw [0, 6] (fun a i wr => ∃ k : Nat, k ≤ n ∧ i = .int .i64 (k : Int) ∧ a = .int .u32 ((x / 2 ^ k : Nat) : Int) ∧ wr.ownsRow w.heap.size 4 1 (.slice (some ⟨w.heap.size, 0, none⟩) n n) n (bools (bitsOf x k ++ List.replicate (n - k) false)) ∧ Below w.heap.size w wr) (fun _ i _ => n - (intOf i).toNat)
  case atStart => exact ⟨0, by omega, rfl, by simp, by simpa [bitsOf] using hown, hbel⟩
  case round =>
    obtain ⟨k, hk, rfl, rfl, hown2, hbel2⟩ := hrel
    clear hown hbel
    by_cases hlt : k < n
    · have hy0 : x / 2 ^ k ≤ x := Nat.div_le_self _ _
      have hsn := bitsOf_snoc x k
      generalize hy : x / 2 ^ k = y at hy0 hsn
      have hz : x / 2 ^ (k + 1) = y / 2 := by rw [Nat.pow_succ, ← Nat.div_div_eq_div_mul, hy]
      have c0 : ∃ u, wr.cell? ⟨w.heap.size, k, none⟩ = some (.bool u) := by
        rw [hown2.cellAt k (by omega), bools_get _ _ (by simp [bitsOf_length]; omega)]
        exact ⟨_, rfl⟩
      obtain ⟨u, c0⟩ := c0
      have f0 := hown2.frozenAt k
      have hst := hown2.stored k (.bool (y % 2 == 1))
      rw [← bools_set] at hst
      have e1 : (bitsOf x k ++ List.replicate (n - k) false).set k (y % 2 == 1) = bitsOf x (k + 1) ++ List.replicate (n - (k + 1)) false := by
        rw [List.set_append_right _ _ (by rw [bitsOf_length]; exact Nat.le_refl _), bitsOf_length, Nat.sub_self, show n - k = (n - (k + 1)) + 1 from by omega, List.replicate_succ, List.set_cons_zero, hsn, List.append_assoc]
        rfl
      rw [e1] at hst
      have ei : (y % 2 == 1) = ((y : Int) % 2 == 1) := by rw [Bool.eq_iff_iff]; simp only [beq_iff_eq]; omega
      rw [ei] at hst
      have HZ := Lib.hid hz
      have HX := Lib.hid hx
      have HS := Lib.hid hst
      clear hz hy hx hsn hst e1 ei
      go_wp2
      go_roundw
      case rel => exact ⟨k + 1, by omega, by go_num, by rw [HZ.out]; have := HX.out; congr 1; omega, HS.out.1, hbel2.setCell (Nat.le_refl _) _⟩
      case measure => simp [intOf]; omega
    · go_wp2
      go_ret
      obtain rfl : k = n := by omega
      refine ⟨_, rfl, ?_, hbel2⟩
      simpa [bitsOf_length] using hown2

end Go.Proofs.YtpinfihmageeoaaGreat
