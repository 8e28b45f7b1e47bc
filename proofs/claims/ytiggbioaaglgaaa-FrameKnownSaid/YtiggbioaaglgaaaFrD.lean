/-
  Contracts of package frame: whether a text may be. No conditions but that rows are small.
-/
import Derived.Test.YtiggbioaaglgaaaFrC
import Derived.Test.YtiggbioaaglgaaaHeld
namespace Go.Proofs.Ytiggbioaaglgaaa.Fr
open Go.RowKit Crc

theorem has_any (w : World) (pb x bit : Nat) (hx : x < 256) (hbit : bit = 1 ∨ bit = 2 ∨ bit = 4) (c7 : w.cell? ⟨pb, 7, none⟩ = some (.int .u8 (x : Int))) :
    Calls Try.prog 49 #[.int .u8 (bit : Int), .pointer (some ⟨pb, 0, none⟩)] w fun e w' => e = .returned (.bool (decide (x / bit % 2 = 1))) ∧ w' = w := by
  have hand := and_bit x hx
  have hb : bits .and .u8 (x : Int) (bit : Int) = ((bit * (x / bit % 2) : Nat) : Int) := by
    rcases hbit with rfl | rfl | rfl
    · simpa using hand.1
    · exact hand.2.1
    · exact hand.2.2
  clear hand
  have h01 : x / bit % 2 = 0 ∨ x / bit % 2 = 1 := by omega
  generalize x / bit % 2 = y at *
  generalize (x : Int) = z at *
  go_enter Try.func49, Try.ntmps49
  rcases h01 with rfl | rfl
  · rw [Nat.mul_zero] at hb
    go_wp2
    go_ret
    exact ⟨rfl, rfl⟩
  · rw [Nat.mul_one] at hb
    have h0 : ¬ (bit : Int) = 0 := by omega
    go_wp2
    go_ret
    refine ⟨?_, rfl⟩
    simp
    omega

def textOk (t : List Nat) (b : Bool) : Bool := decide (0 ∉ t) && (b || decide (t = []))

theorem strOf_nil (t : List Nat) : (strOf t).toList = (⟨#[]⟩ : ByteArray).toList ↔ t = [] := by
  rw [str_list]
  constructor
  · intro h
    have := congrArg ByteArray.size h
    rw [strOf_size] at this
    exact List.eq_nil_of_length_eq_zero this
  · rintro rfl; rfl

set_option maxRecDepth 100000 in
theorem mayText_any (w : World) (t : List Nat) (b : Bool) (hb : ∀ x ∈ t, x < 256) :
    Calls Try.prog 50 #[.string (strOf t), .bool b] w fun e w' => e = .returned (.bool (textOk t b)) ∧ w' = w := by
  have hi := indexS_any w t hb
  have hz := zeroI_neg t
  have hn := strOf_nil t
  unfold textOk
  rw [← hz]
  generalize zeroI t = z at *
  generalize strOf t = s at *
  rw [show decide (t = []) = decide (s.toList = (⟨#[]⟩ : ByteArray).toList) from decide_eq_decide.2 hn.symm]
  clear hn hz hb
  go_enter Try.func50, Try.ntmps50
  go_wp2_with (go_at_call 61; refine hi.mono ?_; rintro e w1 ⟨rfl, rfl⟩)
  all_goals go_ret
  all_goals simp_all
  all_goals first | omega | (intro hz; omega) | (cases s.toList <;> simp)

end Go.Proofs.Ytiggbioaaglgaaa.Fr
