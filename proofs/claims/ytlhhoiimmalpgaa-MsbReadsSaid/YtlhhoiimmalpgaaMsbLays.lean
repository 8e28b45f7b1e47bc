/-
  The example that every statement of layer 2 asks. No conditions.
-/
import Derived.Test.YtlhhoiimmalpgaaMsbT
namespace Go.Proofs.Ytlhhoiimmalpgaa.Msb
open Go.RowKit

set_option maxRecDepth 100000 in
theorem lays_any (w : World) : Calls Try.prog 18 #[] w fun e w' => e = .returned (.bool true) ∧ Below w.heap.size w w' := by
  go_enter Try.func18, Try.ntmps18
  go_wp2_with fail
  refine (put_ok _ w.heap.size (.slice none 0 0) [] 300 9 (wr_new w) (by simp) (by omega) (by decide)).mono ?_
  rintro e w1 ⟨rfl, v1, hw1, ho1, hf1⟩
  have hs1 := ho1.size
  simp at hs1
  have hfrom1 := mine_new hf1
  have on1 := only_new ho1
  clear ho1 hf1
  go_wp2_with fail
  have hr : Reads (w1.alloc (.cells #[.int .u8 150, .int .u8 0] 5)) (.slice (some ⟨w1.heap.size, 0, none⟩) 2 2) (u8s [150, 0]) := reads_lit w1 [150, 0]
  refine (new_any _ _ [150, 0] hr (by decide) (by decide)).mono ?_
  rintro e w2 ⟨qb, vr, rfl, hr2, hb2, hm2⟩
  clear hr
  have hm2' : ∀ k, Mine qb vr k → w1.heap.size < k := fun k hk => by have := hm2 k hk; simp at this; omega
  clear hm2
  have hw2 : Wr w2 w.heap.size v1 ([] ++ bitsOf 300 9) := (hw1.only (((Only.refl (fun _ => False) _).alloc _)) (fun _ _ f => f)).only (Below.only hb2 (Nat.le_refl _) (fun _ => False)) (fun _ _ f => f)
  have on2 : Only (From w.heap.size) w w2 := only_from (on1.alloc _) (Below.only hb2 (Nat.le_refl _) (fun _ => False)) (fun i f => f.elim)
  have hlt2 : ∀ k, Mine w.heap.size v1 k → k < w1.heap.size := fun k hk => hw1.lt hk
  clear hw1 hb2 on1
  go_wp2_with fail
  refine (get_ok w2 qb vr [150, 0] 0 9 hr2 (by decide) (by decide)).mono ?_
  rintro e w3 ⟨he3, hr3, ho3⟩
  rw [show num (bitsAt [150, 0] 0 9) = 300 from by decide] at he3
  subst he3
  have hqb := hm2' qb (.inl rfl)
  have hw3 : Wr w3 w.heap.size v1 ([] ++ bitsOf 300 9) := hw2.only ho3 (fun k hk e => by have := hlt2 k hk; omega)
  have on3 : Only (From w.heap.size) w w3 := only_from on2 ho3 (fun i e => by omega)
  clear hw2 hr2 ho3 on2
  go_wp2_with fail
  refine (bytes_any w3 w.heap.size v1 _ hw3 (by decide)).mono ?_
  rintro e w4 ⟨v4, rfl, hown4, hb4⟩
  rw [show pk ([] ++ bitsOf 300 9) = [150, 0] from by decide] at hown4
  have hcv := run_string w4 v4 [150, 0] (Reads.of_owns hown4)
  have hst : ((strOf [150, 0]).toList == [150, 0]) = true := by decide +kernel
  have hw4 : Wr w4 w.heap.size v1 ([] ++ bitsOf 300 9) := hw3.only (Below.only hb4 (Nat.le_refl _) (fun _ => False)) (fun _ _ f => f)
  have hr4 : Rd w4 qb vr [150, 0] (0 + 9) := hr3.only (Below.only hb4 (Nat.le_refl _) (fun _ => False)) (fun _ _ f => f)
  have on4 : Only (From w.heap.size) w w4 := only_from on3 (Below.only hb4 (Nat.le_refl _) (fun _ => False)) (fun i f => f.elim)
  clear hw3 hr3 hb4 on3 hown4
  go_wp2_with fail
  refine (len_any w4 w.heap.size v1 _ hw4).mono ?_
  rintro e w5 ⟨he5, rfl⟩
  rw [show (([] ++ bitsOf 300 9 : List Bool).length : Int) = 9 from by decide] at he5
  subst he5
  go_wp2_with fail
  refine (at_any w4 qb vr _ _ hr4).mono ?_
  rintro e w6 ⟨rfl, rfl⟩
  go_wp2_with fail
  refine (left_any w4 qb vr _ _ hr4).mono ?_
  rintro e w7 ⟨rfl, nq, rfl⟩
  have on7 := on4.drewN nq
  go_wp2
  go_ret
  exact ⟨rfl, on7.below (Nat.le_refl _) (fun k hk f => by unfold From at f; omega)⟩

theorem lays_st {B : Nat} {w0 w : World} {r : List Thing} (h : St B w0 w r) :
    Calls Try.prog 18 #[] w fun e w' => e = .returned (.bool true) ∧ St B w0 w' r := by
  refine (lays_any w).mono ?_
  rintro e w' ⟨rfl, hb⟩
  exact ⟨rfl, h.quiet hb⟩

end Go.Proofs.Ytlhhoiimmalpgaa.Msb
