/-
  The chapter's examples of package msb, its limits and that its answers are new memory: the walk of MsbKnown. No conditions.
-/
import Derived.Test.YtlhhoiimmalpgaaMsbLays
namespace Go.Proofs.Ytlhhoiimmalpgaa.Msb.msbKnown
open Go.RowKit

set_option maxRecDepth 100000 in
set_option maxHeartbeats 1000000 in
theorem walk (w : World) : Calls Try.prog 9 #[] w fun e w' => e = .returned (.bool true) ∧ Below w.heap.size w w' := by
  have s0 := (St.start w).mnewWr
  go_enter Try.func9, Try.ntmps9
  go_wp2_with fail
  refine (put_st s0 1 1 (by decide) (by decide) (by decide)).mono ?_
  rintro e w1 ⟨rfl, s1⟩
  go_wp2_with fail
  refine (put_st s1 2 2 (by decide) (by decide) (by decide)).mono ?_
  rintro e w2 ⟨rfl, s2⟩
  clear s0 s1
  go_wp2_with fail
  refine (bytes_st s2 (by decide)).mono ?_
  rintro e w3 ⟨v3, rfl, s3⟩
  rw [show pk ([] ++ bitsOf 1 1 ++ bitsOf 2 2) = [192] from by decide] at s3
  have hcv := s3.string
  have hst : ((strOf [192]).toList == [192]) = true := by decide +kernel
  have s4 := s3.drop
  clear s2 s3
  go_wp2_with fail
  refine (len_st s4).mono ?_
  rintro e w5 ⟨he5, rfl⟩
  rw [show (([] ++ bitsOf 1 1 ++ bitsOf 2 2 : List Bool).length : Int) = 3 from by decide] at he5
  subst he5
  clear hcv hst
  go_wp2_with fail
  refine (put_arg w3 _ 2 1 (by decide) (by decide) (by decide)).mono ?_
  rintro e w6 ⟨rfl, rfl⟩
  go_wp2_with fail
  refine (put_arg w3 _ 0 33 (by decide) (by decide) (by decide)).mono ?_
  rintro e w6 ⟨rfl, rfl⟩
  go_wp2_with fail
  refine (put_arg w3 _ 0 (-1) (by decide) (by decide) (by decide)).mono ?_
  rintro e w6 ⟨rfl, rfl⟩
  go_wp2_with fail
  refine (put_st s4 0 0 (by decide) (by decide) (by decide)).mono ?_
  rintro e w6 ⟨rfl, s6⟩
  clear s4
  go_wp2_with fail
  refine (len_st s6).mono ?_
  rintro e w7 ⟨he7, rfl⟩
  rw [show (([] ++ bitsOf 1 1 ++ bitsOf 2 2 ++ bitsOf 0 0 : List Bool).length : Int) = 3 from by decide] at he7
  subst he7
  go_wp2_with fail
  refine (walign_st s6 (by decide)).mono ?_
  rintro e w7 ⟨rfl, s7⟩
  go_wp2_with fail
  refine (put_st s7 4294967295 32 (by decide) (by decide) (by decide)).mono ?_
  rintro e w8 ⟨rfl, s8⟩
  clear s6 s7
  go_wp2_with fail
  refine (bytes_st s8 (by decide)).mono ?_
  rintro e w9 ⟨v9, rfl, s9⟩
  rw [show pk ([] ++ bitsOf 1 1 ++ bitsOf 2 2 ++ bitsOf 0 0 ++ bitsOf 0 (padOf ([] ++ bitsOf 1 1 ++ bitsOf 2 2 ++ bitsOf 0 0 : List Bool).length) ++ bitsOf 4294967295 32) = [192, 255, 255, 255, 255] from by decide] at s9
  obtain ⟨g, cap, rfl, hcap⟩ := s9.rowShape (by decide)
  have hcap5 : 5 ≤ cap := hcap
  have c1 : w9.cell? ⟨g, 1, none⟩ = some (.int .u8 255) := s9.row.cellAt 1 (by decide)
  have c4 : w9.cell? ⟨g, 4, none⟩ = some (.int .u8 255) := s9.row.cellAt 4 (by decide)
  have c0 : w9.cell? ⟨g, 0, none⟩ = some (.int .u8 192) := s9.row.cellAt 0 (by decide)
  have f0 : w9.frozen? ⟨g, 0, none⟩ = false := s9.row.frozenAt 0
  have s10 := (s9.stored 0 (.int .u8 0)).drop
  have s9' := s9.drop
  clear s8 s9 hcap
  go_wp2_with fail
  refine (len_st s9').mono ?_
  rintro e w10 ⟨he10, rfl⟩
  rw [show (([] ++ bitsOf 1 1 ++ bitsOf 2 2 ++ bitsOf 0 0 ++ bitsOf 0 (padOf ([] ++ bitsOf 1 1 ++ bitsOf 2 2 ++ bitsOf 0 0 : List Bool).length) ++ bitsOf 4294967295 32 : List Bool).length : Int) = 40 from by decide] at he10
  subst he10
  clear s9'
  go_wp2_with fail
  have hr := reads_lit (w9.setCell ⟨g, 0, none⟩ (.int .u8 0)) [150, 0]
  rw [show (w9.setCell ⟨g, 0, none⟩ (.int .u8 0)).heap.size = w9.heap.size from by simp [World.setCell]] at hr
  refine (new_st (s10.alloc _) hr (by decide) (by decide)).mono ?_
  rintro e w12 ⟨qb, rfl, s12⟩
  clear s10 hr c0 c1 c4 f0 hcap5
  go_wp2_with fail
  refine (get_st s12 9 (by decide) (by decide)).mono ?_
  rintro e w13 ⟨he, s13⟩
  rw [show num (bitsAt [150, 0] 0 9) = 300 from by decide] at he
  subst he
  clear s12
  go_wp2_with fail
  refine (getform_st s13 8 (by decide) (by decide)).mono ?_
  rintro e w14 ⟨rfl, s14⟩
  clear s13
  go_wp2_with fail
  refine (get_st s14 7 (by decide) (by decide)).mono ?_
  rintro e w15 ⟨he, s15⟩
  rw [show num (bitsAt [150, 0] (0 + 9) 7) = 0 from by decide] at he
  subst he
  clear s14
  go_wp2_with fail
  refine (get_arg w15 qb (-1) (by decide)).mono ?_
  rintro e w16 ⟨rfl, rfl⟩
  go_wp2_with fail
  refine (get_arg w15 qb 33 (by decide)).mono ?_
  rintro e w16 ⟨rfl, rfl⟩
  go_wp2_with fail
  refine (get_st s15 0 (by decide) (by decide)).mono ?_
  rintro e w17 ⟨he, s17⟩
  rw [show num (bitsAt [150, 0] (0 + 9 + 7) 0) = 0 from by decide] at he
  subst he
  have s18 := s17.swap
  clear s15 s17
  go_wp2_with fail
  refine (bytes_st s18 (by decide)).mono ?_
  rintro e w19 ⟨v19, rfl, s19⟩
  rw [show pk ([] ++ bitsOf 1 1 ++ bitsOf 2 2 ++ bitsOf 0 0 ++ bitsOf 0 (padOf ([] ++ bitsOf 1 1 ++ bitsOf 2 2 ++ bitsOf 0 0 : List Bool).length) ++ bitsOf 4294967295 32) = [192, 255, 255, 255, 255] from by decide] at s19
  obtain ⟨g2, cap2, rfl, hcap⟩ := s19.rowShape (by decide)
  have hcap5 : 5 ≤ cap2 := hcap
  have c0 : w19.cell? ⟨g2, 0, none⟩ = some (.int .u8 192) := s19.row.cellAt 0 (by decide)
  clear hcap
  go_wp2_with fail
  refine (lays_st s19).mono ?_
  rintro e w20 ⟨rfl, s20⟩
  go_wp2
  go_ret
  exact ⟨rfl, s20.below (Nat.le_refl _)⟩

end Go.Proofs.Ytlhhoiimmalpgaa.Msb.msbKnown
