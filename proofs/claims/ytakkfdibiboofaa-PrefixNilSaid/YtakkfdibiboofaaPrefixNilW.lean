/-
  Every call of package prefix on nil answers as the chapter says: the walk of PrefixNil. No conditions.
-/
import Derived.Test.YtakkfdibiboofaaPfxL
namespace Go.Proofs.Ytakkfdibiboofaa.prefixNil
open Go.RowKit Kraft

def twoL : List Nat := [1, 1]
theorem twoL_err : wordsErr twoL = 0 := by decide +kernel

set_option maxRecDepth 100000 in
set_option maxHeartbeats 1000000 in
theorem walk (w : World) (a0 : Int) (_ : (Lit.int .i64 a0).wf = true) : Calls Try.prog 7 #[.int .i64 a0] w fun e w' => e = .returned (.bool true) ∧ Below w.heap.size w w' := by
  have s0 := (St.start w).litBytes twoL (by decide)
  have hnew := tnew_st s0.1 _ twoL s0.2 (by decide)
  go_enter Try.func7, Try.ntmps7
  go_wp2_with fail
  refine hnew.mono ?_
  rintro e w1 (⟨h, _⟩ | ⟨_, tb, rfl, s1⟩)
  · exact absurd twoL_err h
  clear hnew s0
  have s2 := s1.newWr.mnewWr
  rw [show (w1.alloc (.cells #[.slice none 0 0, .int .i64 0] 45)).heap.size = w1.heap.size + 1 from by simp] at s2
  obtain ⟨pa, hpa⟩ : ∃ pa, w1.heap.size = pa := ⟨_, rfl⟩
  rw [hpa] at s2
  generalize hW : (w1.alloc (.cells #[.slice none 0 0, .int .i64 0] 45)).alloc (.cells #[.slice none 0 0, .int .i64 0] 47) = w2 at s2
  have hz : w2.heap.size = pa + 2 := by rw [← hW, ← hpa]; simp
  have s3 := s2.litBytes [0] (by decide)
  rw [hz] at s3
  go_wp2_with fail
  clear hW hpa hz
  refine (new_st s3.1 s3.2.reads (by decide) (by decide)).mono ?_
  rintro e w3 ⟨qb, rfl, s4⟩
  clear s3 s2 s1
  have s5 := s4.drop
  clear s4
  go_wp2_with fail
  refine (Low.tget_nilT w3 _).mono ?_
  rintro e w4 ⟨rfl, rfl⟩
  have s6 := s5.litBytes [0] (by decide)
  go_wp2_with fail
  refine (Msb.new_st s6.1 s6.2.reads (by decide) (by decide)).mono ?_
  rintro e w4 ⟨qc, rfl, s7⟩
  clear s6 s5
  have s8 := s7.drop
  clear s7
  go_wp2_with fail
  refine (High.tget_nilT w4 _).mono ?_
  rintro e w5 ⟨rfl, rfl⟩
  go_wp2_with fail
  refine (Low.tget_nilR w4 tb).mono ?_
  rintro e w5 ⟨rfl, rfl⟩
  go_wp2_with fail
  refine (High.tget_nilR w4 tb).mono ?_
  rintro e w5 ⟨rfl, rfl⟩
  go_wp2_with fail
  refine (Low.tput_nilT w4 _ a0).mono ?_
  rintro e w5 ⟨rfl, rfl⟩
  go_wp2_with fail
  refine (High.tput_nilT w4 _ a0).mono ?_
  rintro e w5 ⟨rfl, rfl⟩
  go_wp2_with fail
  refine (Low.tput_nilW w4 tb 0).mono ?_
  rintro e w5 ⟨rfl, rfl⟩
  go_wp2_with fail
  refine (High.tput_nilW w4 tb 0).mono ?_
  rintro e w5 ⟨rfl, rfl⟩
  go_wp2_with fail
  refine (tbits_nil w4 a0).mono ?_
  rintro e w5 ⟨rfl, rfl⟩
  go_wp2_with fail
  refine (len_st (s8.front 1)).mono ?_
  rintro e w5 ⟨rfl, rfl⟩
  go_wp2_with fail
  refine (Msb.len_st s8).mono ?_
  rintro e w5 ⟨rfl, rfl⟩
  go_wp2_with fail
  refine (puts_any w4).mono ?_
  rintro e w5 ⟨rfl, hb⟩
  go_wp2
  go_ret
  exact ⟨rfl, (s8.quiet hb).below (Nat.le_refl _)⟩

end Go.Proofs.Ytakkfdibiboofaa.prefixNil
