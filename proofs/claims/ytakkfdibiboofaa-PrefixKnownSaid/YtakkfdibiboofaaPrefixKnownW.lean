/-
  The chapter's examples; codes that are none, or under: the walk of PrefixKnown. No conditions.
-/
import Derived.Test.YtakkfdibiboofaaPfxL
namespace Go.Proofs.Ytakkfdibiboofaa.prefixKnown
open Go.RowKit Kraft

theorem e0 : wordsErr [] = 0 := by decide +kernel
theorem e1 : wordsErr [0, 1] = 0 := by decide +kernel
theorem e2 : wordsErr [1, 1, 1] = 2 := by decide +kernel
theorem e3 : wordsErr [21] = 5 := by decide +kernel
theorem h0 : ∀ j, len [] j ≤ 20 := len_le_of (wordsErr_ok e0).1
theorem h1 : ∀ j, len [0, 1] j ≤ 20 := len_le_of (wordsErr_ok e1).1

set_option maxRecDepth 100000 in
set_option maxHeartbeats 2000000 in
theorem walk (w : World) : Calls Try.prog 8 #[] w fun e w' => e = .returned (.bool true) ∧ Below w.heap.size w w' := by
  have s0 := (St.start w).litBytes exL (by decide)
  have hnew := tnew_st s0.1 _ exL s0.2 (by decide)
  go_enter Try.func8, Try.ntmps8
  go_wp2_with fail
  refine hnew.mono ?_
  rintro e w1 (⟨h, _⟩ | ⟨_, tb, rfl, s1⟩)
  · exact absurd exL_err h
  clear hnew s0
  have s2 := s1.litBytes [152] (by decide)
  go_wp2_with fail
  refine (Msb.new_st s2.1 s2.2.reads (by decide) (by decide)).mono ?_
  rintro e w2 ⟨qb, rfl, s3⟩
  clear s2 s1
  go_wp2_with fail
  refine (High.tget_st s3 exL_20).mono ?_
  rintro e w3 ⟨rfl, s4⟩
  rw [show High.got exL [152] 0 = (2, 0, 0) from by decide +kernel] at s4 ⊢
  clear s3
  go_wp2_with fail
  refine (High.tget_st s4 exL_20).mono ?_
  rintro e w4 ⟨rfl, s5⟩
  rw [show High.got exL [152] (0 + (2, (0 : Int), 0).1) = (1, 1, 0) from by decide +kernel] at s5 ⊢
  clear s4
  go_wp2_with fail
  refine (High.tget_st s5 exL_20).mono ?_
  rintro e w5 ⟨rfl, s6⟩
  rw [show High.got exL [152] (0 + (2, (0 : Int), 0).1 + (1, (1 : Int), 0).1) = (2, 3, 0) from by decide +kernel] at s6 ⊢
  clear s5
  go_wp2_with fail
  refine (High.tget_st s6 exL_20).mono ?_
  rintro e w6 ⟨rfl, s7⟩
  rw [show High.got exL [152] (0 + (2, (0 : Int), 0).1 + (1, (1 : Int), 0).1 + (2, (3 : Int), 0).1) = (1, 1, 0) from by decide +kernel] at s7 ⊢
  clear s6
  have s8 := s7.drop.newWr
  clear s7
  obtain ⟨pa, hpa⟩ : ∃ pa, w6.heap.size = pa := ⟨_, rfl⟩
  rw [hpa] at s8
  go_wp2_with fail
  clear hpa
  refine (Low.tput_st s8 2 exL_20 exL_w (by decide)).mono ?_
  rintro e w7 ⟨rfl, s9⟩
  rw [show [] ++ wordBits exL 2 = [] from by decide +kernel] at s9
  rw [show putErr exL 2 = 5 from by decide +kernel]
  clear s8
  go_wp2_with fail
  refine (Low.tput_st s9 (-1) exL_20 exL_w (by decide)).mono ?_
  rintro e w8 ⟨rfl, s10⟩
  rw [show [] ++ wordBits exL (-1) = [] from by decide +kernel] at s10
  rw [show putErr exL (-1) = 5 from by decide +kernel]
  clear s9
  go_wp2_with fail
  refine (Low.tput_st s10 4 exL_20 exL_w (by decide)).mono ?_
  rintro e w9 ⟨rfl, s11⟩
  rw [show [] ++ wordBits exL 4 = [] from by decide +kernel] at s11
  rw [show putErr exL 4 = 5 from by decide +kernel]
  clear s10
  go_wp2_with fail
  refine (len_st s11).mono ?_
  rintro e w10 ⟨rfl, rfl⟩
  obtain ⟨g, mb, hT⟩ := s11.drop.tblHead
  have b0 := tbits_any hT 0
  have b2 := tbits_any hT 2
  have b9 := tbits_any hT 9
  have bn := tbits_any hT (-1)
  rw [show bitsAtSym exL 0 = 2 from by decide +kernel] at b0
  rw [show bitsAtSym exL 2 = 0 from by decide +kernel] at b2
  rw [show bitsAtSym exL 9 = 0 from by decide +kernel] at b9
  rw [show bitsAtSym exL (-1) = 0 from by decide +kernel] at bn
  go_wp2_with fail
  refine b0.mono ?_
  rintro e w10 ⟨rfl, rfl⟩
  go_wp2_with fail
  refine b2.mono ?_
  rintro e w10 ⟨rfl, rfl⟩
  go_wp2_with fail
  refine b9.mono ?_
  rintro e w10 ⟨rfl, rfl⟩
  go_wp2_with fail
  refine bn.mono ?_
  rintro e w10 ⟨rfl, rfl⟩
  clear b0 b2 b9 bn hT
  have s12 := s11.drop.drop
  clear s11
  go_wp2_with fail
  refine (tnew_st s12 _ [] (byteRow_none w9) (by decide)).mono ?_
  rintro e w10 (⟨h, _⟩ | ⟨_, tn, rfl, s13⟩)
  · exact absurd e0 h
  clear s12
  have s14 := s13.litBytes [0] (by decide)
  go_wp2_with fail
  refine (new_st s14.1 s14.2.reads (by decide) (by decide)).mono ?_
  rintro e w11 ⟨qc, rfl, s15⟩
  clear s14 s13
  go_wp2_with fail
  refine (Low.tget_st s15 h0).mono ?_
  rintro e w12 ⟨rfl, s16⟩
  rw [show Low.got [] [0] 0 = (0, 0, 2) from by decide +kernel] at s16 ⊢
  clear s15
  have s17 := (s16.front 1).drop
  have s18 := s17.litBytes [0, 1] (by decide)
  clear s16
  go_wp2_with fail
  refine (tnew_st s18.1 _ [0, 1] s18.2 (by decide)).mono ?_
  rintro e w13 (⟨h, _⟩ | ⟨_, to, rfl, s19⟩)
  · exact absurd e1 h
  clear s17 s18
  go_wp2_with fail
  refine (Low.tget_st (s19.front 1) h1).mono ?_
  rintro e w14 ⟨rfl, s20⟩
  rw [show Low.got [0, 1] [0] (0 + (0, (0 : Int), 2).1) = (1, 1, 0) from by decide +kernel] at s20 ⊢
  clear s19
  have s21 := s20.litBytes [1] (by decide)
  go_wp2_with fail
  refine (new_st s21.1 s21.2.reads (by decide) (by decide)).mono ?_
  rintro e w15 ⟨qd, rfl, s22⟩
  clear s21 s20
  go_wp2_with fail
  refine (Low.tget_st ((s22.front 2).front 1) h1).mono ?_
  rintro e w16 ⟨rfl, s23⟩
  rw [show Low.got [0, 1] [1] 0 = (1, 0, 2) from by decide +kernel] at s23 ⊢
  clear s22
  have s24 := s23.drop
  clear s23
  go_wp2_with fail
  refine (new_st s24 (byteRow_none w16).reads (by decide) (by decide)).mono ?_
  rintro e w17 ⟨qe, rfl, s25⟩
  clear s24
  go_wp2_with fail
  refine (Low.tget_st s25 h1).mono ?_
  rintro e w18 ⟨rfl, s26⟩
  rw [show Low.got [0, 1] [] 0 = (0, 0, 2) from by decide +kernel] at s26 ⊢
  have s27 := s26.drop.drop
  clear s25 s26
  have s28 := s27.litBytes [1, 1, 1] (by decide)
  go_wp2_with fail
  refine (tnew_st s28.1 _ [1, 1, 1] s28.2 (by decide)).mono ?_
  rintro e w19 (⟨_, rfl, s29⟩ | ⟨h, _⟩)
  case inr => rw [e2] at h; cases h
  rw [e2]
  clear s27 s28
  have s30 := s29.litBytes [21] (by decide)
  go_wp2_with fail
  refine (tnew_st s30.1 _ [21] s30.2 (by decide)).mono ?_
  rintro e w20 (⟨_, rfl, s31⟩ | ⟨h, _⟩)
  case inr => rw [e3] at h; cases h
  rw [e3]
  clear s29 s30
  go_wp2_with fail
  refine (at_st s31).mono ?_
  rintro e w21 ⟨rfl, rfl⟩
  go_wp2_with fail
  refine (puts_any w20).mono ?_
  rintro e w21 ⟨rfl, hb⟩
  go_wp2
  go_ret
  exact ⟨rfl, (s31.quiet hb).below (Nat.le_refl _)⟩

end Go.Proofs.Ytakkfdibiboofaa.prefixKnown
