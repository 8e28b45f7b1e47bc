/-
  The walk of RepeatJoins. No conditions.
-/
import Derived.Test.YthmkkbaenccgiaaRepX
namespace Go.Proofs.Ythmkkbaenccgiaa.repeatJoins
open Go.RowKit Rep

theorem err_cases (L : List Nat) : (packErr L = 5 ∧ packOf L = []) ∨ (packErr L = 0 ∧ packOf L = pack L ∧ ∀ x ∈ L, x < 16) := by
  unfold packErr packOf
  cases h : (L.any fun x => decide (15 < x)) with
  | true => exact .inl ⟨rfl, rfl⟩
  | false =>
    refine .inr ⟨rfl, rfl, fun x hx => ?_⟩
    rw [List.any_eq_false] at h
    have := h x hx
    simp at this
    omega

theorem join_err (xs ys : List Nat) (hx : ∀ x ∈ xs, x < 16) (hy : ∀ x ∈ ys, x < 16) : unErr (pack xs ++ pack ys) ((xs.length : Int) + (ys.length : Int)) = 0 ∧ unAns (pack xs ++ pack ys) ((xs.length : Int) + (ys.length : Int)) = xs ++ ys := by
  have hf : (pack xs ++ pack ys).all fits = true := by
    rw [List.all_append, fits_pack _ xs (Nat.le_refl _) hx, fits_pack _ ys (Nat.le_refl _) hy]; rfl
  have hs : say [] (pack xs ++ pack ys) = some (xs ++ ys) := by
    rw [say_append, say_back xs hx]
    exact say_pack _ ys (Nat.le_refl _) hy xs
  obtain ⟨h1, h2⟩ := unErr_end hf ((xs.length : Int) + (ys.length : Int)) (xs ++ ys) hs
  have hl : ((xs ++ ys).length : Int) = (xs.length : Int) + (ys.length : Int) := by simp
  rw [if_pos hl] at h1 h2
  exact ⟨h1, h2⟩

theorem strOf_append (xs ys : List Nat) : strOf xs ++ strOf ys = strOf (xs ++ ys) := by
  apply ByteArray.ext
  rw [ByteArray.data_append, strOf_data, strOf_data, strOf_data]
  simp

set_option maxRecDepth 100000 in
set_option maxHeartbeats 4000000 in
theorem walk (w : World) (v : Value) (xs : List Nat) (hb : ByteRow w v xs) (u : Value) (ys : List Nat) (hb2 : ByteRow w u ys) :
    Calls Try.prog 7 #[v, u] w fun e w' => e = .returned (.bool true) ∧ Below w.heap.size w w' := by
  have HB := fun W hB => hb.below (B := w.heap.size) (w' := W) hB (Nat.le_refl _)
  have HB2 := fun W hB => hb2.below (B := w.heap.size) (w' := W) hB (Nat.le_refl _)
  obtain ⟨a, cap, rfl, hc, -, -⟩ := id hb
  obtain ⟨a2, cap2, rfl, hc2, -, -⟩ := id hb2
  by_cases c1 : 500 < xs.length
  · go_enter Try.func7, Try.ntmps7
    go_wp2
    go_ret
    exact ⟨rfl, Below.refl _ _⟩
  · by_cases c2 : 500 < ys.length
    · go_enter Try.func7, Try.ntmps7
      go_wp2
      go_ret
      exact ⟨rfl, Below.refl _ _⟩
    · have hp1 := pack_st (St.start w) _ xs hb (by omega)
      have hpl1 := packOf_length xs
      have hpl2 := packOf_length ys
      have hsm1 := packOf_small xs
      have hsm2 := packOf_small ys
      rcases err_cases xs with ⟨he1, ho1⟩ | ⟨he1, ho1, h16⟩
      · rw [he1] at hp1
        go_enter Try.func7, Try.ntmps7
        go_wp2_with fail
        refine hp1.mono ?_
        rintro e w1 ⟨v1, rfl, s1⟩
        have hp2 := pack_st s1 (.slice a2 ys.length cap2) ys (HB2 w1 (s1.below (Nat.le_refl _))) (by omega)
        go_wp2_with fail
        refine hp2.mono ?_
        rintro e w2 ⟨v2, rfl, s2⟩
        have hbw := s2.below (Nat.le_refl _)
        clear s1 s2 hp1 hp2 HB HB2 hb hb2
        go_wp2_with fail
        refine (packs_any _).mono ?_
        rintro e w4 ⟨rfl, hb4⟩
        go_wp2
        go_ret
        exact ⟨rfl, hbw.trans (hb4.mono hbw.size)⟩
      · rcases err_cases ys with ⟨he2, ho2⟩ | ⟨he2, ho2, h162⟩
        · rw [he1] at hp1
          go_enter Try.func7, Try.ntmps7
          go_wp2_with fail
          refine hp1.mono ?_
          rintro e w1 ⟨v1, rfl, s1⟩
          have hp2 := pack_st s1 (.slice a2 ys.length cap2) ys (HB2 w1 (s1.below (Nat.le_refl _))) (by omega)
          rw [he2] at hp2
          go_wp2_with fail
          refine hp2.mono ?_
          rintro e w2 ⟨v2, rfl, s2⟩
          have hbw := s2.below (Nat.le_refl _)
          clear s1 s2 hp1 hp2 HB HB2 hb hb2
          go_wp2_with fail
          refine (packs_any _).mono ?_
          rintro e w4 ⟨rfl, hb4⟩
          go_wp2
          go_ret
          exact ⟨rfl, hbw.trans (hb4.mono hbw.size)⟩
        · obtain ⟨q1, q2⟩ := join_err xs ys h16 h162
          rw [← ho1, ← ho2] at q1 q2
          rw [he1] at hp1
          obtain ⟨S, hS⟩ : ∃ S, packOf xs = S := ⟨_, rfl⟩
          obtain ⟨T, hT⟩ : ∃ T, packOf ys = T := ⟨_, rfl⟩
          rw [hS] at hp1 hpl1 hsm1 q1 q2
          rw [hT] at hpl2 hsm2 q1 q2
          have HT := Lib.hid hT
          obtain ⟨i0, hi, hz0, hz1, hz2⟩ := info_parts infoSign
          clear ho1 ho2 h16 h162 hS hT
          go_enter Try.func7, Try.ntmps7
          go_wp2_with fail
          refine hp1.mono ?_
          rintro e w1 ⟨v1, rfl, s1⟩
          have hp2 := pack_st s1 (.slice a2 ys.length cap2) ys (HB2 w1 (s1.below (Nat.le_refl _))) (by omega)
          rw [he2, HT.out] at hp2
          go_wp2_with fail
          refine hp2.mono ?_
          rintro e w2 ⟨v2, rfl, s2⟩
          obtain ⟨sa, sc, rfl⟩ := ownsRow_slice s2.swap.row
          obtain ⟨ta, tc, rfl⟩ := ownsRow_slice s2.row
          have s3 : St w.heap.size w (w2.alloc (.cells #[] 31)) (rowT 31 2 (.slice (some ⟨w2.heap.size, 0, none⟩) 0 0) 0 [] :: signT 31 (.slice sa S.length sc) S :: signT 31 (.slice ta T.length tc) T :: []) :=
            s2.swap.addRow (below_alloc w2 _) (World.ownsRow_made w2 #[] 0 (Nat.le_refl _) (by unfold maxLen; omega) rfl)
          clear s1 s2 hp1 hp2
          go_wp2_with (refine wpList_append_rowN (o := ⟨some 39, _, _, _, _, _⟩) rfl _ _ 23 rfl 31 i0 (.agg #[.int .u8 0, .int .u8 0]) 2 2 Try.underlying23 hi hz0 hz1 hz2 rfl (by decide) s3 rfl rfl (sgn_one S) (by unfold maxLen; omega) (by omega) ?_)
          intro v5 w5 s5
          have s6 := s5.third.swap
          clear s3 s5
          go_wp2_with (refine wpList_append_rowN (o := ⟨some 41, _, _, _, _, _⟩) rfl _ _ 23 rfl 31 i0 (.agg #[.int .u8 0, .int .u8 0]) 2 2 Try.underlying23 hi hz0 hz1 hz2 rfl (by decide) s6 rfl rfl (sgn_one T) (by unfold maxLen; omega) (by omega) ?_)
          intro v7 w7 s7
          rw [← sgn_append, ← List.length_append] at s7
          have hsm : Small (S ++ T) := fun p hp => by
            rcases List.mem_append.1 hp with hp | hp
            · exact hsm1 p hp
            · exact hsm2 p hp
          have hlen : (S ++ T).length ≤ 1000 := by rw [List.length_append]; omega
          obtain ⟨U, hU⟩ : ∃ U, S ++ T = U := ⟨_, rfl⟩
          rw [hU] at s7 hsm hlen q1 q2
          have hu := unpack_st s7 v7 U (fun W sW => sW.signs hsm) (by omega) ((xs.length : Int) + (ys.length : Int)) (by omega) (by omega)
          unfold UnpackSt at hu
          rw [q1, q2] at hu
          clear hU s6 q1 q2
          go_wp2_with fail
          refine hu.mono ?_
          rintro e w8 ⟨v8, rfl, s8⟩
          have hbw := s8.below (Nat.le_refl _)
          have hs1 := s8.string
          have hs2 := run_string w8 _ xs (HB w8 hbw).reads
          have hs3 := run_string w8 _ ys (HB2 w8 hbw).reads
          rw [← strOf_append] at hs1
          obtain ⟨sx, hsx⟩ : ∃ sx, strOf xs = sx := ⟨_, rfl⟩
          obtain ⟨sy, hsy⟩ : ∃ sy, strOf ys = sy := ⟨_, rfl⟩
          have zx : sx.size ≤ 500 := by
            rw [← hsx]
            show (strOf xs).data.size ≤ 500
            rw [strOf_data]
            simp
            omega
          have zy : sy.size ≤ 500 := by
            rw [← hsy]
            show (strOf ys).data.size ≤ 500
            rw [strOf_data]
            simp
            omega
          rw [hsx] at hs1 hs2
          rw [hsy] at hs1 hs3
          clear hsx hsy s7 s8 hu HB HB2 hb hb2
          go_wp2_with fail
          refine (packs_any _).mono ?_
          rintro e w9 ⟨rfl, hb4⟩
          go_wp2
          go_ret
          exact ⟨rfl, hbw.trans (hb4.mono hbw.size)⟩

end Go.Proofs.Ythmkkbaenccgiaa.repeatJoins
