/-
  The walk of RepeatBack. No conditions.
-/
import Derived.Test.YthmkkbaenccgiaaRepX
namespace Go.Proofs.Ythmkkbaenccgiaa.repeatBack
open Go.RowKit Rep

theorem back_err (L : List Nat) (hL : ∀ x ∈ L, x < 16) (n : Int) : unErr (pack L) n = (if (L.length : Int) = n then 0 else 2) ∧ unAns (pack L) n = if (L.length : Int) = n then L else [] :=
  unErr_end (fits_pack L.length L (Nat.le_refl _) hL) n L (say_back L hL)

theorem pack_ok (L : List Nat) (hL : ∀ x ∈ L, x < 16) : packErr L = 0 ∧ packOf L = pack L := by
  have e : (L.any fun x => decide (15 < x)) = false := by
    rw [List.any_eq_false]
    intro x hx
    have := hL x hx
    simp
    omega
  unfold packErr packOf
  rw [e]
  exact ⟨rfl, rfl⟩

set_option maxRecDepth 100000 in
set_option maxHeartbeats 4000000 in
theorem walk (w : World) (v : Value) (xs : List Nat) (hb : ByteRow w v xs) (n : Int) (hn : (Lit.int .i64 n).wf = true) :
    Calls Try.prog 5 #[v, .int .i64 n] w fun e w' => e = .returned (.bool true) ∧ Below w.heap.size w w' := by
  have hn' : -9223372036854775808 ≤ n ∧ n ≤ 9223372036854775807 := by
    simp only [Lit.wf, Bool.and_eq_true, decide_eq_true_eq] at hn
    exact hn
  obtain ⟨hn0, hn1⟩ := hn'
  clear hn
  have HB := fun W hB => hb.below (B := w.heap.size) (w' := W) hB (Nat.le_refl _)
  obtain ⟨a, cap, rfl, hc, -, -⟩ := id hb
  by_cases c1 : 2000 < xs.length
  · go_enter Try.func5, Try.ntmps5
    go_wp2
    go_ret
    exact ⟨rfl, Below.refl _ _⟩
  · obtain ⟨i0, hi, hz0, hz1, hz2⟩ := info_parts info8
    have s0 := (St.start w).addNil (e := 5) (size := 1)
    go_enter Try.func5, Try.ntmps5
    go_wp2
    go_loopw [5, 6] (fun vv iv wr => ∃ out : List Nat, iv = .int .i64 (out.length : Int) ∧ out.length ≤ xs.length ∧ Hid (∀ x ∈ out, x < 16) ∧ St w.heap.size w wr [rowT 5 1 vv out.length (u8s out)]) (fun _ iv _ => xs.length - (intOf iv).toNat)
    case atStart => exact ⟨[], rfl, Nat.zero_le _, Lib.hid (fun x hx => by cases hx), s0⟩
    case round =>
      clear s0
      obtain ⟨out, rfl, hk, h16, s1⟩ := hrel
      obtain ⟨va, vc, rfl⟩ := ownsRow_slice s1.row
      by_cases hlt : out.length < xs.length
      · obtain ⟨a', cap', e1, _, _, hat⟩ := HB _ (s1.below (Nat.le_refl _))
        obtain ⟨rfl, -, rfl⟩ := Value.slice.inj e1
        obtain ⟨hy, b, off, rfl, hcell⟩ := hat _ hlt
        generalize xs[out.length] = y at *
        clear hat e1
        have hy2 : ((y : Int) % 16) = ((y % 16 : Nat) : Int) := by omega
        obtain ⟨z, hz⟩ : ∃ z, y % 16 = z := ⟨_, rfl⟩
        have hz16 : z < 16 := by omega
        rw [hz] at hy2
        clear hz
        go_wp2_with (at_builtin; refine wpList_append_one rfl _ _ 22 rfl 5 i0 (.int .u8 0) 1 1 Try.underlying22 hi hz0 hz1 hz2 rfl (by decide) s1 rfl [.int .u8 (z : Int)] rfl rfl (by simp [Value.oneCell']) (by unfold maxLen; omega) (by omega) ?_)
        intro v6 w6 s6
        have e6 : u8s out ++ [Value.int .u8 (z : Int)] = u8s (out ++ [z]) := by rw [u8s_append]; rfl
        have l6 : out.length + 1 = (out ++ [z]).length := by simp
        have h7 : ∀ x ∈ out ++ [z], x < 16 := fun x hx => by
          rcases List.mem_append.1 hx with hx | hx
          · exact h16.out x hx
          · obtain rfl : x = z := by simpa using hx
            exact hz16
        rw [e6, l6] at s6
        obtain ⟨o4, ho4⟩ : ∃ o4, o4 = out ++ [z] := ⟨_, rfl⟩
        rw [← ho4] at s6 h7 l6
        have H7 := Lib.hid (And.intro h7 l6)
        clear ho4 e6 l6 h7
        go_wp2
        go_roundw
        case rel => exact ⟨o4, by rw [← H7.out.2]; go_num, by rw [← H7.out.2]; omega, Lib.hid H7.out.1, s6⟩
        case measure => simp [intOf]; omega
      · have hl := Nat.le_antisymm hk (Nat.le_of_not_lt hlt)
        have hle : out.length ≤ 2000 := by omega
        have HL := Lib.hid hl
        clear hl hk HB
        have hp := pack_st s1 _ out (s1.bytesRow (fun x hx => by have := h16.out x hx; omega)) (by omega)
        rw [(pack_ok out h16.out).1, (pack_ok out h16.out).2] at hp
        have hpl := pack_length out.length out (Nat.le_refl _)
        have hsm : Small (pack out) := by rw [← (pack_ok out h16.out).2]; exact packOf_small out
        have HE := Lib.hid (back_err out h16.out)
        generalize pack out = S at *
        go_wp2_with (go_at_call 9; refine hp.mono ?_; rintro e w1 ⟨v1, rfl, s2⟩)
        obtain ⟨va1, vc1, rfl⟩ := ownsRow_slice s2.row
        have hu1 := unpack_st s2 _ S (fun W sW => sW.signs hsm) (by omega) (out.length : Int) (by omega) (by omega)
        unfold UnpackSt at hu1
        rw [(HE.out _).1, (HE.out _).2, if_pos rfl, if_pos rfl] at hu1
        refine hu1.mono ?_
        rintro e w2 ⟨v2, rfl, s3⟩
        have hstr1 := s3.string
        have hu2 := unpack_st s3 (.slice va1 S.length vc1) S (fun W sW => sW.swap.signs hsm) (by omega) n hn0 hn1
        clear hu1 hp s1 s2
        unfold UnpackSt at hu2
        by_cases hnn : (out.length : Int) = n
        · rw [(HE.out _).1, (HE.out _).2, if_pos hnn, if_pos hnn] at hu2
          have hb1 : (n == (out.length : Int)) = true := by rw [hnn]; simp
          have HNN := Lib.hid hnn
          clear hnn
          go_wp2_with fail
          refine hu2.mono ?_
          rintro e w3 ⟨v3, rfl, s4⟩
          have hs2 := s4.swap.string
          have hs3 := s4.fourth.string
          have hbw := s4.below (Nat.le_refl _)
          clear hu2 hstr1
          obtain ⟨sL, hsL⟩ : ∃ sL, strOf out = sL := ⟨_, rfl⟩
          rw [hsL] at hs2 hs3
          clear hsL s3 s4
          go_wp2_with fail
          refine (packs_any _).mono ?_
          rintro e w4 ⟨rfl, hb4⟩
          go_wp2
          go_ret
          exact ⟨rfl, hbw.trans (hb4.mono hbw.size)⟩
        · rw [(HE.out _).1, (HE.out _).2, if_neg hnn, if_neg hnn] at hu2
          have hb1 : (n == (out.length : Int)) = false := beq_eq_false_iff_ne.2 (fun e => hnn e.symm)
          have HNN := Lib.hid hnn
          clear hnn
          go_wp2_with fail
          refine hu2.mono ?_
          rintro e w3 ⟨v3, rfl, s4⟩
          have hs2 := s4.swap.string
          have hs3 := s4.fourth.string
          have hbw := s4.below (Nat.le_refl _)
          clear hu2 hstr1
          obtain ⟨sL, hsL⟩ : ∃ sL, strOf out = sL := ⟨_, rfl⟩
          rw [hsL] at hs2 hs3
          clear hsL s3 s4
          go_wp2_with fail
          refine (packs_any _).mono ?_
          rintro e w4 ⟨rfl, hb4⟩
          go_wp2
          go_ret
          exact ⟨rfl, hbw.trans (hb4.mono hbw.size)⟩

end Go.Proofs.Ythmkkbaenccgiaa.repeatBack
