/-
  The walk of RepeatPacks. No conditions.
-/
import Derived.Test.YthmkkbaenccgiaaRepX
import Derived.Test.YthmkkbaenccgiaaRepG
import Derived.Deep.QuietTactic
import Derived.BigQuiet
namespace Go.Proofs.Ythmkkbaenccgiaa.repeatPacks
open Go.RowKit Rep

set_option maxRecDepth 100000 in
set_option maxHeartbeats 4000000 in
theorem walk (w : World) (v : Value) (xs : List Nat) (hb : ByteRow w v xs) (na : Int) (hna : (Lit.int .u8 na).wf = true) :
    Calls Try.prog 3 #[v, .int .u8 na] w fun e w' => e = .returned (.bool true) ∧ Below w.heap.size w w' := by
  obtain ⟨code, rfl, hcode⟩ := byte_wf hna
  clear hna
  have HB := fun W hB => hb.below (B := w.heap.size) (w' := W) hB (Nat.le_refl _)
  have hby := hb.byte
  obtain ⟨a, cap, rfl, hc, -, -⟩ := id hb
  by_cases c1 : 1000 < xs.length
  · go_enter Try.func3, Try.ntmps3
    go_wp2
    go_ret
    exact ⟨rfl, Below.refl _ _⟩
  · have hpl := packOf_length xs
    have hsm := packOf_small xs
    have hbits := fun W => bits_any W code hcode
    go_enter Try.func3, Try.ntmps3
    go_wp2_with (at_builtin; refine wpList_copyW rfl _ _ rfl (St.start w) hb rfl rfl (by omega) ?_)
    intro v1 w1 s1
    have hp := pack_st s1 v1 xs (s1.bytesRow hby) (by omega)
    obtain ⟨er, her⟩ : ∃ er, packErr xs = er := ⟨_, rfl⟩
    obtain ⟨S, hS⟩ : ∃ S, packOf xs = S := ⟨_, rfl⟩
    rw [her, hS] at hp
    rw [hS] at hpl hsm
    have HER := Lib.hid her
    have HSS := Lib.hid hS
    clear her hS
    go_wp2_with fail
    refine hp.mono ?_
    rintro e w2 ⟨v2, rfl, s2⟩
    clear hp
    have hr := refPack_st s2 (.slice a xs.length cap) xs (fun W sW => HB W (sW.below (Nat.le_refl _))) (by omega)
    unfold RefPackSt at hr
    rw [HER.out, HSS.out] at hr
    go_wp2_with fail
    refine hr.mono ?_
    rintro e w3 ⟨v3, rfl, s3⟩
    obtain ⟨va, vc, rfl⟩ := ownsRow_slice s3.swap.row
    obtain ⟨ra, rc, rfl⟩ := ownsRow_slice s3.row
    have hs1 := s3.third.string
    have hs2 := run_string w3 _ xs (HB w3 (s3.below (Nat.le_refl _))).reads
    obtain ⟨sL, hsL⟩ : ∃ sL, strOf xs = sL := ⟨_, rfl⟩
    rw [hsL] at hs1 hs2
    have hl : S.length ≤ 1000 := by omega
    clear hsL s1 s2 hr HB hby
    go_wp2_with fail
    clear hs1 hs2
    go_loopw [10] (fun iv wr => ∃ k n : Nat, k ≤ S.length ∧ iv = .int .i64 (k : Int) ∧ wr = w3.drewN n) (fun iv _ => S.length - (intOf iv).toNat)
    case atStart => exact ⟨0, 0, Nat.zero_le _, rfl, rfl⟩
    case round =>
      obtain ⟨k, m, hk, rfl, rfl⟩ := hrel
      have s4 := s3.drewN m
      clear s3
      obtain ⟨w4, hW4⟩ : ∃ w4, w3.drewN m = w4 := ⟨_, rfl⟩
      rw [hW4] at s4 ⊢
      have HW4 := Lib.hid hW4
      clear hW4
      by_cases hlt : k < S.length
      · obtain ⟨g1, cp1, e1, -⟩ := s4.rowShape (by omega)
        obtain ⟨g2, cp2, e2, -⟩ := s4.swap.rowShape (by omega)
        obtain ⟨rfl, -, -⟩ := Value.slice.inj e1
        obtain ⟨rfl, -, -⟩ := Value.slice.inj e2
        have q0 : w4.cell? ⟨g1, k * 2, none⟩ = _ := (s4.row.cellAt (k * 2) (by omega)).trans (sgn_get S k hlt).1
        have q1 : w4.cell? ⟨g1, k * 2 + 1, none⟩ = _ := (s4.row.cellAt (k * 2 + 1) (by omega)).trans (sgn_get S k hlt).2
        have q2 : w4.cell? ⟨g2, k * 2, none⟩ = _ := (s4.swap.row.cellAt (k * 2) (by omega)).trans (sgn_get S k hlt).1
        have q3 : w4.cell? ⟨g2, k * 2 + 1, none⟩ = _ := (s4.swap.row.cellAt (k * 2 + 1) (by omega)).trans (sgn_get S k hlt).2
        obtain ⟨c, x, hs⟩ : ∃ c x, S[k] = (c, x) := ⟨_, _, rfl⟩
        rw [hs] at q0 q1 q2 q3
        clear hs e1 e2
        have d1 : ((c : Int) != (c : Int)) = false := by simp
        have d2 : ((x : Int) != (x : Int)) = false := by simp
        go_wp2
        go_quiet (fail)
        go_wp2
        go_roundw
        case rel => exact ⟨k + 1, m + nq, by omega, by go_num, by rw [← HW4.out]; simp⟩
        case measure => simp [intOf]; omega
      · obtain rfl : k = S.length := by omega
        have hbw := s4.below (Nat.le_refl _)
        have hways : (code = 16 ∧ bitsOf' code = 2) ∨ (code = 17 ∧ bitsOf' code = 3) ∨ (code = 18 ∧ bitsOf' code = 7) ∨ ((¬ code = 16 ∧ ¬ code = 17 ∧ ¬ code = 18) ∧ bitsOf' code = 0) := by
          unfold bitsOf'
          by_cases h1 : code = 16
          · exact .inl ⟨h1, by rw [if_pos h1]⟩
          · by_cases h2 : code = 17
            · exact .inr (.inl ⟨h2, by rw [if_neg h1, if_pos h2]⟩)
            · by_cases h3 : code = 18
              · exact .inr (.inr (.inl ⟨h3, by rw [if_neg h1, if_neg h2, if_pos h3]⟩))
              · exact .inr (.inr (.inr ⟨⟨h1, h2, h3⟩, by rw [if_neg h1, if_neg h2, if_neg h3]⟩))
        clear s4 hb
        rcases hways with ⟨rfl, hq⟩ | ⟨rfl, hq⟩ | ⟨rfl, hq⟩ | ⟨⟨h1, h2, h3⟩, hq⟩
        all_goals
          simp only [hq] at hbits
          clear hq
          go_wp2_with (first | (go_at_call 11; refine (hbits _).mono ?_; rintro e w5 ⟨rfl, rfl⟩) | (go_at_call 12; refine (packs_any _).mono ?_; rintro e w6 ⟨rfl, hb6⟩))
          go_ret
          exact ⟨rfl, hbw.trans (Below.mono (by assumption) hbw.size)⟩

end Go.Proofs.Ythmkkbaenccgiaa.repeatPacks
