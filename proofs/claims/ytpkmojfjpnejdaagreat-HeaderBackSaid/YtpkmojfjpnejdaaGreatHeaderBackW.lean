/-
  The best lengths for any frequencies are put, and got as they were, whatever stands behind: the walk of HeaderBack. No conditions.
-/
import Derived.Test.YtpkmojfjpnejdaaGreatGL
import Derived.Test.YtpkmojfjpnejdaaGreatHdL
namespace Go.Proofs.YtpkmojfjpnejdaaGreat.headerBack
open Go.RowKit Kraft Hd Limit

theorem u8_of {mo : Int} (hmo : (Lit.int .u8 mo).wf = true) : ∃ y : Nat, mo = (y : Int) ∧ y < 256 := by
  simp only [Lit.wf, Bool.and_eq_true, decide_eq_true_eq] at hmo
  have e1 : IntKind.u8.min = 0 := rfl
  have e2 : IntKind.u8.max = 255 := rfl
  rw [e1, e2] at hmo
  exact ⟨mo.toNat, by omega, by omega⟩

set_option maxRecDepth 100000 in
set_option maxHeartbeats 8000000 in
theorem walk (w : World) (v0 : Value) (xs : List Nat) (h0 : U16Row w v0 xs) (v1 : Value) (ys : List Nat) (h1 : U16Row w v1 ys) (n : Int) (hn : (Lit.int .u8 n).wf = true) (m : Int) (hm : (Lit.int .u8 m).wf = true)
    (v2 : Value) (bs : List Nat) (h2 : ByteRow w v2 bs) :
    Calls Tryz.prog 5 #[v0, v1, .int .u8 n, .int .u8 m, v2] w fun e w' => e = .returned (.bool true) ∧ Below w.heap.size w w' := by
  have hB := Nat.le_refl w.heap.size
  have HIN := fun W (hb : Below w.heap.size w W) => And.intro (h0.below hb hB) (And.intro (h1.below hb hB) (h2.below hb hB))
  have HBB := Lib.hid h2.byte
  obtain ⟨a0, cap0, rfl, hc0, hn0, -⟩ := h0
  obtain ⟨a1, cap1, rfl, hc1, hn1, -⟩ := h1
  obtain ⟨a2, cap2, rfl, hc2, hn2, -⟩ := h2
  obtain ⟨n, rfl, hn⟩ := u8_of hn
  obtain ⟨m, rfl, hm⟩ := u8_of hm
  by_cases c0 : 286 < xs.length
  · go_enter Tryz.func5, Tryz.ntmps5
    go_wp2
    go_ret
    exact ⟨rfl, Below.refl _ _⟩
  by_cases c1 : 30 < ys.length
  · go_enter Tryz.func5, Tryz.ntmps5
    go_wp2
    go_ret
    exact ⟨rfl, Below.refl _ _⟩
  by_cases c2 : 40 < bs.length
  · go_enter Tryz.func5, Tryz.ntmps5
    go_wp2
    go_ret
    exact ⟨rfl, Below.refl _ _⟩
  have hn2 : ((n : Int) % 30) = ((n % 30 : Nat) : Int) := by omega
  have hm2 : ((m : Int) % 30) = ((m % 30 : Nat) : Int) := by omega
  have hn4 : (n : Int).tmod 30 = ((n % 30 : Nat) : Int) := by rw [Int.tmod_eq_emod_of_nonneg (by omega)]; exact hn2
  have hm4 : (m : Int).tmod 30 = ((m % 30 : Nat) : Int) := by rw [Int.tmod_eq_emod_of_nonneg (by omega)]; exact hm2
  obtain ⟨n3, hn3⟩ : ∃ z, n % 30 = z := ⟨_, rfl⟩
  obtain ⟨m3, hm3⟩ : ∃ z, m % 30 = z := ⟨_, rfl⟩
  rw [hn3] at hn2 hn4
  rw [hm3] at hm2 hm4
  have bn : n3 < 30 := by omega
  have bm : m3 < 30 := by omega
  obtain ⟨nn, hnn⟩ : ∃ z, 257 + n3 = z := ⟨_, rfl⟩
  obtain ⟨mm, hmm⟩ : ∃ z, 1 + m3 = z := ⟨_, rfl⟩
  have hnn2 : (257 : Int) + (n3 : Int) = (nn : Int) := by omega
  have hmm2 : (1 : Int) + (m3 : Int) = (mm : Int) := by omega
  have bnn : 257 ≤ nn ∧ nn ≤ 286 := by omega
  have bmm : 1 ≤ mm ∧ mm ≤ 30 := by omega
  have HIN := Lib.hid HIN
  clear hn3 hm3 hn hm bn bm hnn hmm
  go_enter Tryz.func5, Tryz.ntmps5
  go_wp2_with fail
  refine (lens_st (St.start w) _ xs (fun W s => (HIN.out W (s.below hB)).1) (by omega) nn (by omega) (by omega)).mono ?_
  rintro e w1 ⟨u1, F, P, rfl, hF, hFl, hF256, hPb, s1⟩
  go_wp2_with fail
  refine (lens_st s1 _ ys (fun W s => (HIN.out W (s.below hB)).2.1) (by omega) mm (by omega) (by omega)).mono ?_
  rintro e w2 ⟨u2, G, Q, rfl, hG, hGl, _, hQb, s2⟩
  have hmay : mayH P Q = true := choice_may hF hG (by omega) (by omega) (hF256 (by omega)) (by omega) (by omega)
  have hPl : P.length ≤ 286 := by have := hF.length; omega
  have hQl : Q.length ≤ 30 := by have := hG.length; omega
  clear hF hFl hF256 hG hGl bnn bmm hnn2 hmm2 hn2 hm2 hn4 hm4
  obtain ⟨ua, uc, rfl⟩ := ownsRow_slice s1.row
  obtain ⟨ub, ud, rfl⟩ := ownsRow_slice s2.row
  have s3 := s2.newWr
  obtain ⟨pb, hpb⟩ : ∃ pb, pb = w2.heap.size := ⟨_, rfl⟩
  rw [← hpb] at s3
  have hput := hput_st s3 (by simp) (fun W s => s.swap.bytesRow hPb) (fun W s => s.bytesRow hQb) (by omega) (by omega)
  rw [hmay] at hput
  simp only [if_true, List.nil_append] at hput
  have hsm := hbits_small hmay
  have hat := fun A C => hbits_at hmay A C
  generalize hbits P Q = H at *
  have hHl : H.length ≤ 6000 := by omega
  have HAT : ∀ xs, headAt (row (pk H ++ xs)) 0 = some (P, Q, H.length) := by
    intro xs
    obtain ⟨C, hC⟩ := row_pk_more H xs
    have := hat [] C
    rw [List.nil_append, List.length_nil, Nat.zero_add, ← hC] at this
    exact this
  have HAT := Lib.hid HAT
  have HPB := Lib.hid hPb
  have HQB := Lib.hid hQb
  have hlen := fun W r (s : St w.heap.size w W (wrT pb H :: r)) => len_st s
  have hcmp : (71 : Int) + 15 * ((P.length : Int) + (Q.length : Int)) ≥ (H.length : Int) := by omega
  obtain ⟨z, hz⟩ : ∃ z, P.length + Q.length = z := ⟨_, rfl⟩
  clear hmay hat hPb hQb s1 s2 s3
  go_wp2_with (first | (go_at_call 17; rw [← hpb]; refine hput.mono ?_; rintro e w3 ⟨rfl, s4⟩; clear hput; have hl4 := hlen _ _ s4) | (go_at_call 20; rw [← hpb]; refine hl4.mono ?_; rintro e w4 ⟨rfl, rfl⟩))
  rw [← hpb]
  clear hpb hz hcmp hsm
  refine (bytes_st s4 (by omega)).mono ?_
  rintro e w5 ⟨v5, rfl, s5⟩
  clear s4 hl4
  have hbs := (HIN.out _ (s5.below hB)).2.2
  go_wp2_with (at_builtin; refine wpList_append_bytes rfl _ _ rfl s5 hbs rfl rfl (by rw [pk_length]; omega) ?_)
  intro v6 w6 s6 _ _
  rw [← u8s_append, ← List.length_append] at s6
  clear s5 hbs
  have hby : ∀ x ∈ pk H ++ bs, x < 256 := fun x hx => by
    rcases List.mem_append.1 hx with h | h
    · exact pk_lt H x h
    · exact HBB.out x h
  have hbl : (pk H ++ bs).length ≤ 10000 := by rw [List.length_append, pk_length]; omega
  go_wp2_with fail
  refine (new_st s6 (Reads.of_owns s6.row) hby (by omega)).mono ?_
  rintro e w7 ⟨qb, rfl, s7⟩
  clear s6 hby
  go_wp2_with fail
  refine (hget_st s7 hbl (Nat.zero_le _)).mono ?_
  intro e w8 hg
  unfold GotSt at hg
  rw [HAT.out] at hg
  obtain ⟨va, vb, rfl, s8⟩ := hg
  simp only at s8
  clear s7 hbl HAT
  have r1 := run_string w8 _ _ s8.pair.1.reads
  have r2 := run_string w8 _ _ s8.pair.2.reads
  have r3 := run_string w8 _ P (Reads.of_owns (St.row (s8.front 5)))
  have r4 := run_string w8 _ Q (Reads.of_owns (St.row (s8.front 4)))
  have hat := at_st (s8.front 1)
  have hln := len_st (s8.front 3)
  have hhd := heads_any w8
  have hbel := s8.below hB
  generalize strOf P = S0 at *
  generalize strOf Q = S1 at *
  clear s8 hlen
  go_wp2_with (first | (go_at_call 15; refine hat.mono ?_; rintro e w9 ⟨rfl, rfl⟩) | (go_at_call 20; refine hln.mono ?_; rintro e w9 ⟨rfl, rfl⟩) | (go_at_call 14; refine hhd.mono ?_; rintro e w9 ⟨rfl, hb9⟩))
  go_ret
  exact ⟨rfl, hbel.trans (hb9.mono hbel.size)⟩

end Go.Proofs.YtpkmojfjpnejdaaGreat.headerBack
