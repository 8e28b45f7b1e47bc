/-
  Just lengths that may be are put; the document reads them from the bits; Size is how many these are; what is handed in stays: the walk of HeaderPuts. No conditions.
-/
import Derived.Test.YtpkmojfjpnejdaaGreatHeaderGetsW
import Derived.Test.YtpkmojfjpnejdaaGreatHdM
namespace Go.Proofs.YtpkmojfjpnejdaaGreat.headerPuts
open Go.RowKit Kraft Hd headerGets

set_option maxRecDepth 100000 in
set_option maxHeartbeats 8000000 in
theorem walk (w : World) (v0 : Value) (P : List Nat) (h0 : ByteRow w v0 P) (v1 : Value) (Q : List Nat) (h1 : ByteRow w v1 Q) (mo : Int) (hmo : (Lit.int .u8 mo).wf = true) :
    Calls Tryz.prog 4 #[v0, v1, .int .u8 mo] w fun e w' => e = .returned (.bool true) ∧ Below w.heap.size w w' := by
  have hB := Nat.le_refl w.heap.size
  have H0 := Lib.hid h0
  have H1 := Lib.hid h1
  have HY0 := Lib.hid h0.byte
  have HY1 := Lib.hid h1.byte
  obtain ⟨a0, cap0, rfl, hc0, hn0, -⟩ := h0
  obtain ⟨a1, cap1, rfl, hc1, hn1, -⟩ := h1
  obtain ⟨y, rfl, hy⟩ : ∃ y : Nat, mo = (y : Int) ∧ y < 256 := by
    simp only [Lit.wf, Bool.and_eq_true, decide_eq_true_eq] at hmo
    have e1 : IntKind.u8.min = 0 := rfl
    have e2 : IntKind.u8.max = 255 := rfl
    rw [e1, e2] at hmo
    exact ⟨mo.toNat, by omega, by omega⟩
  clear hmo
  by_cases c0 : 300 < P.length
  · go_enter Tryz.func4, Tryz.ntmps4
    go_wp2
    go_ret
    exact ⟨rfl, Below.refl _ _⟩
  · by_cases c1 : 40 < Q.length
    · go_enter Tryz.func4, Tryz.ntmps4
      go_wp2
      go_ret
      exact ⟨rfl, Below.refl _ _⟩
    · have hy2 : ((y : Int) % 16) = ((y % 16 : Nat) : Int) := by omega
      obtain ⟨k, hk⟩ : ∃ k, y % 16 = k := ⟨_, rfl⟩
      have hk16 : k < 16 := by omega
      rw [hk] at hy2
      clear hk hy
      have HIN := fun W (hb : Below w.heap.size w W) => And.intro (H0.out.below hb hB) (H1.out.below hb hB)
      have s0 := St.start w
      go_enter Tryz.func4, Tryz.ntmps4
      go_wp2_with (at_builtin; refine wpList_copyW rfl _ _ rfl s0 H0.out rfl rfl (by omega) ?_)
      intro va w1 s1
      clear s0
      go_wp2_with (at_builtin; refine wpList_copyW rfl _ _ rfl s1 (HIN _ (s1.below hB)).2 rfl rfl (by omega) ?_)
      intro vb w2 s2
      clear s1
      have s3 := s2.newWr
      obtain ⟨pb, hpb⟩ : ∃ pb, pb = w2.heap.size := ⟨_, rfl⟩
      rw [← hpb] at s3
      clear s2
      go_wp2_with fail
      try rw [← hpb]
      clear hpb
      refine (put_st s3 0 k (by simp; omega) (by omega) (Nat.two_pow_pos k)).mono ?_
      rintro e w3 ⟨rfl, s4⟩
      rw [List.nil_append] at s4
      clear s3
      have hput := hput_st s4 (by rw [bitsOf_length]; omega) (v1 := va) (v2 := vb) (fun W s => s.swap.bytesRow HY0.out) (fun W s => s.bytesRow HY1.out) (by omega) (by omega)
      have hm := fun W (hb : Below w.heap.size w W) => refMayH_any W _ _ P Q (HIN W hb).1 (HIN W hb).2 (by omega) (by omega)
      have hsz := fun W (l : List Bool) (s : St w.heap.size w W (wrT pb l :: rowT 5 1 vb Q.length (u8s Q) :: rowT 5 1 va P.length (u8s P) :: [])) => hsize_st s (v1 := va) (v2 := vb) (p := P) (q := Q) (fun W s => (s.front 2).bytesRow HY0.out) (fun W s => (s.front 1).bytesRow HY1.out) (by omega) (by omega)
      have hstr := fun W (l : List Bool) (s : St w.heap.size w W (wrT pb l :: rowT 5 1 vb Q.length (u8s Q) :: rowT 5 1 va P.length (u8s P) :: [])) =>
        And.intro (And.intro (run_string W va P (Reads.of_owns (St.row (s.front 2)))) (run_string W vb Q (Reads.of_owns (St.row (s.front 1))))) (And.intro (run_string W _ P (HIN W (s.below hB)).1.reads) (run_string W _ Q (HIN W (s.below hB)).2.reads))
      clear s4
      have hat := fun h => hbits_at (p := P) (q := Q) h
      have hsmall := fun h => hbits_small (p := P) (q := Q) h
      cases hmm : mayH P Q with
      | false =>
        rw [hmm] at hput hm hsz
        simp only [Bool.false_eq_true, if_false, List.append_nil] at hput hsz
        have HM := Lib.hid hm
        have HSZ := Lib.hid hsz
        have HST := Lib.hid hstr
        clear hm hsz hmm hstr hat hsmall HIN
        go_wp2_with fail
        refine hput.mono ?_
        rintro e w4 ⟨rfl, s5⟩
        clear hput
        go_wp2_with fail
        refine (HSZ.out _ _ s5).mono ?_
        rintro e w5 ⟨rfl, s6⟩
        obtain ⟨⟨r1, r2⟩, r3, r4⟩ := HST.out _ _ s6
        have hbel := s6.below hB
        have hmay := HM.out _ hbel
        have hlen := len_st s6
        have hhd := heads_any w5
        rw [bitsOf_length] at hlen
        generalize strOf P = S0 at *
        generalize strOf Q = S1 at *
        clear s5 s6 HSZ HST HM
        go_wp2_with fail
        refine hmay.mono ?_
        rintro e w6 ⟨rfl, rfl⟩
        clear hmay r1 r2 r3 r4
        go_wp2_with (first | (go_at_call 20; refine hlen.mono ?_; rintro e w7 ⟨rfl, rfl⟩) | (go_at_call 14; refine hhd.mono ?_; rintro e w7 ⟨rfl, hb7⟩))
        go_ret
        exact ⟨rfl, hbel.trans (hb7.mono hbel.size)⟩
      | true =>
        rw [hmm] at hput hm hsz
        simp only [if_true] at hput hsz
        have hat := hat hmm
        have hsmall := hsmall hmm
        generalize hbits P Q = H at *
        have hHl : H.length ≤ 6000 := by omega
        obtain ⟨C, hC⟩ := row_pk (bitsOf 0 k ++ H)
        have hhead := hat (bitsOf 0 k) C
        rw [bitsOf_length, ← hC] at hhead
        have hll : (bitsOf 0 k ++ H).length = k + H.length := by rw [List.length_append, bitsOf_length]
        have HM := Lib.hid hm
        have HSZ := Lib.hid hsz
        have HST := Lib.hid hstr
        have HHD := Lib.hid hhead
        have HLL := Lib.hid hll
        generalize bitsOf 0 k ++ H = l at *
        have hl2 : l.length ≤ 6016 := by rw [hll]; omega
        clear hm hsz hmm hstr hat hsmall hC hhead hll
        go_wp2_with fail
        refine hput.mono ?_
        rintro e w4 ⟨rfl, s5⟩
        clear hput
        go_wp2_with fail
        refine (HSZ.out _ _ s5).mono ?_
        rintro e w5 ⟨rfl, s6⟩
        obtain ⟨⟨r1, r2⟩, r3, r4⟩ := HST.out _ _ s6
        have hmay := HM.out _ (s6.below hB)
        generalize strOf P = S0 at *
        generalize strOf Q = S1 at *
        clear s5 HSZ HM HST
        go_wp2_with fail
        refine hmay.mono ?_
        rintro e w6 ⟨rfl, rfl⟩
        clear hmay r1 r2 r3 r4
        go_wp2_with fail
        refine (bytes_st s6 (by omega)).mono ?_
        rintro e w6 ⟨v6, rfl, s7⟩
        clear s6
        have hof := of_any w6 v6 (pk l) (s7.bytesRow (pk_lt l)) (by rw [pk_length]; omega)
        rw [ofBytes_row] at hof
        go_wp2_with fail
        refine hof.mono ?_
        rintro e w7 ⟨v7, rfl, hown, hbel7⟩
        have s8 := s7.addRow hbel7 hown
        clear s7 hof hown hbel7
        have href := refHead_st s8 v7 (row (pk l)) (fun W s => RowAt.of_owns s.row) (by rw [row_length, pk_length]; omega) k (by rw [row_length, pk_length]; have := HLL.out; omega)
        clear s8
        go_wp2_with fail
        refine href.mono ?_
        intro e w8 hr
        unfold HeadSt at hr
        rw [HHD.out, ← HLL.out] at hr
        obtain ⟨g, cg, rfl, s9⟩ := hr
        clear href HHD
        simp only at s9
        have hPQ : ∀ x ∈ P ++ Q, x < 256 := fun x hx => by
          rcases List.mem_append.1 hx with h | h
          · exact HY0.out x h
          · exact HY1.out x h
        have hrow9 := byteRow_owns s9.row hPQ
        have hp2 := (byteRow_take hrow9 (m := P.length) (by simp)).1
        rw [List.take_left] at hp2
        have hq2 := byteRow_sub hrow9 (i := P.length) (m := Q.length) (by simp)
        rw [List.drop_left, List.take_length, Nat.zero_add] at hq2
        have hbel := s9.below hB
        have r1 := run_string w8 _ _ hp2.reads
        have r2 := run_string w8 _ _ hq2.reads
        have r3 := run_string w8 _ _ (HIN _ hbel).1.reads
        have r4 := run_string w8 _ _ (HIN _ hbel).2.reads
        have hlen := len_st (s9.front 3)
        have hhd := heads_any w8
        have hsub : (l.length : Int) - (k : Int) = (H.length : Int) := by have := HLL.out; omega
        clear s9 hrow9 hp2 hq2 hPQ HIN HLL
        generalize l.length = ll at *
        generalize H.length = hl at *
        generalize strOf P = S0 at *
        generalize strOf Q = S1 at *
        simp only
        go_wp2_with (first | (go_at_call 20; refine hlen.mono ?_; rintro e w9 ⟨rfl, rfl⟩) | (go_at_call 14; refine hhd.mono ?_; rintro e w9 ⟨rfl, hb9⟩))
        go_ret
        exact ⟨rfl, hbel.trans (hb9.mono hbel.size)⟩

end Go.Proofs.YtpkmojfjpnejdaaGreat.headerPuts
