/-
  Asked again the same; what is got may be put, and got: the walk of HeaderSame. No conditions.
-/
import Derived.Test.YtpkmojfjpnejdaaGreatGL
import Derived.Test.YtpkmojfjpnejdaaGreatGC
namespace Go.Proofs.YtpkmojfjpnejdaaGreat.headerSame
open Go.RowKit Kraft Hd

set_option maxRecDepth 100000 in
set_option maxHeartbeats 8000000 in
theorem walk (w : World) (v0 : Value) (xs : List Nat) (h0 : ByteRow w v0 xs) :
    Calls Tryz.prog 7 #[v0] w fun e w' => e = .returned (.bool true) ∧ Below w.heap.size w w' := by
  have hB := Nat.le_refl w.heap.size
  have hby := h0.byte
  have hrd := h0.reads
  obtain ⟨a0, cap0, rfl, hc0, hn0, -⟩ := h0
  by_cases c0 : 400 < xs.length
  · go_enter Tryz.func7, Tryz.ntmps7
    go_wp2
    go_ret
    exact ⟨rfl, Below.refl _ _⟩
  have hnew := new_st (St.start w) hrd hby (by omega)
  clear hby hrd
  go_enter Tryz.func7, Tryz.ntmps7
  go_wp2_with fail
  refine hnew.mono ?_
  rintro e w1 ⟨qb, rfl, s1⟩
  clear hnew
  go_wp2_with fail
  refine (hget_st s1 (by omega) (Nat.zero_le _)).mono ?_
  intro e w2 hg
  unfold GotSt at hg
  cases hh : headAt (row xs) 0 with
  | none =>
    rw [hh] at hg
    obtain ⟨rfl, p', s2⟩ := hg
    have hbel := s2.below hB
    have hhd := heads_any w2
    clear s1 s2 hh
    go_wp2_with (go_at_call 14; refine hhd.mono ?_; rintro e w6 ⟨rfl, hb6⟩)
    go_ret
    exact ⟨rfl, hbel.trans (hb6.mono hbel.size)⟩
  | some y =>
    rw [hh] at hg
    obtain ⟨P, Q, q⟩ := y
    obtain ⟨va, vb, rfl, s2⟩ := hg
    simp only at s2
    have hmay : mayH P Q = true := (head_more hh []).2.2.2
    have hml := mayH_len hmay
    have hPl : P.length ≤ 286 := hml.2.1
    have hQl : Q.length ≤ 30 := hml.2.2.2.1
    have hput := fun (W : World) (r : List Thing) (pb : Nat) (l : List Bool) (st : St w.heap.size w W (wrT pb l :: r)) (hl : l.length ≤ 1000000) v1 v2 h1 h2 => hput_st st hl (v1 := v1) (v2 := v2) (p := P) (q := Q) h1 h2 (by omega) (by omega)
    simp only [hmay, if_true] at hput
    have hsm := hbits_small hmay
    have hat := fun A C => hbits_at hmay A C
    generalize hbits P Q = H at *
    have hHl : H.length ≤ 6000 := by omega
    have HAT : headAt (row (pk H)) 0 = some (P, Q, H.length) := by
      obtain ⟨C, hC⟩ := row_pk H
      have := hat [] C
      rw [List.nil_append, List.length_nil, Nat.zero_add, ← hC] at this
      exact this
    have HAT := Lib.hid HAT
    have HP := Lib.hid hput
    have s3 := s2.newWr.newWr
    rw [World.size_alloc] at s3
    clear hput hat hsm hml hmay hh s1 s2
    go_wp2_with fail
    refine (HP.out _ _ _ _ s3.swap (by simp) _ _ (fun W s => (St.pair (s.front 1)).1) (fun W s => (St.pair (s.front 1)).2)).mono ?_
    rintro e w3 ⟨rfl, s4⟩
    rw [List.nil_append] at s4
    clear s3
    go_wp2_with fail
    refine (HP.out _ _ _ _ s4.swap (by simp) _ _ (fun W s => (St.pair (s.front 1)).1) (fun W s => (St.pair (s.front 1)).2)).mono ?_
    rintro e w4 ⟨rfl, s5⟩
    rw [List.nil_append] at s5
    clear s4
    go_wp2_with fail
    refine (bytes_st s5.swap (by omega)).mono ?_
    rintro e w5 ⟨v5, rfl, s6⟩
    clear s5
    go_wp2_with fail
    refine (new_st s6 (Reads.of_owns s6.row) (pk_lt _) (by rw [pk_length]; omega)).mono ?_
    rintro e w6 ⟨q6, rfl, s7⟩
    clear s6
    go_wp2_with fail
    refine (hget_st s7 (by rw [pk_length]; omega) (Nat.zero_le _)).mono ?_
    intro e w7 hg
    unfold GotSt at hg
    rw [HAT.out] at hg
    obtain ⟨vc, vd, rfl, s8⟩ := hg
    simp only at s8
    clear s7 HAT HP
    obtain ⟨pa, hpa⟩ : ∃ pa, pa = w2.heap.size := ⟨_, rfl⟩
    obtain ⟨pb, hpb⟩ : ∃ pb, pb = w2.heap.size + 1 := ⟨_, rfl⟩
    rw [← hpb, ← hpa] at s8
    have sD := (s8.front 3).drew
    clear s8
    go_wp2_with fail
    refine region_seg (by kernel_rfl) [0, 1, 2, 3, 4, 5, 6, 7] 27 rfl (by kernel_rfl) (by kernel_rfl) (fun _ _ d _ _ h => by cases d <;> exact h) ?_
    generalize w7.drew = wd at *
    intro K hK
    simp only [pickL, List.getElem?_cons_zero, List.getElem?_cons_succ]
    go_wp2_with fail
    rw [← hpa]
    refine (bytes_st sD (by omega)).mono ?_
    rintro e w16 ⟨v16, rfl, s16⟩
    have cv16 := s16.string
    clear sD
    go_wp2_with fail
    refine wpAny_late (c := 8) (v := .string (strOf (pk H))) rfl (by kernel_rfl) (fun _ _ d _ _ h => by cases d <;> exact h) 24 [9, 10] _ _ _ (by kernel_rfl) ⟨rfl, by go_simp⟩ ?_
    refine late_step _ rfl ?_
    intro N hN
    go_wp2_with fail
    rw [← hpb]
    refine (bytes_st (s16.front 5) (by omega)).mono ?_
    rintro e w17 ⟨v17, rfl, s17⟩
    have cv17 := s17.string
    have cv18 := St.string (s17.front 2)
    clear s16
    go_wp2_with fail
    refine hN _ _ ⟨rfl, by go_simp⟩ ?_
    refine late_step _ rfl ?_
    intro N2 hN2
    go_wp2_with fail
    refine hN2 _ _ ⟨rfl, by go_simp⟩ ?_
    refine late_end ?_
    have r1 := run_string w17 _ _ (St.pair (s17.front 4)).1.reads
    have r2 := run_string w17 _ _ (St.pair (s17.front 4)).2.reads
    have r3 := run_string w17 _ _ (St.pair (s17.front 7)).1.reads
    have r4 := run_string w17 _ _ (St.pair (s17.front 7)).2.reads
    have hhd := heads_any w17
    have hbel := s17.below hB
    generalize strOf P = S0 at *
    generalize strOf Q = S1 at *
    generalize strOf (pk H) = S2 at *
    clear hN hN2 N N2 cv16 cv17 cv18 s17
    refine mid_seg [11, 12, 13, 14, 15, 16, 17, 18, 20] 15 (by kernel_rfl) (by kernel_rfl) (fun _ _ d _ _ h => by cases d <;> exact h) ?_
    intro K2 hK2
    simp only [pickL, List.getElem?_cons_zero, List.getElem?_cons_succ]
    go_wp2_with fail
    refine mid_two 19 21 [21, 22, 23, 24, 25, 27] [19, 22, 23, 24, 25, 27] 8 _ _ (by kernel_rfl) rfl rfl rfl (by kernel_rfl) (by kernel_rfl) (by kernel_rfl) (by kernel_rfl) (fun _ _ d _ _ h => by cases d <;> exact h) ?_ ?_
    all_goals
      intro K3 hK3
      simp only [pickL, List.getElem?_cons_zero, List.getElem?_cons_succ]
      go_wp2_with fail
      refine mid_two 26 28 [28, 29, 30, 31, 32, 33, 34] [26, 29, 30, 31, 32, 33, 34] 0 _ _ (by kernel_rfl) rfl rfl rfl (by kernel_rfl) (by kernel_rfl) (by kernel_rfl) (by kernel_rfl) (fun _ _ d _ _ h => by cases d <;> exact h) ?_ ?_
    all_goals
      intro K4 hK4
      simp only [pickL, List.getElem?_cons_zero, List.getElem?_cons_succ]
      go_wp2_with fail
      refine hhd.mono ?_
      rintro e w18 ⟨rfl, hb18⟩
      go_wp2_with fail
      refine wpAny_done (by kernel_rfl) ?_ 0
      go_wp2
      go_ret
      exact ⟨rfl, hbel.trans (hb18.mono hbel.size)⟩

end Go.Proofs.YtpkmojfjpnejdaaGreat.headerSame
