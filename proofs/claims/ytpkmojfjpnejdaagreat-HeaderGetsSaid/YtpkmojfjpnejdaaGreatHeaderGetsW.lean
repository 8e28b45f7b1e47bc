/-
  Every Get, wherever the reader stands, and where it stands behind: the walk of HeaderGets. No conditions.
-/
import Derived.Test.YtpkmojfjpnejdaaGreatGL
import Derived.Test.YtpkmojfjpnejdaaGreatHdR
namespace Go.Proofs.YtpkmojfjpnejdaaGreat.headerGets
open Go.RowKit Kraft Hd

theorem ofBytes_bit (xs : List Nat) : ∀ (k : Nat), k ≤ xs.length → ofBytes (xs.take k) = (row xs).take (8 * k)
  | 0, _ => by simp [ofBytes]
  | k + 1, h => by
    rw [ofBytes_snoc xs k (by omega), ofBytes_bit xs k (by omega)]
    have e : (row xs).take (8 * (k + 1)) = (row xs).take (8 * k) ++ ((row xs).drop (8 * k)).take 8 := by rw [show 8 * (k + 1) = 8 * k + 8 from by omega, List.take_add]
    rw [e]
    congr 1
    refine List.ext_getElem (by rw [bitsOf_length, List.length_take, List.length_drop, row_length]; omega) (fun i h1 h2 => ?_)
    rw [bitsOf_length] at h1
    rw [List.getElem_take, List.getElem_drop, row_get]
    unfold bitAt
    rw [getD_in _ _ (by omega : (8 * k + i) / 8 < xs.length)]
    have e1 : (8 * k + i) / 8 = k := by omega
    have e2 : (8 * k + i) % 8 = i := by omega
    have hb := num_bit (bitsOf xs[k] 8) i
    simp only [e1, e2]
    have hg : ∀ (n v i : Nat) (h : i < (bitsOf v n).length), (bitsOf v n)[i] = (v / 2 ^ i % 2 == 1) := by
      intro n
      induction n with
      | zero => intro v i h; simp [bitsOf] at h
      | succ n ih =>
        intro v i h
        rw [bitsOf_length] at h
        cases i with
        | zero => simp [bitsOf]
        | succ i =>
          simp only [bitsOf, List.getElem_cons_succ]
          rw [ih (v / 2) i (by rw [bitsOf_length]; omega), Nat.div_div_eq_div_mul, Nat.pow_succ, Nat.mul_comm]
    exact hg 8 _ i _

theorem ofBytes_row (xs : List Nat) : ofBytes xs = row xs := by
  have h := ofBytes_bit xs xs.length (Nat.le_refl _)
  rw [List.take_of_length_le (Nat.le_refl _), List.take_of_length_le (by rw [row_length]; exact Nat.le_refl _)] at h
  exact h

set_option maxRecDepth 100000 in
set_option maxHeartbeats 8000000 in
theorem walk (w : World) (v0 : Value) (xs : List Nat) (h0 : ByteRow w v0 xs) (mo : Int) (hmo : (Lit.int .u8 mo).wf = true) :
    Calls Tryz.prog 3 #[v0, .int .u8 mo] w fun e w' => e = .returned (.bool true) ∧ Below w.heap.size w w' := by
  have hB := Nat.le_refl w.heap.size
  have H0 := Lib.hid h0
  have hby := h0.byte
  have hrd := h0.reads
  obtain ⟨a0, cap0, rfl, hc0, hn0, -⟩ := h0
  obtain ⟨y, rfl, hy⟩ : ∃ y : Nat, mo = (y : Int) ∧ y < 256 := by
    simp only [Lit.wf, Bool.and_eq_true, decide_eq_true_eq] at hmo
    have e1 : IntKind.u8.min = 0 := rfl
    have e2 : IntKind.u8.max = 255 := rfl
    rw [e1, e2] at hmo
    exact ⟨mo.toNat, by omega, by omega⟩
  by_cases c0 : 400 < xs.length
  · go_enter Tryz.func3, Tryz.ntmps3
    go_wp2
    go_ret
    exact ⟨rfl, Below.refl _ _⟩
  · have hof := of_any w _ xs H0.out (by omega)
    rw [ofBytes_row] at hof
    have HBY := Lib.hid hby
    have hheads := heads_any
    have hy2 : ((y : Int) % 16) = ((y % 16 : Nat) : Int) := by omega
    obtain ⟨z, hz⟩ : ∃ z, y % 16 = z := ⟨_, rfl⟩
    have hz16 : z < 16 := by omega
    rw [hz] at hy2
    clear hz hmo hy hof
    go_enter Tryz.func3, Tryz.ntmps3
    go_wp2_with fail
    refine (new_st (St.start w) hrd hby (by omega)).mono ?_
    rintro e w1 ⟨qb, rfl, s1⟩
    clear hrd hby
    go_wp2_with fail
    have hof := of_any w1 _ xs (H0.out.below (s1.below hB) hB) (by omega)
    rw [ofBytes_row] at hof
    refine hof.mono ?_
    rintro e w2 ⟨v2, rfl, hown2, hbel2⟩
    have s2 := s1.addRow hbel2 hown2
    rw [row_length] at s2
    obtain ⟨ar, cr, rfl⟩ := ownsRow_slice s2.row
    clear hof hown2 hbel2 s1
    have hrowAt : ∀ (W : World) (r : List Thing), St w.heap.size w W (rowT 4 1 (.slice ar (8 * xs.length) cr) (8 * xs.length) (bools (row xs)) :: r) → RowAt W (.slice ar (8 * xs.length) cr) (row xs) := fun W r s => RowAt.of_owns s.row
    by_cases hz8 : 8 * xs.length < z
    · go_wp2_with fail
      refine (get_st (s2.swap) 0 (by omega) (by omega)).mono ?_
      rintro e w3 ⟨rfl, s3⟩
      rw [Nat.zero_add] at s3
      clear s2
      go_wp2_with fail
      refine (hget_st s3 (by omega) (by omega)).mono ?_
      intro e w4 hg
      unfold GotSt at hg
      clear s3
      cases hh : headAt (row xs) 0 with
      | none =>
        rw [hh] at hg
        obtain ⟨rfl, p', s4⟩ := hg
        have href := refHead_st s4.swap (.slice ar (8 * xs.length) cr) (row xs) (fun W s => hrowAt _ _ s) (by rw [row_length]; omega) 0 (by rw [row_length]; omega)
        clear s4
        go_wp2_with fail
        refine href.mono ?_
        intro e w5 hr
        unfold HeadSt at hr
        rw [hh] at hr
        obtain ⟨q, rfl, s5⟩ := hr
        clear hh href
        have hbel := s5.below hB
        have hhd := heads_any w5
        clear s5
        go_wp2_with (go_at_call 14; refine hhd.mono ?_; rintro e w6 ⟨rfl, hb6⟩)
        go_ret
        exact ⟨rfl, hbel.trans (hb6.mono hbel.size)⟩
      | some y =>
        rw [hh] at hg
        obtain ⟨va, vb, rfl, s4⟩ := hg
        have s4' : St w.heap.size w w4 (rowT 4 1 (.slice ar (8 * xs.length) cr) (8 * xs.length) (bools (row xs)) :: pairT va y.1 vb y.2.1 :: rdT qb xs y.2.2 :: []) := s4.third
        have href := refHead_st s4' (.slice ar (8 * xs.length) cr) (row xs) (fun W s => hrowAt _ _ s) (by rw [row_length]; omega) 0 (by rw [row_length]; omega)
        clear s4
        go_wp2_with fail
        refine href.mono ?_
        intro e w5 hr
        unfold HeadSt at hr
        rw [hh] at hr
        obtain ⟨g, cg, rfl, s5⟩ := hr
        clear hh href s4'
        obtain ⟨P, Q, q⟩ := y
        simp only at s5
        obtain ⟨hp1, hq1⟩ := St.pair (s5.front 2)
        have hPQ : ∀ x ∈ P ++ Q, x < 256 := fun x hx => by
          rcases List.mem_append.1 hx with h | h
          · exact hp1.byte x h
          · exact hq1.byte x h
        have hrow5 := byteRow_owns s5.row hPQ
        have hp2 := (byteRow_take hrow5 (m := P.length) (by simp)).1
        rw [List.take_left] at hp2
        have hq2 := byteRow_sub hrow5 (i := P.length) (m := Q.length) (by simp)
        rw [List.drop_left, List.take_length, Nat.zero_add] at hq2
        have r1 := run_string w5 _ _ hp1.reads
        have r2 := run_string w5 _ _ hq1.reads
        have r3 := run_string w5 _ _ hp2.reads
        have r4 := run_string w5 _ _ hq2.reads
        have hat := at_st (s5.front 3)
        generalize strOf P = S0 at *
        generalize strOf Q = S1 at *
        have hbel := s5.below hB
        have hhd := heads_any w5
        clear s5 hp1 hq1 hp2 hq2 hrow5 hPQ
        simp only
        go_wp2_with (first | (go_at_call 15; refine hat.mono ?_; rintro e w6 ⟨rfl, rfl⟩) | (go_at_call 14; refine hhd.mono ?_; rintro e w6 ⟨rfl, hb6⟩))
        go_ret
        exact ⟨rfl, hbel.trans (hb6.mono hbel.size)⟩
    · go_wp2_with fail
      refine (get_st (s2.swap) z (by omega) (by omega)).mono ?_
      rintro e w3 ⟨rfl, s3⟩
      rw [Nat.zero_add] at s3
      clear s2
      go_wp2_with fail
      refine (hget_st s3 (by omega) (by omega)).mono ?_
      intro e w4 hg
      unfold GotSt at hg
      clear s3
      cases hh : headAt (row xs) z with
      | none =>
        rw [hh] at hg
        obtain ⟨rfl, p', s4⟩ := hg
        have href := refHead_st s4.swap (.slice ar (8 * xs.length) cr) (row xs) (fun W s => hrowAt _ _ s) (by rw [row_length]; omega) z (by rw [row_length]; omega)
        clear s4
        go_wp2_with fail
        refine href.mono ?_
        intro e w5 hr
        unfold HeadSt at hr
        rw [hh] at hr
        obtain ⟨q, rfl, s5⟩ := hr
        clear hh href
        have hbel := s5.below hB
        have hhd := heads_any w5
        clear s5
        go_wp2_with (go_at_call 14; refine hhd.mono ?_; rintro e w6 ⟨rfl, hb6⟩)
        go_ret
        exact ⟨rfl, hbel.trans (hb6.mono hbel.size)⟩
      | some y =>
        rw [hh] at hg
        obtain ⟨va, vb, rfl, s4⟩ := hg
        have s4' : St w.heap.size w w4 (rowT 4 1 (.slice ar (8 * xs.length) cr) (8 * xs.length) (bools (row xs)) :: pairT va y.1 vb y.2.1 :: rdT qb xs y.2.2 :: []) := s4.third
        have href := refHead_st s4' (.slice ar (8 * xs.length) cr) (row xs) (fun W s => hrowAt _ _ s) (by rw [row_length]; omega) z (by rw [row_length]; omega)
        clear s4
        go_wp2_with fail
        refine href.mono ?_
        intro e w5 hr
        unfold HeadSt at hr
        rw [hh] at hr
        obtain ⟨g, cg, rfl, s5⟩ := hr
        clear hh href s4'
        obtain ⟨P, Q, q⟩ := y
        simp only at s5
        obtain ⟨hp1, hq1⟩ := St.pair (s5.front 2)
        have hPQ : ∀ x ∈ P ++ Q, x < 256 := fun x hx => by
          rcases List.mem_append.1 hx with h | h
          · exact hp1.byte x h
          · exact hq1.byte x h
        have hrow5 := byteRow_owns s5.row hPQ
        have hp2 := (byteRow_take hrow5 (m := P.length) (by simp)).1
        rw [List.take_left] at hp2
        have hq2 := byteRow_sub hrow5 (i := P.length) (m := Q.length) (by simp)
        rw [List.drop_left, List.take_length, Nat.zero_add] at hq2
        have r1 := run_string w5 _ _ hp1.reads
        have r2 := run_string w5 _ _ hq1.reads
        have r3 := run_string w5 _ _ hp2.reads
        have r4 := run_string w5 _ _ hq2.reads
        have hat := at_st (s5.front 3)
        generalize strOf P = S0 at *
        generalize strOf Q = S1 at *
        have hbel := s5.below hB
        have hhd := heads_any w5
        clear s5 hp1 hq1 hp2 hq2 hrow5 hPQ
        simp only
        go_wp2_with (first | (go_at_call 15; refine hat.mono ?_; rintro e w6 ⟨rfl, rfl⟩) | (go_at_call 14; refine hhd.mono ?_; rintro e w6 ⟨rfl, hb6⟩))
        go_ret
        exact ⟨rfl, hbel.trans (hb6.mono hbel.size)⟩

end Go.Proofs.YtpkmojfjpnejdaaGreat.headerGets
