/-
  A text that is another one, repeated, has its rotations in groups; a rotation of a text has the same rotations: the walk of SufsortTurns. No conditions.
-/
import Derived.Test.YthcbmkbgchobfaaSufN
import Derived.Lib.AtoiErrMem
import Derived.Laws.AppendOwn
namespace Go.Proofs.Ythcbmkbgchobfaa.sufsortTurns
open Go.RowKit Go.Proofs.Ythcbmkbgchobfaa.Suf

theorem strOf_size (a : List Nat) : (strOf a).size = a.length := by
  show (strOf a).data.size = _
  rw [strOf_data]
  simp

/-- A row of bytes, of any marks, whatever stands behind them. -/
def strT (b : Nat) (cs : Array Value) (fr : Nat × Nat) : Thing where
  holds w S := w.heap[b]? = some (.cells cs 5 fr) ∧ ∀ k, S k ↔ k = b
  keep := by
    rintro w w' S T ⟨h1, h2⟩ ho hd
    exact ⟨ho.at h1 (hd b ((h2 b).2 rfl)), h2⟩
  lt := by
    rintro w S k ⟨h1, h2⟩ hk
    obtain rfl := (h2 k).1 hk
    exact lt_of_block h1

section
variable {B : Nat} {w0 w : World} {r : List Thing}

theorem conv_st (st : St B w0 w r) (xs : List Nat) (hb : ∀ x ∈ xs, x < 256) :
    ∃ cap W T, (convert 9 22 (.string (strOf xs))).run Try.prog w = .ok (.slice (some ⟨w.heap.size, 0, none⟩) xs.length cap) W ∧ St B w0 W (T :: r) ∧ ∀ W' L, St B w0 W' (T :: L) → ByteRow W' (.slice (some ⟨w.heap.size, 0, none⟩) xs.length cap) xs := by
  have hrun := Lib.run_convert_string_bytes (P := Try.prog) w 9 22 5 (strOf xs) Try.underlying9 Try.underlying22 Try.underlying5
  rw [strOf_size] at hrun
  refine ⟨_, _, strT w.heap.size (Lib.bytesCells w 5 (strOf xs)) ((Lib.bytesCells w 5 (strOf xs)).size, (Lib.bytesCells w 5 (strOf xs)).size + 1), hrun, ?_, ?_⟩
  · exact st.add (S := fun k => k = w.heap.size) (Lib.bytesWorld_below w 5 (strOf xs)) ⟨Lib.bytesWorld_at_new w 5 (strOf xs), fun _ => Iff.rfl⟩ (fun k hk => by omega)
  · intro W' L t
    obtain ⟨S1, h1, _⟩ := t.sep
    refine ⟨_, _, rfl, grownCap_ge _ _ _ _, (fun e => by cases e), fun i hi => ⟨hb _ (List.getElem_mem hi), w.heap.size, 0, rfl, ?_⟩⟩
    rw [Nat.zero_add, cell_of_row _ w.heap.size i _ 5 _ h1.1]
    unfold Lib.bytesCells
    rw [Array.getElem?_append_left (by rw [Array.size_map]; show i < (strOf xs).size; rw [strOf_size]; exact hi), Array.getElem?_map, strOf_data]
    simp [hi]
    have := hb _ (List.getElem_mem hi)
    omega
end

theorem byte_nat {v : Int} (hv : (Lit.int .u8 v).wf = true) : ∃ x : Nat, v = (x : Int) ∧ x < 256 := by
  simp only [Lit.wf, Bool.and_eq_true, decide_eq_true_eq] at hv
  have e1 : IntKind.u8.min = 0 := rfl
  have e2 : IntKind.u8.max = 255 := rfl
  exact ⟨v.toNat, by omega, by omega⟩
theorem u16_nat {v : Int} (hv : (Lit.int .u16 v).wf = true) : ∃ x : Nat, v = (x : Int) ∧ x < 65536 := by
  simp only [Lit.wf, Bool.and_eq_true, decide_eq_true_eq] at hv
  have e1 : IntKind.u16.min = 0 := rfl
  have e2 : IntKind.u16.max = 65535 := rfl
  exact ⟨v.toNat, by omega, by omega⟩

set_option maxRecDepth 100000 in
set_option maxHeartbeats 16000000 in
theorem walk (w : World) (v : Value) (b : List Nat) (h : ByteRow w v b) (tt : Int) (htt : (Lit.int .u8 tt).wf = true) (yy : Int) (hyy : (Lit.int .u16 yy).wf = true) :
    Calls Try.prog 6 #[v, .int .u8 tt, .int .u16 yy] w fun e w' => e = .returned (.bool true) ∧ Below w.heap.size w w' := by
  obtain ⟨t, rfl, ht⟩ := byte_nat htt
  obtain ⟨y, rfl, hy⟩ := u16_nat hyy
  have hbyte := h.byte
  obtain ⟨va, vc, rfl⟩ : ∃ a c, v = .slice a b.length c := by obtain ⟨a, c, e, _⟩ := h; exact ⟨a, c, e⟩
  obtain ⟨m, hm⟩ : ∃ m, b.length = m := ⟨_, rfl⟩
  by_cases c1 : 100 < m
  · rw [hm]
    go_enter Try.func6, Try.ntmps6
    go_wp2_with fail
    refine (sorts_any w).mono ?_
    rintro e w8 ⟨rfl, b2⟩
    go_wp2_with fail
    go_ret
    exact ⟨rfl, b2⟩
  by_cases c2 : m = 0
  · rw [hm]
    subst c2
    go_enter Try.func6, Try.ntmps6
    go_wp2_with fail
    refine (sorts_any w).mono ?_
    rintro e w8 ⟨rfl, b2⟩
    go_wp2_with fail
    go_ret
    exact ⟨rfl, b2⟩
  have HV : Hid (∀ W r, St w.heap.size w W r → ByteRow W (.slice va m vc) b) := Lib.hid fun W r t => by rw [← hm]; exact h.below (t.below (Nat.le_refl _)) (Nat.le_refl _)
  rw [hm]
  have HM := Lib.hid hm
  have HB := Lib.hid hbyte
  clear h hbyte hm
  have d1 : decide ((100 : Int) < (m : Int)) = false := by simp; omega
  have d2 : decide ((m : Int) = 0) = false := by simp; omega
  have d3 : ((m : Int) == 0) = false := by rw [beq_eq_false_iff_ne]; omega
  obtain ⟨n, hn⟩ : ∃ n, 1 + t % 6 = n := ⟨_, rfl⟩
  have hn6 : n ≤ 6 := by omega
  have hn1 : 1 ≤ n := by omega
  have hm1 : 1 ≤ m := by omega
  have hrem : (t : Int).tmod 6 = ((t % 6 : Nat) : Int) := by rw [Int.tmod_eq_emod_of_nonneg (by omega)]; rfl
  have hnI : (1 : Int) + (t : Int) % 6 = (n : Int) := by omega
  have s0 := (St.start w).addNil (e := 5) (size := 1)
  go_enter Try.func6, Try.ntmps6
  go_wp2_with fail
  go_loopw [8, 9] (fun cv iv wr => ∃ k l : Nat, k ≤ n ∧ Hid (l = k * m) ∧ iv = .int .i64 (k : Int) ∧ St w.heap.size w wr [rowT 5 1 cv l (u8s (rep b k))]) (fun _ iv _ => n - (intOf iv).toNat)
  case atStart => exact ⟨0, 0, by omega, Lib.hid (by rw [Nat.zero_mul]), rfl, s0⟩
  case round =>
    clear s0
    obtain ⟨k, l, hk, hl, rfl, s1⟩ := hrel
    by_cases hlt : k < n
    · have hkm : l ≤ 600 := by
        have := Nat.mul_le_mul (show k ≤ 6 by omega) (show m ≤ 100 by omega)
        rw [hl.out]
        omega
      have hv := HV.out _ _ s1
      obtain ⟨ca, cc, rfl⟩ := ownsRow_slice s1.row
      go_wp2_with (at_builtin; refine wpList_append_bytes rfl _ _ rfl s1 hv rfl rfl (by rw [HM.out]; omega) ?_; intro v' w' s2 _ _)
      rw [HM.out] at s2
      obtain ⟨l2, hl2⟩ : ∃ l2, l + m = l2 := ⟨_, rfl⟩
      rw [hl2] at s2
      have hl3 : l2 = (k + 1) * m := by rw [← hl2, hl.out, Nat.succ_mul]
      replace s2 : St w.heap.size w w' [rowT 5 1 v' l2 (u8s (rep b (k + 1)))] := by
        rw [rep, u8s_append]
        exact s2
      obtain ⟨ca', cc', rfl⟩ := ownsRow_slice s2.row
      have HS := Lib.hid (And.intro s2 hl3)
      clear s1 s2 hl2 hl3
      go_wp2
      go_roundw
      case rel => exact ⟨k + 1, l2, by omega, Lib.hid HS.out.2, by go_num, HS.out.1⟩
      case measure => simp [intOf]; omega
    · obtain rfl : n = k := by omega
      obtain ⟨N, hN⟩ : ∃ N, n * m = N := ⟨_, rfl⟩
      have hN6 : N ≤ 600 := by
        have := Nat.mul_le_mul hn6 (show m ≤ 100 by omega)
        omega
      have hN1 : 1 ≤ N := by
        have := Nat.mul_le_mul hn1 hm1
        omega
      rw [hl.out, hN] at s1
      obtain ⟨C, hC⟩ : ∃ C, rep b n = C := ⟨_, rfl⟩
      rw [hC] at s1
      have hCl : C.length = N := by rw [← hC, rep_length, HM.out, hN]
      have hCb : ∀ x ∈ C, x < 256 := by
        have : ∀ j, ∀ x ∈ rep b j, x < 256 := fun j => by
          induction j with
          | zero => intro x hx; simp [rep] at hx
          | succ j ih =>
            intro x hx
            rw [rep] at hx
            rcases List.mem_append.1 hx with hx | hx
            · exact ih x hx
            · exact HB.out x hx
        rw [← hC]; exact this n
      obtain ⟨ca, cc, rfl⟩ := ownsRow_slice s1.row
      have HCV : Hid (∀ W r, St w.heap.size w W (rowT 5 1 (.slice ca N cc) N (u8s C) :: r) → ByteRow W (.slice ca N cc) C) := Lib.hid fun W r t => byteRow_owns (by rw [hCl]; exact t.row) hCb
      have HCL := Lib.hid hCl
      have HCB := Lib.hid hCb
      have HG : Hid (∀ R, Whole N (Ahead true C) R → ∀ i (hi : i < N), nth R i < N ∧ nth R (i - i % n) < N ∧ text true C (nth R i) = text true C (nth R (i - i % n))) := Lib.hid fun R hR i hi => by
        subst hC
        have hl := hR.len
        have h1 := groups (b := b) (n := n) (R := R) (by omega) (by rw [HM.out, hN]; exact hR) i (by rw [HM.out, hN]; exact hi)
        rw [nth_lt (by omega), nth_lt (show i - i % n < R.length by omega)]
        refine ⟨hR.mem _ (List.getElem_mem _), hR.mem _ (List.getElem_mem _), ?_⟩
        exact (same_text (by rw [hCl]; exact hR.mem _ (List.getElem_mem _)) (by rw [hCl]; exact hR.mem _ (List.getElem_mem _))).2 h1
      have hrot := rots_st s1 (.slice ca N cc) C (fun W t => HCV.out W _ t) (by rw [hCl]; omega)
      clear hC hCl hCb
      go_wp2_with fail
      refine hrot.mono ?_
      rintro e w2 ⟨R, hR, g, rfl, s2⟩
      rw [HCL.out] at hR
      rw [hR.len] at s2 ⊢
      have HR := Lib.hid hR
      clear hrot s1 hR
      go_wp2
      go_loopw [11] (fun iv wr => ∃ k : Nat, k ≤ N ∧ iv = .int .i64 (k : Int) ∧ St w.heap.size w wr [numsT 3 g N R, rowT 5 1 (.slice ca N cc) N (u8s C)]) (fun iv _ => N - (intOf iv).toNat)
      case atStart => exact ⟨0, by omega, rfl, s2⟩
      case round =>
        clear s2
        obtain ⟨k, hk, rfl, s3⟩ := hrel
        by_cases hlt : k < N
        · obtain ⟨ha, ha', hsame⟩ := HG.out R HR.out k hlt
          obtain ⟨q, hq⟩ : ∃ q, k - k % n = q := ⟨_, rfl⟩
          rw [hq] at ha' hsame
          have hqk : q ≤ k := by omega
          have c0 := (s3.numCell k HR.out.len hlt).1
          have c1 := (s3.numCell q HR.out.len (by omega)).1
          rw [← nth_lt (by rw [HR.out.len]; omega)] at c0 c1
          have hmodle := Nat.mod_le k n
          have hrem1 : (k : Int).tmod (n : Int) = (k : Int) % (n : Int) := Int.tmod_eq_emod_of_nonneg (by omega)
          have hsub : (k : Int) - (k : Int) % (n : Int) = (q : Int) := by rw [← Int.natCast_emod]; omega
          have hqN : (q : Int) < (N : Int) := by omega
          have hkN : (k : Int) < (N : Int) := by omega
          generalize nth R k = a at *
          generalize nth R q = c at *
          have hTa : ∀ m, Calls Try.prog 17 #[.slice ca N cc, .int .i64 (a : Int)] (wr.drewN m) fun e w' => e = .returned (.string (strOf (text true C a))) ∧ ∃ j, w' = wr.drewN j := fun m => by
            have := rot_any (wr.drewN m) _ C (HCV.out _ _ (s3.drewN m).swap) (by rw [HCL.out]; omega) a (by rw [HCL.out]; omega)
            exact this.mono fun _ _ ⟨h1, h2⟩ => ⟨h1, m + 1, h2⟩
          have hTc : ∀ m, Calls Try.prog 17 #[.slice ca N cc, .int .i64 (c : Int)] (wr.drewN m) fun e w' => e = .returned (.string (strOf (text true C a))) ∧ ∃ j, w' = wr.drewN j := fun m => by
            have := rot_any (wr.drewN m) _ C (HCV.out _ _ (s3.drewN m).swap) (by rw [HCL.out]; omega) c (by rw [HCL.out]; omega)
            rw [← hsame] at this
            exact this.mono fun _ _ ⟨h1, h2⟩ => ⟨h1, m + 1, h2⟩
          generalize strOf (text true C a) = sa at *
          clear hsame hmodle
          have hn0 : (n : Int) ≠ 0 := by omega
          go_wp2
          go_quiet ((go_at_call 17; first | with_reducible exact hTa _ | with_reducible exact hTc _))
          have s4 := s3.drewN nq
          clear s3 hTa hTc c0 c1
          generalize wr.drewN nq = wd at *
          go_wp2
          go_roundw
          case rel => exact ⟨k + 1, by omega, by go_num, s4⟩
          case measure => simp [intOf]; omega
        · obtain rfl : N = k := by omega
          obtain ⟨j, hj⟩ : ∃ j, y % N = j := ⟨_, rfl⟩
          have hjN : j < N := by rw [← hj]; exact Nat.mod_lt _ (by omega)
          have hrem1 : (y : Int).tmod (N : Int) = (y : Int) % (N : Int) := Int.tmod_eq_emod_of_nonneg (by omega)
          have hmod : (y : Int) % (N : Int) = (j : Int) := by rw [← Int.natCast_emod, hj]
          have hN0 : (N : Int) ≠ 0 := by omega
          have hT : ∀ W r, St w.heap.size w W (rowT 5 1 (.slice ca N cc) N (u8s C) :: r) → ∀ i, i < N → Calls Try.prog 17 #[.slice ca N cc, .int .i64 (i : Int)] W fun e w' => e = .returned (.string (strOf (text true C i))) ∧ w' = W.drew := fun W r t i hi => by
            exact rot_any W _ C (HCV.out _ _ t) (by rw [HCL.out]; omega) i (by rw [HCL.out]; omega)
          have hrotj := hT wr _ s3.swap j hjN
          obtain ⟨D, hD⟩ : ∃ D, text true C j = D := ⟨_, rfl⟩
          rw [hD] at hrotj
          have hDl : D.length = N := by rw [← hD]; simp only [text, if_true]; rw [List.length_append, List.length_drop, List.length_take, HCL.out]; omega
          have hDb : ∀ x ∈ D, x < 256 := by rw [← hD]; exact text_byte HCB.out j
          have HTU : Hid (∀ S, Whole N (Ahead true D) S → ∀ i, i < N → nth R i < N ∧ nth S i < N ∧ text true C (nth R i) = text true D (nth S i)) := Lib.hid fun S hS i hi => by
            have hRl := HR.out.len
            have hSl := hS.len
            subst hD
            have := turned (c := C) (k := j) (R := R) (S := S) (by rw [HCL.out]; exact hjN) (by rw [HCL.out]; exact HR.out) (by rw [HCL.out]; exact hS) i (by rw [HCL.out]; exact hi)
            rw [nth_lt (by omega), nth_lt (by omega)]
            exact ⟨HR.out.mem _ (List.getElem_mem _), hS.mem _ (List.getElem_mem _), this⟩
          obtain ⟨cap, W, T, hrun, s4, hrow⟩ := conv_st s3.drew D hDb
          rw [hDl, show wr.drew.heap.size = wr.heap.size from rfl] at hrun hrow
          have HDL := Lib.hid hDl
          have HROW := Lib.hid hrow
          have HT := Lib.hid hT
          clear hDl hDb hD hj hrow hT
          generalize strOf D = sd at *
          go_wp2_with fail
          refine hrotj.mono ?_
          rintro e w' ⟨rfl, rfl⟩
          clear hrotj
          go_wp2_with fail
          have hrot := rots_st s4 (.slice (some ⟨wr.heap.size, 0, none⟩) N cap) D (fun W t => HROW.out W _ t) (by rw [HDL.out]; omega)
          refine hrot.mono ?_
          rintro e w5 ⟨S, hS, g2, rfl, s5⟩
          rw [HDL.out] at hS
          rw [hS.len] at s5 ⊢
          have HS := Lib.hid hS
          clear hrot s3 s4 hS hrun
          generalize wr.heap.size = gd at *
          have hNN : decide ((N : Int) = (N : Int)) = true := by simp
          go_wp2
          go_loopw [15] (fun iv wr => ∃ k : Nat, k ≤ N ∧ iv = .int .i64 (k : Int) ∧ St w.heap.size w wr [numsT 3 g2 N S, T, numsT 3 g N R, rowT 5 1 (.slice ca N cc) N (u8s C)]) (fun iv _ => N - (intOf iv).toNat)
          case atStart => exact ⟨0, by omega, rfl, s5⟩
          case round =>
            clear s5
            obtain ⟨k, hk, rfl, s6⟩ := hrel
            by_cases hlt : k < N
            · obtain ⟨ha, hc, hsame⟩ := HTU.out S HS.out k hlt
              have c0 := (s6.third.numCell k HR.out.len hlt).1
              have c1 := (s6.numCell k HS.out.len hlt).1
              rw [← nth_lt (by rw [HR.out.len]; omega)] at c0
              rw [← nth_lt (by rw [HS.out.len]; omega)] at c1
              have hkN : (k : Int) < (N : Int) := by omega
              generalize nth R k = a at *
              generalize nth S k = c at *
              have hTa : ∀ m, Calls Try.prog 17 #[.slice ca N cc, .int .i64 (a : Int)] (wr.drewN m) fun e w' => e = .returned (.string (strOf (text true C a))) ∧ ∃ j, w' = wr.drewN j := fun m =>
                (HT.out _ _ (s6.drewN m).fourth a ha).mono fun _ _ ⟨h1, h2⟩ => ⟨h1, m + 1, h2⟩
              have hTc : ∀ m, Calls Try.prog 17 #[.slice (some ⟨gd, 0, none⟩) N cap, .int .i64 (c : Int)] (wr.drewN m) fun e w' => e = .returned (.string (strOf (text true C a))) ∧ ∃ j, w' = wr.drewN j := fun m => by
                have := rot_any (wr.drewN m) _ D (HROW.out _ _ (s6.drewN m).swap) (by rw [HDL.out]; omega) c (by rw [HDL.out]; omega)
                rw [← hsame] at this
                exact this.mono fun _ _ ⟨h1, h2⟩ => ⟨h1, m + 1, h2⟩
              generalize strOf (text true C a) = sa at *
              clear hsame
              go_wp2
              go_quiet ((go_at_call 17; first | with_reducible exact hTa _ | with_reducible exact hTc _))
              have s7 := s6.drewN nq
              clear s6 hTa hTc c0 c1
              generalize wr.drewN nq = wd at *
              go_wp2
              go_roundw
              case rel => exact ⟨k + 1, by omega, by go_num, s7⟩
              case measure => simp [intOf]; omega
            · have b1 := s6.below (Nat.le_refl _)
              clear s6
              go_wp2_with fail
              refine (sorts_any wr).mono ?_
              rintro e w8 ⟨rfl, b2⟩
              go_wp2_with fail
              go_ret
              exact ⟨rfl, b1.trans (b2.mono b1.size)⟩

end Go.Proofs.Ythcbmkbgchobfaa.sufsortTurns
