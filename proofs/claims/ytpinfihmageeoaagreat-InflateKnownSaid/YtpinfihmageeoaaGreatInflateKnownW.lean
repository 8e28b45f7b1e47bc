/-
  The examples of the chapter, each kind, what is wrong: the walk of InflateKnown (written by wip/gen_iknown.py). No conditions.
-/
import Derived.Test.YtpinfihmageeoaaGreatInflateKnownR
namespace Go.Proofs.YtpinfihmageeoaaGreat.inflateKnown
open Go.RowKit Kraft Hd Inf

theorem fix_words : wordsErr fixP = 0 ∧ wordsErr fixQ = 0 := ⟨by decide +kernel, by decide +kernel⟩
theorem fix_len : fixP.length = 288 ∧ fixQ.length = 32 := ⟨by decide +kernel, by decide +kernel⟩
theorem fix_bytes : (∀ x ∈ fixP, x < 256) ∧ ∀ x ∈ fixQ, x < 256 := ⟨by decide +kernel, by decide +kernel⟩
def knT (d : Int) : List Tok.Tk := [(0, 0, 97), (0, 0, 98), (258, d, 0)]
theorem pk_d1 : pk ([] ++ bitsOf 3 3 ++ laidBits fixP fixQ (knT 1)) = [75, 76, 26, 5, 0] := by decide +kernel
theorem pk_d2 : pk ([] ++ bitsOf 3 3 ++ laidBits fixP fixQ (knT 2)) = [75, 76, 26, 133, 0] := by decide +kernel
theorem pk_d3 : pk ([] ++ bitsOf 3 3 ++ laidBits fixP fixQ (knT 3)) = [75, 76, 26, 69, 0] := by decide +kernel
theorem len_d (d : Int) (h : d = 1 ∨ d = 2 ∨ d = 3) : ([] ++ bitsOf 3 3 ++ laidBits fixP fixQ (knT d)).length ≤ 1000 := by
  rcases h with rfl | rfl | rfl <;> decide +kernel
theorem may_d (d : Int) (h : d = 1 ∨ d = 2 ∨ d = 3) : (∀ t ∈ knT d, Tok.may t = true) ∧ Tok.Fits (knT d) := by
  rcases h with rfl | rfl | rfl <;> exact ⟨by decide +kernel, fun t ht => by
    rcases List.mem_cons.1 ht with rfl | ht
    · exact ⟨by decide, by decide, by decide⟩
    · rcases List.mem_cons.1 ht with rfl | ht
      · exact ⟨by decide, by decide, by decide⟩
      · obtain rfl := List.mem_singleton.1 ht
        exact ⟨by decide, by decide, by decide⟩⟩
theorem pk_s284 : pk ([] ++ bitsOf 3 3 ++ wordBits fixP 284 ++ bitsOf 0 20) = [27, 1, 0, 0] := by decide +kernel
theorem pk_s285 : pk ([] ++ bitsOf 3 3 ++ wordBits fixP 285 ++ bitsOf 0 20) = [27, 5, 0, 0] := by decide +kernel
theorem pk_s286 : pk ([] ++ bitsOf 3 3 ++ wordBits fixP 286 ++ bitsOf 0 20) = [27, 3, 0, 0] := by decide +kernel
theorem pk_s287 : pk ([] ++ bitsOf 3 3 ++ wordBits fixP 287 ++ bitsOf 0 20) = [27, 7, 0, 0] := by decide +kernel

set_option maxRecDepth 100000 in
set_option maxHeartbeats 40000000 in
theorem walk (w : World) : Calls Tryz.prog 3 #[] w fun e w' => e = .returned (.bool true) ∧ Below w.heap.size w w' := by
  have s0 := (St.start w).newBox knC 24
  obtain ⟨TB, hTB⟩ : ∃ b, w.heap.size = b := ⟨_, rfl⟩
  have hB : TB ≤ w.heap.size := by omega
  rw [hTB] at s0 ⊢
  go_enter Tryz.func3, Tryz.ntmps3
  go_wp2
  obtain ⟨CS, hCS⟩ : ∃ C, C = knC := ⟨_, rfl⟩
  rw [← hCS] at s0
  have hC := knC_at
  rw [← hCS] at hC
  have HC := Lib.hid hC
  have HCS := Lib.hid hCS
  clear hCS hC
  go_loopw [2] (fun iv wr => ∃ k : Nat, k ≤ 14 ∧ iv = .int .i64 (k : Int) ∧ St TB w wr [boxT TB CS 24]) (fun iv _ => 14 - (intOf iv).toNat)
  case atStart => exact ⟨0, by omega, rfl, by rw [HCS.out] at s0 ⊢; exact s0⟩
  case round =>
    clear s0 HCS
    obtain ⟨k, hk, rfl, s1⟩ := hrel
    by_cases hlt : k < 14
    · have hc := HC.out k hlt
      have c0 : wr.cell? ⟨TB, k * 4, none⟩ = some (.string (strOf (knB k))) := by rw [(St.boxAt s1 _).1]; exact hc.1
      have c1 : wr.cell? ⟨TB, k * 4 + 1, none⟩ = some (.string (strOf (knS k))) := by rw [(St.boxAt s1 _).1]; exact hc.2.1
      have c2 : wr.cell? ⟨TB, k * 4 + 2, none⟩ = some (.int .i64 (knN k : Int)) := by rw [(St.boxAt s1 _).1]; exact hc.2.2.1
      have c3 : wr.cell? ⟨TB, k * 4 + 3, none⟩ = some (.int .i64 (knE k : Int)) := by rw [(St.boxAt s1 _).1]; exact hc.2.2.2
      have hsm := kn_small k hlt
      have hr := kn_row k hlt
      obtain ⟨cap, W, T, hrun, s2, hv⟩ := Fr.conv_st s1 (knB k) hsm.2.1
      obtain ⟨m, hm⟩ : ∃ m, (knS k).length = m := ⟨_, rfl⟩
      obtain ⟨m0, hm0⟩ : ∃ m, (knB k).length = m := ⟨_, rfl⟩
      have hinf := inflate_row s2 (.slice (some ⟨wr.heap.size, 0, none⟩) (knB k).length cap) (fun W' t => hv W' _ t) (by omega) 100 (by omega) hr (by omega) hm
      obtain ⟨q1, q2, q3, q4, q5⟩ := hsm
      have HT : Hid (∀ W' L, St TB w W' (T :: boxT TB CS 24 :: L) → True) := Lib.hid fun _ _ _ => trivial
      have hsz : (strOf (knS k)).size = m := by rw [← hm]; show (strOf (knS k)).data.size = _; rw [strOf_data]; simp
      have HM := Lib.hid hm
      rw [hm0] at hinf hrun q1
      have HC1 : Hid (∀ W L, St TB w W (boxT TB CS 24 :: L) → W.cell? ⟨TB, k * 4 + 1, none⟩ = some (.string (strOf (knS k))) ∧ W.cell? ⟨TB, k * 4 + 2, none⟩ = some (.int .i64 (knN k : Int)) ∧ W.cell? ⟨TB, k * 4 + 3, none⟩ = some (.int .i64 (knE k : Int))) := Lib.hid fun W L t => by
        refine ⟨?_, ?_, ?_⟩
        · rw [(St.boxAt t _).1]; exact hc.2.1
        · rw [(St.boxAt t _).1]; exact hc.2.2.1
        · rw [(St.boxAt t _).1]; exact hc.2.2.2
      clear hv hr hc hm hm0 q2 HT
      generalize knN k = u at *
      generalize knE k = f at *
      generalize knS k = o at *
      generalize knB k = bs at *
      generalize strOf bs = SB at *
      go_wp2_with fail
      refine hinf.mono ?_
      rintro e w3 ⟨oa, oc, rfl, s3⟩
      have s4 := s3.newBox #[.slice oa m oc, .int .i64 (m : Int), .int .i64 (u : Int), .bool false] 28
      obtain ⟨FB, hFB⟩ : ∃ x, w3.heap.size = x := ⟨_, rfl⟩
      rw [hFB] at s4
      clear hinf hrun s2 s3 c0 c1 c2 c3
      go_wp2
      clear hFB
      generalize w3.alloc (.cells #[.slice oa m oc, .int .i64 (m : Int), .int .i64 (u : Int), .bool false] 28) = wd at *
      obtain ⟨c1, c2, c3⟩ := HC1.out _ _ (s4.front 3)
      have k0 : wd.cell? ⟨FB, 0, none⟩ = some (.slice oa m oc) := (St.boxAt s4 0).1
      have k1 : wd.cell? ⟨FB, 1, none⟩ = some (.int .i64 (m : Int)) := (St.boxAt s4 1).1
      have k2 : wd.cell? ⟨FB, 2, none⟩ = some (.int .i64 (u : Int)) := (St.boxAt s4 2).1
      have hcv : ∀ j, (convert 26 9 (.slice oa m oc)).run Tryz.prog (wd.drewN j) = .ok (.string (strOf o)) (wd.drewN j) := fun j => run_string _ _ _ (Reads.of_owns (St.row ((s4.drewN j).front 1)))
      have hcv1 : (convert 26 9 (.slice oa m oc)).run Tryz.prog wd.drew = .ok (.string (strOf o)) wd.drew := hcv 1
      generalize strOf o = SO at *
      have HS5 := Lib.hid (fun j => s4.drop.drop.drop.drewN j)
      have hkI : (k : Int) < 14 := by omega
      clear s4 s1 HC1
      go_quiet (fail)
      have s9 := HS5.out nq
      go_wp2
      exact ⟨⟨k + 1, by omega, by go_num, s9⟩, by simp [intOf]; omega⟩
    · have s2 := s1.drop
      clear s1 HC
      go_wp2_with fail
      refine (fixedL_st s2).mono ?_
      rintro e w3 ⟨g, h, rfl, s3⟩
      clear s2
      go_wp2
      go_loopw [7] (fun iv wr => ∃ k : Nat, 1 ≤ k ∧ k ≤ 4 ∧ iv = .int .i64 (k : Int) ∧ St TB w wr [bytesT g 288 fixP, bytesT h 32 fixQ]) (fun iv _ => 4 - (intOf iv).toNat)
      case atStart => exact ⟨1, by omega, by omega, rfl, s3⟩
      case round =>
        clear s3
        obtain ⟨k, hk1, hk4, rfl, s3⟩ := hrel
        rcases (by omega : k = 1 ∨ k = 2 ∨ k = 3 ∨ k = 4) with rfl | rfl | rfl | rfl
        · have s4 := s3.newWr
          have hput := put_st s4 3 3 (by decide) (by decide) (by decide)
          clear s3 s4
          go_wp2_with fail
          refine hput.mono ?_
          rintro e w4 ⟨rfl, s5⟩
          have s6 := (s5.newBox (Tok.tks (knT 1)).toArray 40).swap
          have hlay := lay_st s6 (by decide) (v1 := .slice (some ⟨w4.heap.size, 0, none⟩) 3 3) (v2 := .slice (some ⟨g, 0, none⟩) 288 288) (v3 := .slice (some ⟨h, 0, none⟩) 32 32) (l := knT 1) (P := fixP) (Q := fixQ) (fun W t => Tok.tokRow_box t.box (may_d 1 (by decide)).2 (by decide)) (fun W t => byteRow_owns (by rw [fix_len.1]; exact t.drop.row) fix_bytes.1) (fun W t => byteRow_owns (by rw [fix_len.2]; exact t.drop.drop.row) fix_bytes.2) (by decide) (may_d 1 (by decide)).1 (by rw [fix_len.1]; decide) (by rw [fix_len.2]; decide) fixP_reads fixQ_reads fix_words.1 fix_words.2
          clear hput s5 s6
          go_wp2_with fail
          refine hlay.mono ?_
          rintro e w5 ⟨rfl, s7⟩
          have hby := bytes_st s7 (by have := len_d 1 (by decide); omega)
          unfold BytesSt at hby
          rw [pk_d1] at hby
          clear hlay s7
          go_wp2_with fail
          refine hby.mono ?_
          rintro e w6 ⟨v6, rfl, s8⟩
          obtain ⟨ya, yc, rfl⟩ := ownsRow_slice s8.row
          have hr : RowSays [75, 76, 26, 5, 0] (Tok.rep 1 258 [97, 98]) 5 0 := .inl ⟨rfl, 39, kn_far1, rfl⟩
          have hm : (Tok.rep 1 258 [97, 98]).length = 260 := by decide +kernel
          obtain ⟨o, ho⟩ : ∃ o, Tok.rep 1 258 [97, 98] = o := ⟨_, rfl⟩
          rw [ho] at hr hm
          clear ho
          have hinf := inflate_row s8 (.slice ya [75, 76, 26, 5, 0].length yc) (fun W t => byteRow_owns t.row (by decide)) (by decide) 1000 (by decide) hr (by omega) hm
          have HM := Lib.hid hm
          clear hby s8 hr hm
          go_wp2_with fail
          refine hinf.mono ?_
          rintro e w7 ⟨oa, oc, rfl, s9⟩
          have s11 := (s9.newBox #[.slice oa 260 oc, .int .i64 260, .int .i64 5, .bool false] 28).drop.drop.drop.drop.drop
          clear hinf s9 HM
          go_wp2
          exact ⟨⟨2, by omega, by omega, rfl, s11⟩, by simp [intOf]⟩
        · have s4 := s3.newWr
          have hput := put_st s4 3 3 (by decide) (by decide) (by decide)
          clear s3 s4
          go_wp2_with fail
          refine hput.mono ?_
          rintro e w4 ⟨rfl, s5⟩
          have s6 := (s5.newBox (Tok.tks (knT 2)).toArray 40).swap
          have hlay := lay_st s6 (by decide) (v1 := .slice (some ⟨w4.heap.size, 0, none⟩) 3 3) (v2 := .slice (some ⟨g, 0, none⟩) 288 288) (v3 := .slice (some ⟨h, 0, none⟩) 32 32) (l := knT 2) (P := fixP) (Q := fixQ) (fun W t => Tok.tokRow_box t.box (may_d 2 (by decide)).2 (by decide)) (fun W t => byteRow_owns (by rw [fix_len.1]; exact t.drop.row) fix_bytes.1) (fun W t => byteRow_owns (by rw [fix_len.2]; exact t.drop.drop.row) fix_bytes.2) (by decide) (may_d 2 (by decide)).1 (by rw [fix_len.1]; decide) (by rw [fix_len.2]; decide) fixP_reads fixQ_reads fix_words.1 fix_words.2
          clear hput s5 s6
          go_wp2_with fail
          refine hlay.mono ?_
          rintro e w5 ⟨rfl, s7⟩
          have hby := bytes_st s7 (by have := len_d 2 (by decide); omega)
          unfold BytesSt at hby
          rw [pk_d2] at hby
          clear hlay s7
          go_wp2_with fail
          refine hby.mono ?_
          rintro e w6 ⟨v6, rfl, s8⟩
          obtain ⟨ya, yc, rfl⟩ := ownsRow_slice s8.row
          have hr : RowSays [75, 76, 26, 133, 0] (Tok.rep 2 258 [97, 98]) 5 0 := .inl ⟨rfl, 39, kn_far2, rfl⟩
          have hm : (Tok.rep 2 258 [97, 98]).length = 260 := by decide +kernel
          obtain ⟨o, ho⟩ : ∃ o, Tok.rep 2 258 [97, 98] = o := ⟨_, rfl⟩
          rw [ho] at hr hm
          clear ho
          have hinf := inflate_row s8 (.slice ya [75, 76, 26, 133, 0].length yc) (fun W t => byteRow_owns t.row (by decide)) (by decide) 1000 (by decide) hr (by omega) hm
          have HM := Lib.hid hm
          clear hby s8 hr hm
          go_wp2_with fail
          refine hinf.mono ?_
          rintro e w7 ⟨oa, oc, rfl, s9⟩
          have s11 := (s9.newBox #[.slice oa 260 oc, .int .i64 260, .int .i64 5, .bool false] 28).drop.drop.drop.drop.drop
          clear hinf s9 HM
          go_wp2
          exact ⟨⟨3, by omega, by omega, rfl, s11⟩, by simp [intOf]⟩
        · have s4 := s3.newWr
          have hput := put_st s4 3 3 (by decide) (by decide) (by decide)
          clear s3 s4
          go_wp2_with fail
          refine hput.mono ?_
          rintro e w4 ⟨rfl, s5⟩
          have s6 := (s5.newBox (Tok.tks (knT 3)).toArray 40).swap
          have hlay := lay_st s6 (by decide) (v1 := .slice (some ⟨w4.heap.size, 0, none⟩) 3 3) (v2 := .slice (some ⟨g, 0, none⟩) 288 288) (v3 := .slice (some ⟨h, 0, none⟩) 32 32) (l := knT 3) (P := fixP) (Q := fixQ) (fun W t => Tok.tokRow_box t.box (may_d 3 (by decide)).2 (by decide)) (fun W t => byteRow_owns (by rw [fix_len.1]; exact t.drop.row) fix_bytes.1) (fun W t => byteRow_owns (by rw [fix_len.2]; exact t.drop.drop.row) fix_bytes.2) (by decide) (may_d 3 (by decide)).1 (by rw [fix_len.1]; decide) (by rw [fix_len.2]; decide) fixP_reads fixQ_reads fix_words.1 fix_words.2
          clear hput s5 s6
          go_wp2_with fail
          refine hlay.mono ?_
          rintro e w5 ⟨rfl, s7⟩
          have hby := bytes_st s7 (by have := len_d 3 (by decide); omega)
          unfold BytesSt at hby
          rw [pk_d3] at hby
          clear hlay s7
          go_wp2_with fail
          refine hby.mono ?_
          rintro e w6 ⟨v6, rfl, s8⟩
          obtain ⟨ya, yc, rfl⟩ := ownsRow_slice s8.row
          have hr : RowSays [75, 76, 26, 69, 0] [] 0 2 := .inr ⟨rfl, kn_far3, rfl, rfl⟩
          have hm : ([] : List Nat).length = 0 := rfl
          have hinf := inflate_row s8 (.slice ya [75, 76, 26, 69, 0].length yc) (fun W t => byteRow_owns t.row (by decide)) (by decide) 1000 (by decide) hr (by omega) hm
          have HM := Lib.hid hm
          clear hby s8 hr hm
          go_wp2_with fail
          refine hinf.mono ?_
          rintro e w7 ⟨oa, oc, rfl, s9⟩
          have s11 := (s9.newBox #[.slice oa 0 oc, .int .i64 0, .int .i64 0, .bool false] 28).drop.drop.drop.drop.drop
          clear hinf s9 HM
          go_wp2
          exact ⟨⟨4, by omega, by omega, rfl, s11⟩, by simp [intOf]⟩
        · rw [show ((4 : Nat) : Int) = 4 from rfl]
          go_wp2
          go_loopw [11] (fun iv wr => ∃ k : Nat, 284 ≤ k ∧ k ≤ 288 ∧ iv = .int .i64 (k : Int) ∧ St TB w wr [bytesT g 288 fixP, bytesT h 32 fixQ]) (fun iv _ => 288 - (intOf iv).toNat)
          case atStart => exact ⟨284, by omega, by omega, rfl, s3⟩
          case round =>
            clear s3
            obtain ⟨k, hk1, hk4, rfl, s3⟩ := hrel
            rcases (by omega : k = 284 ∨ k = 285 ∨ k = 286 ∨ k = 287 ∨ k = 288) with rfl | rfl | rfl | rfl | rfl
            · have s4 := s3.newWr
              have hput := put_st s4 3 3 (by decide) (by decide) (by decide)
              clear s3 s4
              go_wp2_with fail
              refine hput.mono ?_
              rintro e w4 ⟨rfl, s5⟩
              have hnew := tnew_st s5 (.slice (some ⟨g, 0, none⟩) 288 288) fixP (byteRow_owns (by rw [fix_len.1]; exact s5.drop.row) fix_bytes.1) (by rw [fix_len.1]; decide)
              clear hput
              go_wp2_with fail
              refine hnew.mono ?_
              rintro e w5 (⟨hne, -⟩ | ⟨-, ta, rfl, s6⟩)
              · exact absurd fix_words.1 hne
              have hpl := Low.tput_st s6.swap 284 fixP_reads.low fixP_reads.weigh (by decide)
              rw [show (putErr fixP 284 : Int) = 0 from by decide +kernel] at hpl
              clear hnew s5 s6
              go_wp2_with fail
              refine hpl.mono ?_
              rintro e w6 ⟨rfl, s7⟩
              have hp2 := put_st s7 0 20 (by decide +kernel) (by decide) (by decide)
              clear hpl s7
              go_wp2_with fail
              refine hp2.mono ?_
              rintro e w7 ⟨rfl, s8⟩
              have hby := bytes_st s8 (by decide +kernel)
              unfold BytesSt at hby
              rw [pk_s284] at hby
              clear hp2 s8
              go_wp2_with fail
              refine hby.mono ?_
              rintro e w8 ⟨v8, rfl, s9⟩
              obtain ⟨ya, yc, rfl⟩ := ownsRow_slice s9.row
              have hinf := inflate_row s9 (.slice ya [27, 1, 0, 0].length yc) (fun W t => byteRow_owns t.row (by decide)) (by decide) 1000 (by decide) (.inr ⟨rfl, kn_s284, rfl, rfl⟩) (by decide) (rfl : ([] : List Nat).length = 0)
              clear hby s9
              go_wp2_with fail
              refine hinf.mono ?_
              rintro e w9 ⟨oa, oc, rfl, s10⟩
              have s11 := (s10.newBox #[.slice oa 0 oc, .int .i64 0, .int .i64 0, .bool false] 28).drop.drop.drop.drop.drop
              clear hinf s10
              go_wp2
              exact ⟨⟨285, by omega, by omega, rfl, s11⟩, by simp [intOf]⟩
            · have s4 := s3.newWr
              have hput := put_st s4 3 3 (by decide) (by decide) (by decide)
              clear s3 s4
              go_wp2_with fail
              refine hput.mono ?_
              rintro e w4 ⟨rfl, s5⟩
              have hnew := tnew_st s5 (.slice (some ⟨g, 0, none⟩) 288 288) fixP (byteRow_owns (by rw [fix_len.1]; exact s5.drop.row) fix_bytes.1) (by rw [fix_len.1]; decide)
              clear hput
              go_wp2_with fail
              refine hnew.mono ?_
              rintro e w5 (⟨hne, -⟩ | ⟨-, ta, rfl, s6⟩)
              · exact absurd fix_words.1 hne
              have hpl := Low.tput_st s6.swap 285 fixP_reads.low fixP_reads.weigh (by decide)
              rw [show (putErr fixP 285 : Int) = 0 from by decide +kernel] at hpl
              clear hnew s5 s6
              go_wp2_with fail
              refine hpl.mono ?_
              rintro e w6 ⟨rfl, s7⟩
              have hp2 := put_st s7 0 20 (by decide +kernel) (by decide) (by decide)
              clear hpl s7
              go_wp2_with fail
              refine hp2.mono ?_
              rintro e w7 ⟨rfl, s8⟩
              have hby := bytes_st s8 (by decide +kernel)
              unfold BytesSt at hby
              rw [pk_s285] at hby
              clear hp2 s8
              go_wp2_with fail
              refine hby.mono ?_
              rintro e w8 ⟨v8, rfl, s9⟩
              obtain ⟨ya, yc, rfl⟩ := ownsRow_slice s9.row
              have hinf := inflate_row s9 (.slice ya [27, 5, 0, 0].length yc) (fun W t => byteRow_owns t.row (by decide)) (by decide) 1000 (by decide) (.inr ⟨rfl, kn_s285, rfl, rfl⟩) (by decide) (rfl : ([] : List Nat).length = 0)
              clear hby s9
              go_wp2_with fail
              refine hinf.mono ?_
              rintro e w9 ⟨oa, oc, rfl, s10⟩
              have s11 := (s10.newBox #[.slice oa 0 oc, .int .i64 0, .int .i64 0, .bool false] 28).drop.drop.drop.drop.drop
              clear hinf s10
              go_wp2
              exact ⟨⟨286, by omega, by omega, rfl, s11⟩, by simp [intOf]⟩
            · have s4 := s3.newWr
              have hput := put_st s4 3 3 (by decide) (by decide) (by decide)
              clear s3 s4
              go_wp2_with fail
              refine hput.mono ?_
              rintro e w4 ⟨rfl, s5⟩
              have hnew := tnew_st s5 (.slice (some ⟨g, 0, none⟩) 288 288) fixP (byteRow_owns (by rw [fix_len.1]; exact s5.drop.row) fix_bytes.1) (by rw [fix_len.1]; decide)
              clear hput
              go_wp2_with fail
              refine hnew.mono ?_
              rintro e w5 (⟨hne, -⟩ | ⟨-, ta, rfl, s6⟩)
              · exact absurd fix_words.1 hne
              have hpl := Low.tput_st s6.swap 286 fixP_reads.low fixP_reads.weigh (by decide)
              rw [show (putErr fixP 286 : Int) = 0 from by decide +kernel] at hpl
              clear hnew s5 s6
              go_wp2_with fail
              refine hpl.mono ?_
              rintro e w6 ⟨rfl, s7⟩
              have hp2 := put_st s7 0 20 (by decide +kernel) (by decide) (by decide)
              clear hpl s7
              go_wp2_with fail
              refine hp2.mono ?_
              rintro e w7 ⟨rfl, s8⟩
              have hby := bytes_st s8 (by decide +kernel)
              unfold BytesSt at hby
              rw [pk_s286] at hby
              clear hp2 s8
              go_wp2_with fail
              refine hby.mono ?_
              rintro e w8 ⟨v8, rfl, s9⟩
              obtain ⟨ya, yc, rfl⟩ := ownsRow_slice s9.row
              have hinf := inflate_row s9 (.slice ya [27, 3, 0, 0].length yc) (fun W t => byteRow_owns t.row (by decide)) (by decide) 1000 (by decide) (.inr ⟨rfl, kn_s286, rfl, rfl⟩) (by decide) (rfl : ([] : List Nat).length = 0)
              clear hby s9
              go_wp2_with fail
              refine hinf.mono ?_
              rintro e w9 ⟨oa, oc, rfl, s10⟩
              have s11 := (s10.newBox #[.slice oa 0 oc, .int .i64 0, .int .i64 0, .bool false] 28).drop.drop.drop.drop.drop
              clear hinf s10
              go_wp2
              exact ⟨⟨287, by omega, by omega, rfl, s11⟩, by simp [intOf]⟩
            · have s4 := s3.newWr
              have hput := put_st s4 3 3 (by decide) (by decide) (by decide)
              clear s3 s4
              go_wp2_with fail
              refine hput.mono ?_
              rintro e w4 ⟨rfl, s5⟩
              have hnew := tnew_st s5 (.slice (some ⟨g, 0, none⟩) 288 288) fixP (byteRow_owns (by rw [fix_len.1]; exact s5.drop.row) fix_bytes.1) (by rw [fix_len.1]; decide)
              clear hput
              go_wp2_with fail
              refine hnew.mono ?_
              rintro e w5 (⟨hne, -⟩ | ⟨-, ta, rfl, s6⟩)
              · exact absurd fix_words.1 hne
              have hpl := Low.tput_st s6.swap 287 fixP_reads.low fixP_reads.weigh (by decide)
              rw [show (putErr fixP 287 : Int) = 0 from by decide +kernel] at hpl
              clear hnew s5 s6
              go_wp2_with fail
              refine hpl.mono ?_
              rintro e w6 ⟨rfl, s7⟩
              have hp2 := put_st s7 0 20 (by decide +kernel) (by decide) (by decide)
              clear hpl s7
              go_wp2_with fail
              refine hp2.mono ?_
              rintro e w7 ⟨rfl, s8⟩
              have hby := bytes_st s8 (by decide +kernel)
              unfold BytesSt at hby
              rw [pk_s287] at hby
              clear hp2 s8
              go_wp2_with fail
              refine hby.mono ?_
              rintro e w8 ⟨v8, rfl, s9⟩
              obtain ⟨ya, yc, rfl⟩ := ownsRow_slice s9.row
              have hinf := inflate_row s9 (.slice ya [27, 7, 0, 0].length yc) (fun W t => byteRow_owns t.row (by decide)) (by decide) 1000 (by decide) (.inr ⟨rfl, kn_s287, rfl, rfl⟩) (by decide) (rfl : ([] : List Nat).length = 0)
              clear hby s9
              go_wp2_with fail
              refine hinf.mono ?_
              rintro e w9 ⟨oa, oc, rfl, s10⟩
              have s11 := (s10.newBox #[.slice oa 0 oc, .int .i64 0, .int .i64 0, .bool false] 28).drop.drop.drop.drop.drop
              clear hinf s10
              go_wp2
              exact ⟨⟨288, by omega, by omega, rfl, s11⟩, by simp [intOf]⟩
            · have t0 := s3.newBox #[.int .u8 3, .int .u8 0] 5
              have h29 := inflate_arg t0 (.slice (some ⟨wr.heap.size, 0, none⟩) 2 2) (-1) (by decide)
              clear s3 t0
              go_wp2_with fail
              refine h29.mono ?_
              rintro e w2 ⟨rfl, t1⟩
              have t2 := t1.newBox #[.slice none 0 0, .int .i64 0, .int .i64 0, .bool false] 28
              have t3 := t2.newBox #[.int .u8 1, .int .u8 2, .int .u8 0, .int .u8 253, .int .u8 255, .int .u8 97, .int .u8 98, .int .u8 99] 5
              rw [World.size_alloc] at t3
              have h30 := inflate_st t3 (.slice (some ⟨w2.heap.size + 1, 0, none⟩) 8 8) [1, 2, 0, 253, 255, 97, 98, 99] (fun W s => rowBox s [1, 2, 0, 253, 255, 97, 98, 99] rfl (by decide)) (by decide) 1 (by decide)
              unfold Flow10 at h30
              rw [infl_two] at h30
              simp only at h30
              rw [show used 56 = 7 from rfl] at h30
              clear h29 t1 t2 t3
              go_wp2_with fail
              refine h30.mono ?_
              rintro e w4 ⟨oa, oc, rfl, t4⟩
              have t5 := t4.newBox #[.slice oa 1 oc, .int .i64 2, .int .i64 7, .bool false] 28
              have t6 := t5.newBox #[.int .u8 1, .int .u8 2, .int .u8 0, .int .u8 253, .int .u8 255, .int .u8 97, .int .u8 98] 5
              rw [World.size_alloc] at t6
              have h31 := inflate_st t6 (.slice (some ⟨w4.heap.size + 1, 0, none⟩) 7 7) [1, 2, 0, 253, 255, 97, 98] (fun W s => rowBox s [1, 2, 0, 253, 255, 97, 98] rfl (by decide)) (by decide) 0 (by decide)
              unfold Flow10 at h31
              rw [kn_ab] at h31
              simp only at h31
              rw [show used 56 = 7 from rfl] at h31
              clear h30 t4 t5 t6
              go_wp2_with fail
              refine h31.mono ?_
              rintro e w6 ⟨ob, od, rfl, t7⟩
              have t8 := t7.newBox #[.slice ob 0 od, .int .i64 2, .int .i64 7, .bool false] 28
              clear h31 t7
              have k0 : (w6.alloc (.cells #[.slice ob 0 od, .int .i64 2, .int .i64 7, .bool false] 28)).cell? ⟨w4.heap.size, 0, none⟩ = some (.slice oa 1 oc) := (St.boxAt (t8.front 3) 0).1
              have k1 : (w6.alloc (.cells #[.slice ob 0 od, .int .i64 2, .int .i64 7, .bool false] 28)).cell? ⟨w4.heap.size, 1, none⟩ = some (.int .i64 2) := (St.boxAt (t8.front 3) 1).1
              have k2 : (w6.alloc (.cells #[.slice ob 0 od, .int .i64 2, .int .i64 7, .bool false] 28)).cell? ⟨w4.heap.size, 2, none⟩ = some (.int .i64 7) := (St.boxAt (t8.front 3) 2).1
              have hcv : (convert 26 9 (.slice oa 1 oc)).run Tryz.prog (w6.alloc (.cells #[.slice ob 0 od, .int .i64 2, .int .i64 7, .bool false] 28)) = .ok (.string ⟨#[97]⟩) (w6.alloc (.cells #[.slice ob 0 od, .int .i64 2, .int .i64 7, .bool false] 28)) := by
                have h := run_string _ _ [97] (Reads.of_owns (n := 1) (St.row (t8.front 4)))
                rw [show strOf [97] = ⟨#[97]⟩ from by decide] at h
                exact h
              have b8 := t8.below hB
              clear t8
              go_wp2_with fail
              refine (reads_any _).mono ?_
              rintro e w9 ⟨rfl, b9⟩
              have b9 := b8.trans (b9.mono (by rw [← hTB]; exact b8.size))
              go_wp2_with fail
              go_ret
              exact ⟨rfl, b9⟩

end Go.Proofs.YtpinfihmageeoaaGreat.inflateKnown
