/-
  The document's Put. No conditions but that rows are small.
-/
import Derived.Test.YtiggbioaaglgaaaFrL
import Derived.Deep.Cut
namespace Go.Proofs.Ytiggbioaaglgaaa.Fr
open Go.RowKit Crc

section
variable {B : Nat} {w0 w : World} {r : List Thing} {h : Gz} {ev : Value}

theorem litRow11 (st : St B w0 w r) (xs : List Nat) (hl : xs.length ≤ 1000) :
    St B w0 (w.alloc (.cells (u8s xs).toArray 5)) (rowT 5 1 (.slice (some ⟨w.heap.size, 0, none⟩) xs.length xs.length) xs.length (u8s xs) :: r) := by
  have h := World.ownsRow_lit (base := w.heap.size) (e := 5) (size := 1) w (u8s xs).toArray xs.length (Nat.le_refl _) (by unfold maxLen; omega) (by simp [u8s])
  exact st.addRow (below_alloc w _) (by simpa using h)

set_option maxRecDepth 100000 in
set_option maxHeartbeats 16000000 in
theorem refPut_st (st : St B w0 w r) (hf : Fits h) (hev : ∀ W, St B w0 W r → ByteRow W ev h.extra) (he : h.extra.length ≤ 1000000) (hn : h.name.length ≤ 1000000) (hc : h.comment.length ≤ 1000000) :
    Calls Try.prog 12 #[.agg (headC h ev)] w fun e w' => (may h = true ∧ ∃ v, e = .returned (.tuple #[v, .int .i64 0]) ∧ St B w0 w' (rowT 5 1 v (bytesOf h).length (u8s (bytesOf h)) :: r)) ∨
      (may h = false ∧ e = .returned (.tuple #[.slice none 0 0, .int .i64 5]) ∧ St B w0 w' r) := by
  obtain ⟨ea, ec, hev2, _⟩ := hev w st
  subst hev2
  have s1 := st.newBox (headC h (.slice ea h.extra.length ec)) 25
  obtain ⟨k0, k1, k2, k3, k4, k5, k6, k7, k8⟩ := headAt s1
  have hmay := refMay_any (w.alloc (.cells (headC h (.slice ea h.extra.length ec)) 25)) h hf ea ec hn hc
  go_enter Try.func12, Try.ntmps12
  go_wp2_with fail
  refine hmay.mono ?_
  rintro e w1 ⟨rfl, hb1⟩
  have s2 := s1.quiet hb1
  clear hmay k0 k1 k2 k3 k4 k5 k6 k7 k8 s1 hb1
  cases hm : may h with
  | false =>
    go_wp2
    go_ret2
    exact .inr ⟨hm, rfl, s2.drop⟩
  | true =>
    obtain ⟨m1, m2, -, -, -⟩ := (may_iff h).1 hm
    obtain ⟨k0, k1, k2, k3, k4, k5, k6, k7, k8⟩ := headAt s2
    have hF := flagsOf_lt m1
    have hflag : flagsOf h = h.has * 4 + h.text.toNat + 2 * h.sum.toNat := rfl
    obtain ⟨F, hFF⟩ : ∃ F, flagsOf h = F := ⟨_, rfl⟩
    rw [hFF] at hF hflag
    have hhas : h.has < 256 := hf.has
    obtain ⟨y, hy⟩ : ∃ y, h.has * 4 = y := ⟨_, rfl⟩
    have e1 : (h.has : Int) * 4 % 256 = (y : Int) := by omega
    rw [hy] at hflag
    have hy28 : y < 32 := by omega
    go_upto_if 13 with fail
    go_cut [4] from 6 (fun f wx => f = .int .u8 ((y + h.text.toNat : Nat) : Int) ∧ wx = w1)
    case first =>
      cases ht : h.text with
      | false =>
        go_wp2
        go_meet
        exact ⟨by congr 1; rw [ht]; simp; omega, rfl⟩
      | true =>
        go_wp2
        go_meet
        exact ⟨by congr 1; rw [ht]; simp; omega, rfl⟩
    case rest =>
    obtain ⟨rfl, rfl⟩ := hcut
    obtain ⟨y2, hy2⟩ : ∃ y2, y + h.text.toNat = y2 := ⟨_, rfl⟩
    have hb2 := bool_le h.text
    rw [hy2] at hflag ⊢
    have hy33 : y2 < 40 := by omega
    go_upto_if 17 with fail
    go_cut [4] from 6 (fun f wx => f = .int .u8 (F : Int) ∧ wx = wc)
    case first =>
      cases hs : h.sum with
      | false =>
        go_wp2
        go_meet
        exact ⟨by congr 1; rw [hflag, hs]; simp, rfl⟩
      | true =>
        go_wp2
        go_meet
        exact ⟨by congr 1; rw [hflag, hs]; simp, rfl⟩
    case rest =>
    obtain ⟨rfl, hwc⟩ := hcut
    subst hwc
    have hlit := litRow11 s2 [31, 139, 8, F] (by simp)
    have hnum := refNumber_st hlit h.time 4 hf.time (by omega)
    obtain ⟨q1, q2, q3⟩ : (wc.alloc (.cells #[.int .u8 31, .int .u8 139, .int .u8 8, .int .u8 (F : Int)] 5)).cell? ⟨w.heap.size, 1, none⟩ = some (.int .u32 (h.time : Int)) ∧ (wc.alloc (.cells #[.int .u8 31, .int .u8 139, .int .u8 8, .int .u8 (F : Int)] 5)).cell? ⟨w.heap.size, 2, none⟩ = some (.int .u8 (h.xfl : Int)) ∧ (wc.alloc (.cells #[.int .u8 31, .int .u8 139, .int .u8 8, .int .u8 (F : Int)] 5)).cell? ⟨w.heap.size, 3, none⟩ = some (.int .u8 (h.os : Int)) := ⟨(St.boxAt (hlit.front 1) 1).1, (St.boxAt (hlit.front 1) 2).1, (St.boxAt (hlit.front 1) 3).1⟩
    have HFF := Lib.hid hFF
    clear k0 k1 k2 k3 k4 k5 k6 k7 k8 hflag hFF hy2 hy
    go_wp2_with fail
    refine hnum.mono ?_
    rintro e w2 ⟨v2, rfl, s3⟩
    obtain ⟨a2, c2, rfl⟩ := ownsRow_slice s3.row
    have hr2 : ByteRow w2 (.slice a2 4 c2) (le 4 h.time) := byteRow_owns (by rw [le_length]; exact s3.row) (le_byte _ _)
    have s4 := s3.drop
    clear hnum hlit s2 s3 q1 q2 q3
    go_wp2_with (at_builtin; refine wpList_append_bytes rfl _ _ rfl s4 hr2 rfl rfl (by rw [le_length]; simp) ?_)
    intro v3 w3 s5 _ _
    rw [le_length, ← u8s_append] at s5
    obtain ⟨a3, c3, rfl⟩ := ownsRow_slice s5.row
    have q2 : w3.cell? ⟨w.heap.size, 2, none⟩ = some (.int .u8 (h.xfl : Int)) := (St.boxAt (s5.front 1) 2).1
    have q3 : w3.cell? ⟨w.heap.size, 3, none⟩ = some (.int .u8 (h.os : Int)) := (St.boxAt (s5.front 1) 3).1
    clear s4 hr2
    go_wp2_with (at_builtin; refine wpList_append_lit (m := 2) rfl _ _ rfl s5 rfl [.int .u8 (h.xfl : Int), .int .u8 (h.os : Int)] rfl rfl ?oneCell (by simp) ?_)
    case oneCell => simp [Value.oneCell']
    intro v4 w4 s6
    have hl5 : laid h 5 = [31, 139, 8, F] ++ le 4 h.time ++ [h.xfl, h.os] := by
      show [31, 139, 8] ++ [flagsOf h] ++ le 4 h.time ++ [h.xfl] ++ [h.os] = _
      rw [HFF.out]
      simp
    have s7 : St B w0 w4 (rowT 5 1 v4 (laid h 5).length (u8s (laid h 5)) :: boxT w.heap.size (headC h (.slice ea h.extra.length ec)) 25 :: r) := by
      have e5 : (laid h 5).length = 10 := by rw [hl5]; simp [le_length]
      rw [e5, hl5, u8s_append]
      exact s6
    clear s5 s6 q2 q3 hl5 HFF
    obtain ⟨a4, c4, rfl⟩ := ownsRow_slice s7.row
    have hlen := laid_len h
    have hl5' := hlen 5
    have hl6' := hlen 6
    have hl7' := hlen 7
    have hl8' := hlen 8
    clear hlen
    have q7 : w4.cell? ⟨w.heap.size, 7, none⟩ = some (.int .u8 (h.has : Int)) := (St.boxAt (s7.front 1) 7).1
    have e10 : (laid h 5).length = 10 := by
      show ([31, 139, 8] ++ [flagsOf h] ++ le 4 h.time ++ [h.xfl] ++ [h.os]).length = 10
      simp [le_length]
    rw [e10] at s7
    go_upto_if 37 with fail
    go_cut [5] from 6 (fun o wx => St B w0 wx (rowT 5 1 o (laid h 6).length (u8s (laid h 6)) :: boxT w.heap.size (headC h (.slice ea h.extra.length ec)) 25 :: r))
    case first =>
      have hl6 : laid h 6 = laid h 5 ++ (if h.has % 2 = 1 then le 2 h.extra.length ++ h.extra else []) := rfl
      by_cases ch : h.has % 2 = 1
      · rw [if_pos ch] at hl6
        have hi : ((h.has : Int) % 2 == 1) = true := by rw [beq_iff_eq]; omega
        have HH := Lib.hid hl6
        have q4 : w4.cell? ⟨w.heap.size, 4, none⟩ = some (.slice ea h.extra.length ec) := (St.boxAt (s7.front 1) 4).1
        have hnum := refNumber_st s7 h.extra.length 2 (by omega) (by omega)
        clear hl6
        go_wp2_with fail
        refine hnum.mono ?_
        rintro e w5 ⟨v5, rfl, t1⟩
        obtain ⟨a5, c5, rfl⟩ := ownsRow_slice t1.row
        have hr2 : ByteRow w5 (.slice a5 2 c5) (le 2 h.extra.length) := byteRow_owns (by rw [le_length]; exact t1.row) (le_byte _ _)
        have t2 := t1.drop
        clear hnum t1 s7 q4 q7
        go_wp2_with (at_builtin; refine wpList_append_bytes rfl _ _ rfl t2 hr2 rfl rfl (by rw [le_length]; omega) ?_)
        intro v6 w6 t3 _ _
        rw [le_length] at t3
        obtain ⟨a6, c6, rfl⟩ := ownsRow_slice t3.row
        have q4 : w6.cell? ⟨w.heap.size, 4, none⟩ = some (.slice ea h.extra.length ec) := (St.boxAt (t3.front 1) 4).1
        have hr3 := hev w6 t3.drop.drop
        clear t2 hr2
        go_wp2_with (at_builtin; refine wpList_append_bytes rfl _ _ rfl t3 hr3 rfl rfl (by omega) ?_)
        intro v7 w7 t4 _ _
        go_wp2
        go_meet
        rw [HH.out, u8s_append, u8s_append, List.length_append, List.length_append, le_length, e10, ← List.append_assoc, ← Nat.add_assoc]
        first | exact t4 | (rw [← List.append_assoc] at t4; exact t4)
      · rw [if_neg ch, List.append_nil] at hl6
        have hi : ((h.has : Int) % 2 == 1) = false := by rw [beq_eq_false_iff_ne]; omega
        have hi2 : ¬ (h.has : Int) % 2 = 1 := by omega
        have HH := Lib.hid hl6
        clear hl6
        go_wp2
        go_meet
        rw [HH.out, e10]
        exact s7
    case rest =>
    clear s7 q7 e10
    obtain ⟨a8, c8, rfl⟩ := ownsRow_slice hcut.row
    have s8 := hcut
    clear hcut
    obtain ⟨n6, hn6⟩ : ∃ n, (laid h 6).length = n := ⟨_, rfl⟩
    rw [hn6] at s8 hl6' ⊢
    have HN6 := Lib.hid hn6
    clear hn6
    have q7 : wc.cell? ⟨w.heap.size, 7, none⟩ = some (.int .u8 (h.has : Int)) := (St.boxAt (s8.front 1) 7).1
    go_upto_if 53 with fail
    go_cut [5] from 6 (fun o wx => St B w0 wx (rowT 5 1 o (laid h 7).length (u8s (laid h 7)) :: boxT w.heap.size (headC h (.slice ea h.extra.length ec)) 25 :: r))
    case first =>
      have hl6 : laid h 7 = laid h 6 ++ (if h.has / 2 % 2 = 1 then h.name ++ [0] else []) := rfl
      by_cases ch : h.has / 2 % 2 = 1
      · rw [if_pos ch] at hl6
        have hi : (((h.has : Int) / 2 % 2) == 1) = true := by rw [beq_iff_eq]; omega
        have HH := Lib.hid hl6
        have q4 : wc.cell? ⟨w.heap.size, 5, none⟩ = some (.string (strOf h.name)) := (St.boxAt (s8.front 1) 5).1
        have hnmb := hf.name
        clear hl6
        go_wp2_with (at_builtin; refine wpList_append_str rfl _ _ rfl s8 rfl h.name rfl hnmb (by omega) ?_)
        intro v6 w6 t3
        obtain ⟨a6, c6, rfl⟩ := ownsRow_slice t3.row
        clear q4 q7 s8
        go_wp2_with (at_builtin; refine wpList_append_lit (m := 1) rfl _ _ rfl t3 rfl [.int .u8 0] rfl rfl ?oneCell (by omega) ?_)
        case oneCell => simp [Value.oneCell']
        intro v7 w7 t4
        go_wp2
        go_meet
        rw [HH.out, u8s_append, u8s_append, List.length_append, List.length_append, HN6.out, ← Nat.add_assoc, ← List.append_assoc]
        first | exact t4 | (rw [← List.append_assoc] at t4; exact t4)
      · rw [if_neg ch, List.append_nil] at hl6
        have hi : (((h.has : Int) / 2 % 2) == 1) = false := by rw [beq_eq_false_iff_ne]; omega
        have hi2 : ¬ ((h.has : Int) / 2 % 2) = 1 := by omega
        have HH := Lib.hid hl6
        clear hl6
        go_wp2
        go_meet
        rw [HH.out, HN6.out]
        exact s8
    case rest =>
    clear s8 q7 HN6
    obtain ⟨a69, c69, rfl⟩ := ownsRow_slice hcut.row
    have s9 := hcut
    clear hcut
    obtain ⟨n7, hn7⟩ : ∃ n, (laid h 7).length = n := ⟨_, rfl⟩
    rw [hn7] at s9 hl7' ⊢
    have HN7 := Lib.hid hn7
    clear hn7
    have q7 : wc.cell? ⟨w.heap.size, 7, none⟩ = some (.int .u8 (h.has : Int)) := (St.boxAt (s9.front 1) 7).1
    go_upto_if 64 with fail
    go_cut [5] from 6 (fun o wx => St B w0 wx (rowT 5 1 o (laid h 8).length (u8s (laid h 8)) :: boxT w.heap.size (headC h (.slice ea h.extra.length ec)) 25 :: r))
    case first =>
      have hl6 : laid h 8 = laid h 7 ++ (if h.has / 4 % 2 = 1 then h.comment ++ [0] else []) := rfl
      by_cases ch : h.has / 4 % 2 = 1
      · rw [if_pos ch] at hl6
        have hi : (((h.has : Int) / 4) == 1) = true := by rw [beq_iff_eq]; omega
        have HH := Lib.hid hl6
        have q4 : wc.cell? ⟨w.heap.size, 6, none⟩ = some (.string (strOf h.comment)) := (St.boxAt (s9.front 1) 6).1
        have hnmb := hf.comment
        clear hl6
        go_wp2_with (at_builtin; refine wpList_append_str rfl _ _ rfl s9 rfl h.comment rfl hnmb (by omega) ?_)
        intro v6 w6 t3
        obtain ⟨a6, c6, rfl⟩ := ownsRow_slice t3.row
        clear q4 q7 s9
        go_wp2_with (at_builtin; refine wpList_append_lit (m := 1) rfl _ _ rfl t3 rfl [.int .u8 0] rfl rfl ?oneCell (by omega) ?_)
        case oneCell => simp [Value.oneCell']
        intro v7 w7 t4
        go_wp2
        go_meet
        rw [HH.out, u8s_append, u8s_append, List.length_append, List.length_append, HN7.out, ← Nat.add_assoc, ← List.append_assoc]
        first | exact t4 | (rw [← List.append_assoc] at t4; exact t4)
      · rw [if_neg ch, List.append_nil] at hl6
        have hi : (((h.has : Int) / 4) == 1) = false := by rw [beq_eq_false_iff_ne]; omega
        have hi2 : ¬ ((h.has : Int) / 4) = 1 := by omega
        have HH := Lib.hid hl6
        clear hl6
        go_wp2
        go_meet
        rw [HH.out, HN7.out]
        exact s9
    case rest =>
    clear s9 q7 HN7
    obtain ⟨a79, c79, rfl⟩ := ownsRow_slice hcut.row
    have s10 := hcut
    clear hcut
    obtain ⟨n8, hn8⟩ : ∃ n, (laid h 8).length = n := ⟨_, rfl⟩
    rw [hn8] at s10 hl8' ⊢
    have HN8 := Lib.hid hn8
    clear hn8
    have q8 : wc.cell? ⟨w.heap.size, 8, none⟩ = some (.bool h.sum) := (St.boxAt (s10.front 1) 8).1
    have hby8 := laid_byte hf m1 8
    go_upto_if 73 with fail
    go_cut [5] from 6 (fun o wx => St B w0 wx (rowT 5 1 o (laid h 9).length (u8s (laid h 9)) :: boxT w.heap.size (headC h (.slice ea h.extra.length ec)) 25 :: r))
    case first =>
      have hl6 : laid h 9 = laid h 8 ++ (if h.sum then le 2 (lowSum (laid h 8)) else []) := rfl
      cases hs : h.sum with
      | true =>
        rw [hs, if_pos rfl] at hl6
        have HH := Lib.hid hl6
        have hrow8 : ByteRow wc (.slice a79 n8 c79) (laid h 8) := byteRow_owns (by rw [HN8.out]; exact s10.row) hby8
        have hlow := refLow_any wc (.slice a79 n8 c79) (laid h 8) hrow8 (by rw [HN8.out]; omega)
        have hlt : lowSum (laid h 8) < 4294967296 := (lowReg _ ^^^ ones).isLt
        have hnum := refNumber_st s10 (lowSum (laid h 8)) 2 hlt (by omega)
        clear hl6 hrow8
        go_wp2_with fail
        refine hlow.mono ?_
        rintro e w5 ⟨rfl, rfl⟩
        go_wp2_with fail
        refine hnum.mono ?_
        rintro e w5 ⟨v5, rfl, t1⟩
        obtain ⟨a5, c5, rfl⟩ := ownsRow_slice t1.row
        have hr2 : ByteRow w5 (.slice a5 2 c5) (le 2 (lowSum (laid h 8))) := byteRow_owns (by rw [le_length]; exact t1.row) (le_byte _ _)
        have t2 := t1.drop
        clear hnum hlow t1 s10 q8
        go_wp2_with (at_builtin; refine wpList_append_bytes rfl _ _ rfl t2 hr2 rfl rfl (by rw [le_length]; omega) ?_)
        intro v6 w6 t3 _ _
        rw [le_length] at t3
        go_wp2
        go_meet
        rw [HH.out, u8s_append, List.length_append, le_length, HN8.out]
        exact t3
      | false =>
        rw [hs] at hl6
        simp only [Bool.false_eq_true, if_false, List.append_nil] at hl6
        have HH := Lib.hid hl6
        clear hl6
        go_wp2
        go_meet
        rw [HH.out, HN8.out]
        exact s10
    case rest =>
    clear s10 q8 HN8
    go_wp2
    go_ret2
    refine .inl ⟨hm, _, rfl, ?_⟩
    exact hcut.swap.drop

end
end Go.Proofs.Ytiggbioaaglgaaa.Fr
