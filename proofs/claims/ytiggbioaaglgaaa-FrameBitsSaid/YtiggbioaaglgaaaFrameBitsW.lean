/-
  One bit of the sum that turned is told: the walk of FrameBits. No conditions.
-/
import Derived.Test.YtiggbioaaglgaaaFrL
namespace Go.Proofs.Ytiggbioaaglgaaa.frameBits
open Go.RowKit Crc Fr

theorem u16_nat {z : Int} (hz : (Lit.int .u16 z).wf = true) : ∃ y : Nat, z = (y : Int) ∧ y < 65536 := by
  simp only [Lit.wf, Bool.and_eq_true, decide_eq_true_eq] at hz
  have h1 : IntKind.u16.min = 0 := rfl
  have h2 : IntKind.u16.max = 65535 := rfl
  rw [h1, h2] at hz
  exact ⟨z.toNat, by omega, by omega⟩

theorem xor_bit (x e : Nat) (hx : x < 256) (he : e < 8) : bits .xor .u8 (x : Int) ((2 ^ e : Nat) : Int) = ((x ^^^ 2 ^ e : Nat) : Int) := by
  have : ∀ e : Nat, e < 8 → ∀ x : Nat, x < 256 → bits .xor .u8 (x : Int) ((2 ^ e : Nat) : Int) = ((x ^^^ 2 ^ e : Nat) : Int) := by decide +kernel
  exact this e he x hx

theorem laid_ten (h : Gz) : ∀ k, 5 ≤ k → 10 ≤ (laid h k).length := by
  intro k hk
  induction k with
  | zero => omega
  | succ k ih =>
    by_cases c : k = 4
    · subst c
      show 10 ≤ ([31, 139, 8] ++ [flagsOf h] ++ le 4 h.time ++ [h.xfl] ++ [h.os]).length
      simp [le_length]
    · have := ih (by omega)
      show 10 ≤ (laid h k ++ _).length
      rw [List.length_append]
      omega

set_option maxRecDepth 100000 in
set_option maxHeartbeats 8000000 in
theorem walk (w : World) (v0 : Value) (h0' : Gz) (h0 : HeadIn w v0 h0') (a1 : Int) (ha1 : (Lit.int .u16 a1).wf = true) :
    Calls Try.prog 8 #[v0, .int .u16 a1] w fun e w' => e = .returned (.bool true) ∧ Below w.heap.size w w' := by
  have hB := Nat.le_refl w.heap.size
  obtain ⟨N, rfl, hN⟩ := u16_nat ha1
  clear ha1
  obtain ⟨ev, rfl, hrow, hf0⟩ := h0
  have HE := fun W (hb : Below w.heap.size w W) => hrow.below hb hB
  obtain ⟨ea, ec, rfl, -⟩ := hrow
  obtain ⟨h, hh⟩ : ∃ h : Gz, h = { h0' with sum := true } := ⟨_, rfl⟩
  have hf : Fits h := by rw [hh]; exact ⟨hf0.time, hf0.xfl, hf0.os, hf0.has, hf0.extra, hf0.name, hf0.comment⟩
  have hsum : h.sum = true := by rw [hh]
  have hext : h.extra = h0'.extra := by rw [hh]
  have hC : headC h (.slice ea h.extra.length ec) = #[.bool h.text, .int .u32 (h.time : Int), .int .u8 (h.xfl : Int), .int .u8 (h.os : Int), .slice ea h.extra.length ec, .string (strOf h.name), .string (strOf h.comment), .int .u8 (h.has : Int), .bool true] := by rw [← hsum]
  have hC0 : headC h0' (.slice ea h0'.extra.length ec) = #[.bool h.text, .int .u32 (h.time : Int), .int .u8 (h.xfl : Int), .int .u8 (h.os : Int), .slice ea h.extra.length ec, .string (strOf h.name), .string (strOf h.comment), .int .u8 (h.has : Int), .bool h0'.sum] := by rw [hh]
  rw [← hext] at HE
  rw [hC0]
  have s1 : St w.heap.size w (w.alloc (.cells #[.bool h.text, .int .u32 (h.time : Int), .int .u8 (h.xfl : Int), .int .u8 (h.os : Int), .slice ea h.extra.length ec, .string (strOf h.name), .string (strOf h.comment), .int .u8 (h.has : Int), .bool true] 25)) [boxT w.heap.size (headC h (.slice ea h.extra.length ec)) 25] := by
    rw [hC]
    exact (St.start w).newBox _ _
  obtain ⟨k0, k1, k2, k3, k4, k5, k6, k7, k8⟩ := headAt s1
  have hlong := long_any (w.alloc (.cells #[.bool h.text, .int .u32 (h.time : Int), .int .u8 (h.xfl : Int), .int .u8 (h.os : Int), .slice ea h.extra.length ec, .string (strOf h.name), .string (strOf h.comment), .int .u8 (h.has : Int), .bool true] 25)) h ea ec
  rw [hC] at hlong
  rw [hsum] at k8
  have e1 : (N : Int) % 2 = ((N % 2 : Nat) : Int) := by omega
  have e2 : (N : Int) / 2 % 8 = ((N / 2 % 8 : Nat) : Int) := by omega
  have j2 : N % 2 < 2 := by omega
  have e8 : N / 2 % 8 < 8 := by omega
  generalize N % 2 = j at *
  generalize N / 2 % 8 = e at *
  generalize h0'.sum = bs at *
  clear hext hf0 hC0 hh
  go_enter Try.func8, Try.ntmps8
  go_wp2_with fail
  refine hlong.mono ?_
  rintro e' w1 ⟨rfl, hb1⟩
  have s2 := s1.quiet hb1
  clear hlong k0 k1 k2 k3 k4 k5 k6 k7 k8 s1 hb1
  cases hL : longB h with
  | true =>
    go_wp2_with fail
    refine (frames_any _).mono ?_
    rintro e' w12 ⟨rfl, hb12⟩
    have hfin := (s2.quiet hb12).below hB
    clear s2 hb12
    go_wp2
    go_ret
    exact ⟨rfl, hfin⟩
  | false =>
    obtain ⟨m1, m2, m3⟩ := longB_no hL
    obtain ⟨k0, k1, k2, k3, k4, k5, k6, k7, k8⟩ := headAt s2
    have hmay := refMay_any w1 h hf ea ec (by omega) (by omega)
    rw [hC] at hmay
    rw [hsum] at k8
    go_wp2_with fail
    refine hmay.mono ?_
    rintro e' w3 ⟨rfl, hb3⟩
    have s3 := s2.quiet hb3
    clear k0 k1 k2 k3 k4 k5 k6 k7 k8 hmay s2 hb3
    cases hm : may h with
    | false =>
      go_wp2_with fail
      refine (frames_any _).mono ?_
      rintro e' w12 ⟨rfl, hb12⟩
      have hfin := (s3.quiet hb12).below hB
      clear s3 hb12
      go_wp2
      go_ret
      exact ⟨rfl, hfin⟩
    | true =>
      obtain ⟨k0, k1, k2, k3, k4, k5, k6, k7, k8⟩ := headAt s3
      rw [hsum] at k8
      have hput := put_st s3 hf (ev := .slice ea h.extra.length ec) (fun W s => HE W (s.below hB)) (by omega) (by omega) (by omega)
      rw [hC] at hput
      go_wp2_with fail
      refine hput.mono ?_
      rintro e' w2 (⟨-, v, rfl, s4⟩ | ⟨hm2, -⟩)
      rotate_left
      · exact absurd hm2 (by rw [hm]; simp)
      clear k0 k1 k2 k3 k4 k5 k6 k7 k8 hput s3
      rw [← hC] at s4
      have hi := (may_iff h).1 hm
      have hbyte : ∀ x ∈ bytesOf h, x < 256 := laid_byte hf hi.1 9
      have hbl : (bytesOf h).length ≤ 9 * (4 + h.extra.length + h.name.length + h.comment.length) := laid_len h 9
      have hbg : 12 ≤ (bytesOf h).length := by
        have := laid_ten h 8 (by omega)
        rw [bytes_sum hsum, List.length_append, le_length]
        omega
      have g1 := get_turned hf hm hsum j e j2 e8
      obtain ⟨d, hd⟩ : ∃ d, (bytesOf h).length - 1 = d := ⟨_, rfl⟩
      have hn1 : (((bytesOf h).length : Nat) : Int) - 1 = (d : Int) := by omega
      obtain ⟨kk, hkk⟩ : ∃ kk, d - j = kk := ⟨_, rfl⟩
      have hn2 : (d : Int) - (j : Int) = (kk : Int) := by omega
      have hkl : kk < (bytesOf h).length := by omega
      have hext : h.extra.length ≤ 1000 := by have := hi.2.1; omega
      have hn5 : (bytesOf h).length ≤ 28000 := by omega
      rw [hd, hkk] at g1
      obtain ⟨x, hx⟩ : ∃ x, (bytesOf h).getD kk 0 = x := ⟨_, rfl⟩
      have hxe : (bytesOf h)[kk]'hkl = x := by rw [← hx, List.getD_eq_getElem?_getD, List.getElem?_eq_getElem hkl]; rfl
      have hx8 : x < 256 := by rw [← hxe]; exact hbyte _ (List.getElem_mem hkl)
      rw [hx] at g1
      have hxor : bits .xor .u8 (x : Int) ((2 : Int) ^ e % 256) = ((x ^^^ 2 ^ e : Nat) : Int) := by
        rw [← xor_bit x e hx8 e8]
        congr 1
        have h2 : (2 : Nat) ^ e < 256 := Nat.pow_lt_pow_right (n := 8) (by omega) e8
        have h3 : ((2 : Int) ^ e) = ((2 ^ e : Nat) : Int) := by simp
        rw [h3]
        generalize (2 : Nat) ^ e = q at h2
        omega
      obtain ⟨X, hX⟩ : ∃ X, x ^^^ 2 ^ e = X := ⟨_, rfl⟩
      rw [hX] at g1 hxor
      have hby2 : ∀ y ∈ (bytesOf h).set kk X, y < 256 := by
        intro y hy
        rcases List.mem_or_eq_of_mem_set hy with hy | rfl
        · exact hbyte y hy
        · rw [← hX]
          exact Nat.xor_lt_two_pow (n := 8) hx8 (Nat.pow_lt_pow_right (by omega) e8)
      obtain ⟨ba, bc, rfl⟩ := ownsRow_slice s4.row
      have hrow3 : ByteRow w2 (.slice ba (bytesOf h).length bc) (bytesOf h) := byteRow_owns s4.row hbyte
      clear hC hsum
      clear hi hbl hd hkk m1 hext
      go_wp2_with (at_builtin; refine wpList_copyW rfl _ _ rfl s4 hrow3 rfl rfl (by omega) ?_)
      intro v5 w5 s5
      obtain ⟨g5, c5, rfl, hc5⟩ := s5.rowShape (by omega)
      have kc : w5.cell? ⟨g5, kk, none⟩ = some (.int .u8 (x : Int)) := by rw [s5.row.cellAt kk (by omega), u8s_get _ _ hkl, hxe]
      have fc : w5.frozen? ⟨g5, kk, none⟩ = false := s5.row.frozenAt kk
      have s6 := s5.stored kk (.int .u8 (X : Int))
      rw [← u8s_set] at s6
      have hget := get_st s6 (.slice (some ⟨g5, 0, none⟩) (bytesOf h).length c5) ((bytesOf h).set kk X) (fun W t => byteRow_owns (by rw [List.length_set]; exact t.row) hby2) (by rw [List.length_set]; omega)
      rw [g1] at hget
      clear hrow3 s4 s5 hX g1 hx hxe
      go_wp2_with fail
      refine hget.mono ?_
      rintro e' w7 ⟨ev7, rfl, s7⟩
      obtain ⟨a7, c7, rfl⟩ : ∃ a c, ev7 = .slice a h.extra.length c := ownsRow_slice s7.row
      have s8 := s7.newBox (headC h (.slice a7 h.extra.length c7)) 25
      obtain ⟨l0, l1, l2, l3, l4, l5, l6, l7, l8⟩ := headAt s8
      have sB : St w.heap.size w (w7.alloc (.cells (headC h (.slice a7 h.extra.length c7)) 25)) (boxT w.heap.size (headC h (.slice ea h.extra.length ec)) 25 :: [boxT w7.heap.size (headC h (.slice a7 h.extra.length c7)) 25, rowT 5 1 (.slice a7 h.extra.length c7) h.extra.length (u8s h.extra), rowT 5 1 (.slice (some ⟨g5, 0, none⟩) (bytesOf h).length c5) (bytesOf h).length (u8s ((bytesOf h).set kk X)), rowT 5 1 (.slice ba (bytesOf h).length bc) (bytesOf h).length (u8s (bytesOf h))]) := s8.front 4
      obtain ⟨k0, k1, k2, k3, k4, k5, k6, k7, k8⟩ := headAt sB
      have hrow7 : ByteRow (w7.alloc (.cells (headC h (.slice a7 h.extra.length c7)) 25)) (.slice a7 h.extra.length c7) h.extra := byteRow_owns (St.row (s8.front 1)) hf.extra
      have hsame := same_true _ h (.slice a7 h.extra.length c7) (.slice ea h.extra.length ec) hrow7 (HE _ (s8.below hB))
      clear hget s6 s7 hrow7 sB
      go_wp2_with fail
      refine hsame.mono ?_
      rintro e' w11 ⟨rfl, hb11⟩
      have s11 := s8.quiet hb11
      clear hsame k0 k1 k2 k3 k4 k5 k6 k7 k8 l0 l1 l2 l3 l4 l5 l6 l7 l8 s8 hb11
      go_wp2_with fail
      refine (frames_any _).mono ?_
      rintro e' w12 ⟨rfl, hb12⟩
      have hfin := (s11.quiet hb12).below hB
      clear s11 hb12
      go_wp2
      go_ret
      exact ⟨rfl, hfin⟩

end Go.Proofs.Ytiggbioaaglgaaa.frameBits
