/-
  Contracts of pressworklaw10: fixed, lay. No conditions but that rows are small.
-/
import Derived.Test.YtpinfihmageeoaaGreatGL
import Derived.Test.YtpinfihmageeoaaGreatGN
import Derived.Test.YtpinfihmageeoaaGreatGS
import Derived.Test.YtpinfihmageeoaaGreatGB
namespace Go.Proofs.YtpinfihmageeoaaGreat.Inf
open Go.RowKit Kraft Hd

section
variable {B : Nat} {w0 w : World} {r : List Thing}

set_option maxRecDepth 100000 in
set_option maxHeartbeats 2000000 in
theorem fixedL_st (st : St B w0 w r) : Calls Tryz.prog 6 #[] w fun e w' => ∃ g h, e = .returned (.tuple #[.slice (some ⟨g, 0, none⟩) 288 288, .slice (some ⟨h, 0, none⟩) 32 32]) ∧ St B w0 w' (bytesT g 288 fixP :: bytesT h 32 fixQ :: r) := by
  obtain ⟨i0, hi, hz0, hz1, hz2⟩ := info_parts info8
  have hmk : i0.bytes * 288 ≤ 281474976710656 := by rw [hz2]; omega
  have hmx : 288 ≤ maxLen := by unfold maxLen; omega
  have hmk' : i0.bytes * 32 ≤ 281474976710656 := by rw [hz2]; omega
  have hmx' : 32 ≤ maxLen := by unfold maxLen; omega
  go_enter Tryz.func6, Tryz.ntmps6
  go_wp2_with (at_make; refine wpList_make_full _ rfl _ _ 26 rfl w.heap.size 5 i0 (.int .u8 0) 1 Tryz.underlying26 hi hz0 hz1 _ _ _ _ 288 rfl rfl rfl rfl hmk hmx (Nat.le_refl _) ?_)
  intro w1 hown hgrow
  have s1 := st.made hown hgrow
  clear hown hgrow hmk hmx st
  obtain ⟨g, hg⟩ : ∃ g, g = w.heap.size := ⟨_, rfl⟩
  rw [← hg] at s1
  try rw [← hg]
  clear hg
  go_wp2_with (at_make; refine wpList_make_full _ rfl _ _ 26 rfl w1.heap.size 5 i0 (.int .u8 0) 1 Tryz.underlying26 hi hz0 hz1 _ _ _ _ 32 rfl rfl rfl rfl hmk' hmx' (Nat.le_refl _) ?_)
  intro w2 hown hgrow
  have s2 := s1.made hown hgrow
  clear hown hgrow hi hz0 hz1 hz2 hmk' hmx' s1
  obtain ⟨h, hh⟩ : ∃ h, h = w1.heap.size := ⟨_, rfl⟩
  rw [← hh] at s2
  try rw [← hh]
  clear hh
  have s3 := s2.swap
  clear s2
  go_wp2
  go_loopw [4] (fun iv wr => ∃ k : Nat, k ≤ 288 ∧ iv = .int .i64 (k : Int) ∧ St B w0 wr (bytesT g 288 (fixP.take k ++ List.replicate (288 - k) 0) :: bytesT h 32 (List.replicate 32 0) :: r)) (fun iv _ => 288 - (intOf iv).toNat)
  case atStart => exact ⟨0, Nat.zero_le _, rfl, s3⟩
  case round =>
    clear s3
    obtain ⟨k, hk, rfl, t1⟩ := hrel
    by_cases hlt : k < 288
    · have hl : (fixP.take k ++ List.replicate (288 - k) 0).length = 288 := by rw [List.length_append, List.length_take, List.length_replicate, fixP_length]; omega
      obtain ⟨f0, f1⟩ := t1.rowCell k hl hlt
      have hat := fixP_at k hlt
      have hs1 := fun x hx => fill_set fixP 288 k x hlt fixP_length hx
      by_cases ha : k < 144 ∨ 279 < k
      · rw [if_neg (by omega), if_neg (by omega)] at hat
        have t2 := t1.put k 8
        rw [hs1 _ hat] at t2
        clear hs1 hat
        rcases ha with ha | ha
        · go_wp2
          exact ⟨⟨k + 1, by omega, by go_num, t2⟩, by simp [intOf]; omega⟩
        · go_wp2
          exact ⟨⟨k + 1, by omega, by go_num, t2⟩, by simp [intOf]; omega⟩
      · by_cases hb : k < 256
        · rw [if_pos (by omega)] at hat
          have t2 := t1.put k 9
          rw [hs1 _ hat] at t2
          clear hs1 hat
          have h1 : ¬ k < 144 := by omega
          have h2 : ¬ 279 < k := by omega
          clear ha
          go_wp2
          exact ⟨⟨k + 1, by omega, by go_num, t2⟩, by simp [intOf]; omega⟩
        · rw [if_neg (by omega), if_pos (by omega)] at hat
          have t2 := t1.put k 7
          rw [hs1 _ hat] at t2
          clear hs1 hat
          have h1 : ¬ k < 144 := by omega
          have h2 : ¬ 279 < k := by omega
          clear ha
          go_wp2
          exact ⟨⟨k + 1, by omega, by go_num, t2⟩, by simp [intOf]; omega⟩
    · obtain rfl : k = 288 := by omega
      rw [List.take_of_length_le (by rw [fixP_length]; omega), Nat.sub_self, List.replicate_zero, List.append_nil] at t1
      have u1 := t1.swap
      clear t1
      go_wp2
      go_loopw [5] (fun iv wr => ∃ k : Nat, k ≤ 32 ∧ iv = .int .i64 (k : Int) ∧ St B w0 wr (bytesT h 32 (fixQ.take k ++ List.replicate (32 - k) 0) :: bytesT g 288 fixP :: r)) (fun iv _ => 32 - (intOf iv).toNat)
      case atStart => exact ⟨0, Nat.zero_le _, rfl, u1⟩
      case round =>
        clear u1
        obtain ⟨k, hk, rfl, t1⟩ := hrel
        by_cases hlt : k < 32
        · have hl : (fixQ.take k ++ List.replicate (32 - k) 0).length = 32 := by rw [List.length_append, List.length_take, List.length_replicate, fixQ_length]; omega
          obtain ⟨f0, f1⟩ := t1.rowCell k hl hlt
          have t2 := t1.put k 5
          rw [fill_set fixQ 32 k 5 hlt fixQ_length (fixQ_at k hlt)] at t2
          go_wp2
          exact ⟨⟨k + 1, by omega, by go_num, t2⟩, by simp [intOf]; omega⟩
        · obtain rfl : k = 32 := by omega
          rw [List.take_of_length_le (by rw [fixQ_length]; omega), Nat.sub_self, List.replicate_zero, List.append_nil] at t1
          go_wp2
          go_ret2
          exact ⟨g, h, rfl, t1.swap⟩

theorem bitsAt_le {P : List Nat} (hP : Reads P) (i : Int) : (wordBits P i).length ≤ 20 := by
  rw [wordBits_length]
  unfold bitsAtSym
  split
  · omega
  · exact hP.low _

set_option maxRecDepth 100000 in
set_option maxHeartbeats 4000000 in
theorem lay_st {pb : Nat} {acc : List Bool} (st : St B w0 w (wrT pb acc :: r)) (hacc : acc.length ≤ 1000000) {v1 v2 v3 : Value} {l : List Tok.Tk} {P Q : List Nat} (h1 : ∀ W, St B w0 W r → Tok.TokRow W v1 l) (h2 : ∀ W, St B w0 W r → ByteRow W v2 P) (h3 : ∀ W, St B w0 W r → ByteRow W v3 Q)
    (hl : l.length ≤ 1000) (hm : ∀ t ∈ l, Tok.may t = true) (hp : P.length ≤ 1000) (hq : Q.length ≤ 1000) (hP : Reads P) (hQ : Reads Q) (eP : wordsErr P = 0) (eQ : wordsErr Q = 0) :
    Calls Tryz.prog 8 #[.pointer (some ⟨pb, 0, none⟩), v1, v2, v3] w fun e w' => e = .returned (.tuple #[]) ∧ St B w0 w' (wrT pb (acc ++ laidBits P Q l) :: r) := by
  have hrow := h1
  obtain ⟨a, cap, rfl, hc, hmx, hnn, -⟩ := h1 w st.drop
  clear h1
  have n1 := tnew_st st v2 P (h2 w st.drop) (by omega)
  go_enter Tryz.func8, Tryz.ntmps8
  go_wp2_with fail
  refine n1.mono ?_
  rintro e w1 (⟨hne, -⟩ | ⟨-, ta, rfl, s1⟩)
  · exact absurd eP hne
  have n2 := tnew_st s1 v3 Q (h3 w1 s1.drop.drop) (by omega)
  clear n1 st
  go_wp2_with fail
  refine n2.mono ?_
  rintro e w2 (⟨hne, -⟩ | ⟨-, tb, rfl, s2⟩)
  · exact absurd eQ hne
  have s3 := s2.third
  clear n2 s1 s2
  go_wp2
  have hA0 : (acc ++ (l.take 0).flatMap (tokBits P Q)) = acc := by simp
  go_loopw [12, 13, 14, 15, 16] (fun iv _ _ _ _ wr => ∃ (k : Nat) (A : List Bool), k ≤ l.length ∧ iv = .int .i64 (k : Int) ∧ Hid (acc ++ (l.take k).flatMap (tokBits P Q) = A) ∧ A.length ≤ 1000000 + 200 * k ∧ St B w0 wr (wrT pb A :: tblL ta P :: tblL tb Q :: r)) (fun iv _ _ _ _ _ => l.length - (intOf iv).toNat)
  case atStart => exact ⟨0, acc, Nat.zero_le _, rfl, Lib.hid hA0, by omega, s3.third.third.swap.third⟩
  case round =>
    clear s3 hA0
    obtain ⟨k, A, hk, rfl, hA, hAl, s1⟩ := hrel
    by_cases hlt : k < l.length
    · obtain ⟨a', cap', e1, _, _, _, hat⟩ := hrow _ s1.drop.drop.drop
      obtain ⟨rfl, -, rfl⟩ := Value.slice.inj e1
      obtain ⟨hin, b, off, rfl, c0, c1, c2⟩ := hat k hlt
      obtain ⟨tl, td, ty, hs⟩ : ∃ tl td ty, l[k] = (tl, td, ty) := ⟨_, _, _, rfl⟩
      rw [hs] at c0 c1 c2 hin
      have hmay : Tok.may (tl, td, ty) = true := by rw [← hs]; exact hm _ (List.getElem_mem hlt)
      have hnext : acc ++ (l.take (k + 1)).flatMap (tokBits P Q) = A ++ tokBits P Q (tl, td, ty) := by
        rw [← hA.out, List.take_add_one, List.getElem?_eq_getElem hlt, hs]
        simp only [Option.toList_some, List.flatMap_append, List.flatMap_cons, List.flatMap_nil, List.append_nil, List.append_assoc]
      have HS := Lib.hid hs
      obtain ⟨-, -, hty⟩ := hin
      simp only at c0 c1 c2 hty
      clear hs hat e1 hm
      cases hisb : Tok.isB (tl, td, ty) with
      | true =>
        obtain ⟨rfl, rfl⟩ : tl = 0 ∧ td = 0 := by simpa [Tok.isB] using hisb
        have hbits : tokBits P Q (0, 0, ty) = wordBits P (ty : Int) := by unfold tokBits; rw [if_pos hisb]
        have h20 := bitsAt_le hP (ty : Int)
        have hput := Low.tput_st s1 (ty : Int) hP.low hP.weigh (by omega)
        rw [← hbits] at hput h20
        clear hisb hmay
        generalize tokBits P Q (0, 0, ty) = T at *
        have HN := Lib.hid hnext
        clear hnext hbits
        go_wp2_with fail
        refine hput.mono ?_
        rintro e w3 ⟨rfl, s2⟩
        clear hput s1
        go_wp2
        exact ⟨⟨k + 1, A ++ T, by omega, by go_num, HN, by rw [List.length_append]; omega, s2⟩, by simp [intOf]; omega⟩
      | false =>
        obtain ⟨-, hr1, hr2, hr3, hr4⟩ : ty = 0 ∧ 3 ≤ tl ∧ tl ≤ 258 ∧ 1 ≤ td ∧ td ≤ 32768 := Tok.may_rep hmay hisb
        obtain ⟨d, rfl⟩ : ∃ d : Nat, td = (d : Int) := ⟨td.toNat, by omega⟩
        obtain ⟨n, rfl⟩ : ∃ n : Nat, tl = (n : Int) := ⟨tl.toNat, by omega⟩
        obtain ⟨i, hi, el, _, lx⟩ := len_says n (by omega) (by omega)
        obtain ⟨j, hj, ed, _, dx⟩ := dis_says d (by omega) (by omega)
        have hbits : tokBits P Q ((n : Int), (d : Int), ty) = wordBits P ((257 + i : Nat) : Int) ++ bitsOf (n - lenL (257 + i)) (lenB (257 + i)) ++ (wordBits Q (j : Int) ++ bitsOf (d - disL j) (disB j)) := by
          unfold tokBits
          rw [hisb]
          simp only [Bool.false_eq_true, if_false, el, ed]
        have hxl : n - lenL (257 + i) < 32 := Nat.lt_of_lt_of_le lx (Nat.le_trans (Nat.pow_le_pow_right (by omega) (lenB_le (257 + i) (by omega) (by omega))) (by decide))
        have hxd : d - disL j < 8192 := Nat.lt_of_lt_of_le dx (Nat.le_trans (Nat.pow_le_pow_right (by omega) (disB_le j hj)) (by decide))
        have hlb := lenB_le (257 + i) (by omega) (by omega)
        have hdb := disB_le j hj
        have hL := fun W => Tok.length_any W (n : Int) (by omega) (by omega)
        have hD := fun W => Tok.distance_any W (d : Int) (by omega) (by omega)
        rw [el] at hL
        rw [ed] at hD
        have HC0 : ∀ W, St B w0 W r → W.cell? ⟨b, off + k * 3 + 1, none⟩ = some (.int .i64 (d : Int)) := by
          intro W s
          obtain ⟨a2, cap2, e2, _, _, _, hat2⟩ := hrow W s
          obtain ⟨_, b2, off2, f2, _, g2, _⟩ := hat2 k hlt
          obtain ⟨rfl, -, -⟩ := Value.slice.inj e2
          obtain ⟨rfl, rfl⟩ : b = b2 ∧ off = off2 := by simpa using f2
          rw [HS.out] at g2
          exact g2
        have HC := Lib.hid HC0
        clear HC0
        obtain ⟨sl, hsl⟩ : ∃ sl, 257 + i = sl := ⟨_, rfl⟩
        rw [hsl] at hL hbits hxl hlb lx
        obtain ⟨xl, hxl'⟩ : ∃ xl, n - lenL sl = xl := ⟨_, rfl⟩
        obtain ⟨xd, hxd'⟩ : ∃ xd, d - disL j = xd := ⟨_, rfl⟩
        obtain ⟨nl, hnl⟩ : ∃ nl, lenB sl = nl := ⟨_, rfl⟩
        obtain ⟨nd, hnd⟩ : ∃ nd, disB j = nd := ⟨_, rfl⟩
        rw [hxl', hnl] at hL hbits
        rw [hxd', hnd] at hD hbits
        rw [hbits] at hnext
        rw [hxl'] at hxl
        rw [hxl', hnl] at lx
        rw [hnl] at hlb
        rw [hxd'] at hxd
        rw [hxd', hnd] at dx
        rw [hnd] at hdb
        have hsl2 : sl ≤ 285 := by omega
        have w20 := bitsAt_le hP (sl : Int)
        have v20 := bitsAt_le hQ (j : Int)
        clear hsl hxl' hxd' hnl hnd hbits el ed hisb hmay hi
        have HN := Lib.hid hnext
        clear hnext
        have HLX := Lib.hid lx
        have HDX := Lib.hid dx
        clear lx dx hrow c2 HS
        unfold Tok.four at hL hD
        go_wp2_with fail
        refine (hL _).mono ?_
        rintro e w3 ⟨rfl, hb3⟩
        have s2 := s1.quiet hb3
        clear hL s1 hb3
        go_wp2_with fail
        refine (Low.tput_st s2 (sl : Int) hP.low hP.weigh (by omega)).mono ?_
        rintro e w4 ⟨rfl, s3⟩
        clear s2
        go_wp2_with fail
        refine (put_st s3 xl nl (by rw [List.length_append]; omega) (by omega) HLX.out).mono ?_
        rintro e w5 ⟨rfl, s4⟩
        clear s3
        have d1 := HC.out w5 s4.drop.drop.drop
        go_wp2_with fail
        refine (hD _).mono ?_
        rintro e w6 ⟨rfl, hb6⟩
        have s5 := s4.quiet hb6
        clear hD s4 hb6
        go_wp2_with fail
        refine (Low.tput_st s5.third.third.swap.third (j : Int) hQ.low hQ.weigh (by simp only [List.length_append, bitsOf_length]; omega)).mono ?_
        rintro e w7 ⟨rfl, s6⟩
        clear s5
        go_wp2_with fail
        refine (put_st s6 xd nd (by simp only [List.length_append, bitsOf_length]; omega) (by omega) HDX.out).mono ?_
        rintro e w8 ⟨rfl, s7⟩
        clear s6
        have s8 := s7.third.third.swap.third
        clear s7
        go_wp2
        exact ⟨⟨k + 1, _, by omega, by go_num, Lib.hid (by rw [HN.out]; simp only [List.append_assoc]), by simp only [List.length_append, bitsOf_length]; omega, s8⟩, by simp [intOf]; omega⟩
    · obtain rfl : k = l.length := by omega
      have hput := Low.tput_st s1 256 hP.low hP.weigh (by omega)
      have hfin : A ++ wordBits P 256 = acc ++ laidBits P Q l := by
        unfold laidBits
        rw [← hA.out, List.take_length, List.append_assoc]
      rw [hfin] at hput
      have HF := Lib.hid hfin
      clear hfin
      go_wp2_with fail
      refine hput.mono ?_
      rintro e w3 ⟨rfl, s2⟩
      have s3 := s2.swap.drop.swap.drop
      clear s2 s1 hput
      go_wp2
      go_end0
      exact ⟨rfl, s3⟩

end
end Go.Proofs.YtpinfihmageeoaaGreat.Inf
