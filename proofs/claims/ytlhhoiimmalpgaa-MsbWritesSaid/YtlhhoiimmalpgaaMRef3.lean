/-
  Contracts of the document's own answers for layer 2 (package pressworkref02): rows that are aligned, put to, and told as bytes. No conditions but that rows are small.
-/
import Derived.Test.YtlhhoiimmalpgaaMRef2
namespace Go.Proofs.Ytlhhoiimmalpgaa.Msb
open Go.RowKit

theorem bitsOf_zero (n : Nat) : bitsOf 0 n = List.replicate n false := by
  induction n with
  | zero => rfl
  | succ n ih => rw [bitsOf, List.replicate_succ', ← ih]; rfl

theorem num_zeros (n : Nat) : num (List.replicate n false) = 0 := by
  induction n with
  | zero => rfl
  | succ n ih => rw [List.replicate_succ', num_snoc, ih]; rfl

/-- The row behind Align. -/
def alignL (l : List Bool) : List Bool := l ++ List.replicate (padOf l.length) false

/-- Ahead of a round of Align. -/
def AlignTo (w : World) (l : List Bool) (v : Value) (wr : World) : Prop := ∃ k : Nat, k ≤ padOf l.length ∧ (∃ a c, v = .slice a (l.length + k) c) ∧ St w.heap.size w wr [rowT 4 1 v (l.length + k) (bools (l ++ List.replicate k false))]

theorem align_any (w : World) (v : Value) (l : List Bool) (h : RowAt w v l) (hl : l.length ≤ 1000000) :
    Calls Try.prog 11 #[v] w (NewRow w (alignL l)) := by
  obtain ⟨i0, hi, hz0, hz1, hz2⟩ := info_parts infoBool
  obtain ⟨a, cap, rfl⟩ := h.slice
  have hsrc := h.src
  have HS := Lib.hid hsrc
  have s0 := (St.start w).addRow (below_alloc w _) (World.ownsRow_made (base := w.heap.size) (e := 4) (size := 1) w #[] 0 (Nat.le_refl _) (by unfold maxLen; omega) rfl)
  have p8 : padOf l.length < 8 := by unfold padOf; omega
  clear hsrc
  go_enter Try.func11, Try.ntmps11
  go_wp2_with ((at_builtin; refine wpList_append_mine _ rfl (.tmp 4) (.tmp 5) 27 rfl 4 i0 (.bool false) 1 1 Try.underlying27 hi hz0 hz1 hz2 rfl (by decide) _ 0 [] rfl s0.row a l.length cap (bools l) rfl ?c1 ?c2 ?c3 (bools_one _) ?c4 ?c5 ?_))
  case c1 => intro e; have := HS.out.2.1 e; exact ⟨List.eq_nil_of_length_eq_zero this.1, this.2⟩
  case c2 => rw [bools_length]
  case c3 => intro b e j u hu; exact cell_alloc (HS.out.2.2 b e j u hu) _
  case c4 => unfold maxLen; omega
  case c5 => omega
  intro v1 w1 o1 g1 f1
  have s1 := s0.grown o1 g1 f1
  obtain ⟨a1, c1, rfl⟩ := ownsRow_slice o1
  clear s0 o1 g1 f1
  go_wp2
  go_loopw [3] (fun v wr => AlignTo w l v wr) (fun v _ => l.length + 8 - lenOf v)
  case atStart => exact ⟨0, by omega, ⟨_, _, rfl⟩, by simpa using s1⟩
  case round =>
    obtain ⟨k, hk, ⟨a2, c2, rfl⟩, st⟩ := hrel
    clear s1
    by_cases hlt : k < padOf l.length
    · have d1 : (((l.length : Int) + (k : Int)) % 8 != 0) = true := by rw [bne_iff_ne]; unfold padOf at hlt hk; omega
      go_wp2_with ((at_builtin; refine wpList_append_one rfl (.tmp 11) (.tmp 12) 27 rfl 4 i0 (.bool false) 1 1 Try.underlying27 hi hz0 hz1 hz2 rfl (by decide) st rfl [.bool false] rfl rfl ?c2 ?c3 ?c4 ?_))
      case c2 => intro u hu; simp at hu; subst hu; rfl
      case c3 => unfold maxLen; omega
      case c4 => omega
      intro v3 w3 st3
      obtain ⟨a3, c3, rfl⟩ := ownsRow_slice st3.row
      have e1 : bools (l ++ List.replicate k false) ++ [.bool false] = bools (l ++ List.replicate (k + 1) false) := by
        rw [List.replicate_succ', ← List.append_assoc, bools_append (l ++ List.replicate k false)]
        rfl
      rw [e1] at st3
      clear st e1
      go_wp2
      go_roundw
      case rel => exact ⟨k + 1, by omega, ⟨_, _, rfl⟩, st3⟩
      case measure => simp [lenOf]; omega
    · have d1 : (((l.length : Int) + (k : Int)) % 8 != 0) = false := by rw [bne_eq_false_iff_eq]; unfold padOf at hlt hk; omega
      go_wp2
      go_ret
      obtain rfl : k = padOf l.length := by omega
      refine ⟨_, rfl, ?_, st.below (Nat.le_refl _)⟩
      have e : (alignL l).length = l.length + padOf l.length := by simp [alignL]
      rw [e]
      exact st.rowFrom

/-- Put: a number that may be. -/
theorem rput_ok (w : World) (v : Value) (l : List Bool) (x n : Nat) (h : RowAt w v l) (hl : l.length ≤ 1000000) (hx : x < 4294967296) (hn : n ≤ 32) (hxn : x < 2 ^ n) :
    Calls Try.prog 13 #[v, .int .u32 (x : Int), .int .i64 (n : Int)] w fun e w' => ∃ v', e = .returned (.tuple #[v', .int .i64 0]) ∧ w'.ownsRow w.heap.size 4 1 v' (l ++ bitsOf x n).length (bools (l ++ bitsOf x n)) ∧ Below w.heap.size w w' := by
  obtain ⟨i0, hi, hz0, hz1, hz2⟩ := info_parts infoBool
  obtain ⟨a, cap, rfl⟩ := h.slice
  have hsrc := h.src
  have HS := Lib.hid hsrc
  have HX := Lib.hid hx
  have s0 := (St.start w).addRow (below_alloc w _) (World.ownsRow_made (base := w.heap.size) (e := 4) (size := 1) w #[] 0 (Nat.le_refl _) (by unfold maxLen; omega) rfl)
  have dd : decide (x < 2 ^ n) = true := by simpa using hxn
  have HD := Lib.hid dd
  clear hsrc hx hxn dd
  go_enter Try.func13, Try.ntmps13
  go_wp2_with fail
  refine (may_any w x n HX.out hn).mono ?_
  rintro e w1 ⟨he, rfl⟩
  rw [HD.out] at he
  subst he
  go_wp2_with ((at_builtin; refine wpList_append_mine _ rfl (.tmp 13) (.tmp 14) 27 rfl 4 i0 (.bool false) 1 1 Try.underlying27 hi hz0 hz1 hz2 rfl (by decide) _ 0 [] rfl s0.row a l.length cap (bools l) rfl ?c1 ?c2 ?c3 (bools_one _) ?c4 ?c5 ?_))
  case c1 => exact HS.out.2.1
  case c2 => rw [bools_length]; omega
  case c3 => intro b e j u hu; exact cell_alloc (HS.out.2.2 b e j u hu) _
  case c4 => unfold maxLen; omega
  case c5 => omega
  intro v1 w1 o1 g1 f1
  have s1 := s0.grown o1 g1 f1
  clear s0 o1 g1 f1
  go_wp2_with fail
  refine (bits_any w1 x n HX.out hn).mono ?_
  rintro e w2 ⟨v2, rfl, o2, b2⟩
  rw [bitsOf_length] at o2
  have s2 := (s1.addRow b2 o2).swap
  obtain ⟨ad, c2, rfl⟩ := ownsRow_slice o2
  clear s1 o2 b2
  go_wp2_with ((at_builtin; refine wpList_append_row rfl (.tmp 15) (.tmp 18) 27 rfl 4 i0 (.bool false) 1 Try.underlying27 hi hz0 hz1 hz2 rfl s2 rfl rfl (bools_one _) ?c1 ?c2 ?_))
  case c1 => unfold maxLen; omega
  case c2 => omega
  intro v3 w3 s3
  obtain ⟨a3, c3, rfl⟩ := ownsRow_slice s3.row
  clear s2
  go_wp2
  go_ret2
  refine ⟨_, rfl, ?_, s3.below (Nat.le_refl _)⟩
  have e : (l ++ bitsOf x n).length = l.length + n := by simp [bitsOf_length]
  rw [e, bools_append]
  simpa using s3.rowFrom

/-- Put: a number that may not be. -/
theorem rput_arg (w : World) (v : Value) (x : Nat) (n : Int) (hx : x < 4294967296) (hn : n < 0 ∨ 32 < n ∨ ¬ (x : Int) < 2 ^ n.toNat) (hv : ∃ a m c, v = .slice a m c) :
    Calls Try.prog 13 #[v, .int .u32 (x : Int), .int .i64 n] w fun e w' => e = .returned (.tuple #[v, .int .i64 5]) ∧ w = w' := by
  obtain ⟨a, m, c, rfl⟩ := hv
  have HX := Lib.hid hx
  clear hx
  by_cases c1 : n < 0 ∨ 32 < n
  · have HN := Lib.hid c1
    clear c1 hn
    go_enter Try.func13, Try.ntmps13
    go_wp2_with fail
    refine (may_no w (x : Int) n (by have := HN.out; omega)).mono ?_
    rintro e w1 ⟨rfl, rfl⟩
    go_wp2
    go_ret2
    exact ⟨rfl, rfl⟩
  · obtain ⟨k, rfl⟩ := Int.eq_ofNat_of_zero_le (show 0 ≤ n by omega)
    have hk : k ≤ 32 := by omega
    have dd : decide (x < 2 ^ k) = false := by
      rcases hn with h | h | h
      · omega
      · omega
      · simp only [decide_eq_false_iff_not]
        intro h'
        exact h (by rw [Int.toNat_natCast]; exact_mod_cast h')
    have HD := Lib.hid dd
    clear c1 hn dd
    go_enter Try.func13, Try.ntmps13
    go_wp2_with fail
    refine (may_any w x k HX.out hk).mono ?_
    rintro e w1 ⟨he, rfl⟩
    rw [HD.out] at he
    subst he
    go_wp2
    go_ret2
    exact ⟨rfl, rfl⟩

theorem alignL_length (l : List Bool) : (alignL l).length = 8 * (pk l).length := by
  rw [pk_length]
  simp only [alignL, List.length_append, List.length_replicate]
  unfold padOf
  omega

theorem alignL_chunk (l : List Bool) (k : Nat) (h : k < (pk l).length) : num (((alignL l).drop (8 * k)).take 8) = (pk l)[k] := by
  have hk : 8 * k < l.length := by rw [pk_length] at h; omega
  rw [pk_get, alignL, List.drop_append_of_le_length (by omega), List.take_append, num_append]
  have e : (List.replicate (padOf l.length) false).take (8 - (l.drop (8 * k)).length) = List.replicate (min (8 - (l.drop (8 * k)).length) (padOf l.length)) false := List.take_replicate
  rw [e, num_zeros, List.length_replicate, Nat.add_zero]
  congr 2
  simp only [List.length_drop, List.length_take]
  unfold padOf
  omega

/-- Ahead of round k of Bytes. -/
def BytesTo (w : World) (l : List Bool) (av v i : Value) (wr : World) : Prop := ∃ k : Nat, k ≤ (pk l).length ∧ i = .int .i64 ((8 * k : Nat) : Int) ∧
  St w.heap.size w wr [rowT 5 1 v k (u8s ((pk l).take k)), rowT 4 1 av (8 * (pk l).length) (bools (alignL l))]

/-- Bytes. -/
theorem rbytes_any (w : World) (v : Value) (l : List Bool) (h : RowAt w v l) (hl : l.length ≤ 1000000) :
    Calls Try.prog 17 #[v] w (NewBytes w (pk l)) := by
  obtain ⟨i0, hi, hz0, hz1, hz2⟩ := info_parts info8
  have hpl := pk_length l
  have hp8 : (pk l).length ≤ 200000 := by omega
  clear hpl
  go_enter Try.func17, Try.ntmps17
  go_wp2_with fail
  refine (align_any w v l h hl).mono ?_
  rintro e w1 ⟨v1, rfl, o1, b1⟩
  rw [alignL_length] at o1
  have s1 := ((St.start w).addRow b1 o1).addNil (e := 5) (size := 1)
  obtain ⟨a1, c1, rfl⟩ := ownsRow_slice o1
  clear b1 o1
  go_wp2
  go_loopw [4, 5] (fun v i wr => BytesTo w l (.slice a1 (8 * (pk l).length) c1) v i wr) (fun _ i _ => 8 * (pk l).length - (intOf i).toNat)
  case atStart => exact ⟨0, by omega, rfl, s1⟩
  case round =>
    obtain ⟨k, hk, rfl, st⟩ := hrel
    clear s1
    by_cases hlt : k < (pk l).length
    · obtain ⟨g, cp, e1, e2⟩ := st.swap.rowShape (by omega)
      obtain ⟨rfl, -, rfl⟩ := Value.slice.inj e1
      have hrow := RowAt.of_owns st.swap.row
      have hnum := alignL_chunk l k hlt
      have hb := pk_lt l _ (List.getElem_mem hlt)
      have HN := Lib.hid hnum
      have hal := alignL_length l
      have hsub : RowAt wr (.slice (some ⟨g, 8 * k, none⟩) 8 (c1 - 8 * k)) (((alignL l).drop (8 * k)).take 8) := by
        obtain ⟨a', cap', e3, h2, h3, h4⟩ := hrow
        obtain ⟨rfl, -, rfl⟩ := Value.slice.inj e3
        have h5 := rowAt_sub (p := 8 * k) (n := 8) h2 h3 h4 (by rw [hal]; omega)
        rw [Option.map_some, add_none, Nat.zero_add] at h5
        exact h5
      have HR := Lib.hid hsub
      have hxm : ((pk l)[k] : Int) % 256 = ((pk l)[k] : Int) := by omega
      clear e1 hrow hnum hal hsub
      go_wp2_with fail
      refine (number_any wr _ _ HR.out (by simp; omega)).mono ?_
      rintro e w2 ⟨he, rfl⟩
      rw [HN.out] at he
      subst he
      have hts : u8s ((pk l).take (k + 1)) = u8s ((pk l).take k) ++ [.int .u8 ((pk l)[k] : Int)] := by rw [List.take_succ_eq_append_getElem hlt, u8s_append]; rfl
      have HT := Lib.hid hts
      clear hts
      go_wp2_with ((at_builtin; refine wpList_append_one rfl (.tmp 14) (.tmp 22) 23 rfl 5 i0 (.int .u8 0) 1 1 Try.underlying23 hi hz0 hz1 hz2 rfl (by decide) st rfl [.int .u8 ((pk l)[k] : Int)] rfl rfl ?c2 ?c3 ?c4 ?_))
      case c2 => intro u hu; simp at hu; subst hu; rfl
      case c3 => unfold maxLen; omega
      case c4 => omega
      intro v3 w3 st3
      rw [← HT.out] at st3
      clear st
      go_wp2
      go_roundw
      case rel => exact ⟨k + 1, by omega, by go_num, st3⟩
      case measure => simp [intOf]; omega
    · go_wp2
      go_ret
      obtain rfl : k = (pk l).length := by omega
      rw [List.take_length] at st
      exact ⟨_, rfl, st.rowFrom, st.below (Nat.le_refl _)⟩

end Go.Proofs.Ytlhhoiimmalpgaa.Msb
