/-
  Contracts of package frame: the writer's fields, Put, Tail. No conditions but that rows are small.
-/
import Derived.Test.YtiggbioaaglgaaaFrB
import Derived.StillTailTactics
namespace Go.Proofs.Ytiggbioaaglgaaa.Fr
open Go.RowKit Crc

section
variable {B : Nat} {w0 w : World} {r : List Thing} {wb : Nat} {h : Gz} {ev : Value} {acc : List Nat}

theorem byte_or (x : Nat) (hx : x < 64) (a b : Bool) : x * 4 + a.toNat + 2 * b.toNat < 256 := by
  have := bool_le a
  have := bool_le b
  omega

theorem or_one (x : Nat) (hx : x < 256) (h4 : x % 2 = 0) : bits .or .u8 (x : Int) 1 = ((x + 1 : Nat) : Int) := by
  have : ∀ x : Nat, x < 256 → x % 2 = 0 → bits .or .u8 (x : Int) 1 = ((x + 1 : Nat) : Int) := by decide +kernel
  exact this x hx h4

theorem or_two (x : Nat) (hx : x < 256) (h4 : x % 4 < 2) : bits .or .u8 (x : Int) 2 = ((x + 2 : Nat) : Int) := by
  have : ∀ x : Nat, x < 256 → x % 4 < 2 → bits .or .u8 (x : Int) 2 = ((x + 2 : Nat) : Int) := by decide +kernel
  exact this x hx h4

theorem and_bit (x : Nat) (hx : x < 256) : bits .and .u8 (x : Int) 1 = ((x % 2 : Nat) : Int) ∧ bits .and .u8 (x : Int) 2 = ((2 * (x / 2 % 2) : Nat) : Int) ∧ bits .and .u8 (x : Int) 4 = ((4 * (x / 4 % 2) : Nat) : Int) := by
  have : ∀ x : Nat, x < 256 → bits .and .u8 (x : Int) 1 = ((x % 2 : Nat) : Int) ∧ bits .and .u8 (x : Int) 2 = ((2 * (x / 2 % 2) : Nat) : Int) ∧ bits .and .u8 (x : Int) 4 = ((4 * (x / 4 % 2) : Nat) : Int) := by decide +kernel
  exact this x hx

set_option maxRecDepth 100000 in
set_option maxHeartbeats 1000000 in
theorem wflags_st (st : Wst B w0 w r wb h ev acc) (hm : h.has < 8) (hl : acc.length ≤ 90000000) :
    Calls Try.prog 23 #[.pointer (some ⟨wb, 0, none⟩)] w fun e w' => e = .returned (.tuple #[]) ∧ Wst B w0 w' r wb h ev (acc ++ [flagsOf h]) := by
  have hn := wnumber_st st (flagsOf h) 1 (by have := flagsOf_lt hm; omega) (by omega) (by omega)
  have hle : le 1 (flagsOf h) = [flagsOf h] := by show [flagsOf h % 256] = _; rw [Nat.mod_eq_of_lt (by have := flagsOf_lt hm; omega)]
  rw [hle] at hn
  obtain ⟨v, s1⟩ := st
  obtain ⟨A, hA⟩ : ∃ A, acc ++ [flagsOf h] = A := ⟨_, rfl⟩
  rw [hA] at hn ⊢
  obtain ⟨F, hF⟩ : ∃ F, flagsOf h = F := ⟨_, rfl⟩
  rw [hF] at hn
  have k7 : w.cell? ⟨wb, 7, none⟩ = some (.int .u8 (h.has : Int)) := (St.boxAt s1 7).1
  have k0 : w.cell? ⟨wb, 0, none⟩ = some (.bool h.text) := (St.boxAt s1 0).1
  have k8 : w.cell? ⟨wb, 8, none⟩ = some (.bool h.sum) := (St.boxAt s1 8).1
  unfold flagsOf at hF
  clear s1 hA hle
  generalize h.has = x at *
  obtain ⟨y, hy⟩ : ∃ y, x * 4 = y := ⟨_, rfl⟩
  have e1 : (x : Int) * 4 % 256 = (y : Int) := by omega
  have hy4 : y % 4 = 0 := by omega
  have hy28 : y < 32 := by omega
  rw [hy] at hF
  clear hy hm
  have hFF : F < 256 := by have := bool_le h.text; have := bool_le h.sum; omega
  go_enter Try.func23, Try.ntmps23
  cases ht : h.text with
  | false =>
    rw [ht] at k0 hF
    cases hs : h.sum with
    | false =>
      rw [hs] at k8 hF
      have hF2 : y = F := by rw [← hF]; simp
      subst hF2
      clear hF ht hs
      go_wp2_with (go_at_call 45; refine hn.mono ?_; rintro e w1 ⟨rfl, s2⟩)
      go_end0
      exact ⟨rfl, s2⟩
    | true =>
      rw [hs] at k8 hF
      have e2 : bits .or .u8 (y : Int) 2 = (F : Int) := by rw [or_two y (by omega) (by omega), ← hF]; simp
      clear hF ht hs
      go_wp2_with (go_at_call 45; refine hn.mono ?_; rintro e w1 ⟨rfl, s2⟩)
      go_end0
      exact ⟨rfl, s2⟩
  | true =>
    rw [ht] at k0 hF
    obtain ⟨q, hq⟩ : ∃ q, y + 1 = q := ⟨_, rfl⟩
    have e2 : bits .or .u8 (y : Int) 1 = (q : Int) := by rw [or_one y (by omega) (by omega), hq]
    cases hs : h.sum with
    | false =>
      rw [hs] at k8 hF
      have hF2 : q = F := by rw [← hF, ← hq]; simp
      subst hF2
      clear hF ht hs hq
      go_wp2_with (go_at_call 45; refine hn.mono ?_; rintro e w1 ⟨rfl, s2⟩)
      go_end0
      exact ⟨rfl, s2⟩
    | true =>
      rw [hs] at k8 hF
      have e3 : bits .or .u8 (q : Int) 2 = (F : Int) := by rw [or_two q (by omega) (by omega), ← hF, ← hq]; simp
      clear hF ht hs hq
      go_wp2_with (go_at_call 45; refine hn.mono ?_; rintro e w1 ⟨rfl, s2⟩)
      go_end0
      exact ⟨rfl, s2⟩

set_option maxRecDepth 100000 in
theorem wtime_st (st : Wst B w0 w r wb h ev acc) (ht : h.time < 4294967296) (hl : acc.length ≤ 90000000) :
    Calls Try.prog 24 #[.pointer (some ⟨wb, 0, none⟩)] w fun e w' => e = .returned (.tuple #[]) ∧ Wst B w0 w' r wb h ev (acc ++ le 4 h.time) := by
  have hn := wnumber_st st h.time 4 ht (by omega) (by omega)
  obtain ⟨v, s1⟩ := st
  have k7 : w.cell? ⟨wb, 1, none⟩ = some (.int .u32 (h.time : Int)) := (St.boxAt s1 1).1
  clear s1
  go_enter Try.func24, Try.ntmps24
  go_wp2_with (go_at_call 45; refine hn.mono ?_; rintro e w1 ⟨rfl, s2⟩)
  go_end0
  exact ⟨rfl, s2⟩

set_option maxRecDepth 100000 in
theorem wxfl_st (st : Wst B w0 w r wb h ev acc) (ht : h.xfl < 256) (hl : acc.length ≤ 90000000) :
    Calls Try.prog 25 #[.pointer (some ⟨wb, 0, none⟩)] w fun e w' => e = .returned (.tuple #[]) ∧ Wst B w0 w' r wb h ev (acc ++ [h.xfl]) := by
  have hn := wnumber_st st h.xfl 1 (by omega) (by omega) (by omega)
  have hle : le 1 h.xfl = [h.xfl] := by show [h.xfl % 256] = _; rw [Nat.mod_eq_of_lt ht]
  rw [hle] at hn
  obtain ⟨v, s1⟩ := st
  have k7 : w.cell? ⟨wb, 2, none⟩ = some (.int .u8 (h.xfl : Int)) := (St.boxAt s1 2).1
  clear s1
  go_enter Try.func25, Try.ntmps25
  go_wp2_with (go_at_call 45; refine hn.mono ?_; rintro e w1 ⟨rfl, s2⟩)
  go_end0
  exact ⟨rfl, s2⟩

set_option maxRecDepth 100000 in
theorem wos_st (st : Wst B w0 w r wb h ev acc) (ht : h.os < 256) (hl : acc.length ≤ 90000000) :
    Calls Try.prog 26 #[.pointer (some ⟨wb, 0, none⟩)] w fun e w' => e = .returned (.tuple #[]) ∧ Wst B w0 w' r wb h ev (acc ++ [h.os]) := by
  have hn := wnumber_st st h.os 1 (by omega) (by omega) (by omega)
  have hle : le 1 h.os = [h.os] := by show [h.os % 256] = _; rw [Nat.mod_eq_of_lt ht]
  rw [hle] at hn
  obtain ⟨v, s1⟩ := st
  have k7 : w.cell? ⟨wb, 3, none⟩ = some (.int .u8 (h.os : Int)) := (St.boxAt s1 3).1
  clear s1
  go_enter Try.func26, Try.ntmps26
  go_wp2_with (go_at_call 45; refine hn.mono ?_; rintro e w1 ⟨rfl, s2⟩)
  go_end0
  exact ⟨rfl, s2⟩

set_option maxRecDepth 100000 in
set_option maxHeartbeats 1000000 in
theorem wtext_st (st : Wst B w0 w r wb h ev acc) (t : List Nat) (bit : Nat) (hbit : bit = 2 ∨ bit = 4) (hm : h.has < 8) (ht : ∀ x ∈ t, x < 256) (hl : acc.length + t.length ≤ 90000000) :
    Calls Try.prog 51 #[.pointer (some ⟨wb, 0, none⟩), .string (strOf t), .int .u8 (bit : Int)] w fun e w' => e = .returned (.tuple #[]) ∧ Wst B w0 w' r wb h ev (acc ++ (if h.has / bit % 2 = 1 then t ++ [0] else [])) := by
  have hS := st
  obtain ⟨v, s1⟩ := st
  have k7 : w.cell? ⟨wb, 7, none⟩ = some (.int .u8 (h.has : Int)) := (St.boxAt s1 7).1
  have hand := and_bit h.has (by omega)
  have hbits : bits .and .u8 (h.has : Int) (bit : Int) = ((bit * (h.has / bit % 2) : Nat) : Int) := by
    rcases hbit with rfl | rfl
    · exact hand.2.1
    · exact hand.2.2
  clear hand
  by_cases c : h.has / bit % 2 = 1
  · rw [if_pos c]
    rw [c, Nat.mul_one] at hbits
    have hne : ((bit : Int) != 0) = true := by rcases hbit with rfl | rfl <;> rfl
    have hne2 : ¬ (bit : Int) = 0 := by omega
    have s2 := s1.swap
    obtain ⟨a, d, rfl⟩ := ownsRow_slice s2.row
    obtain ⟨k9, f9⟩ := St.boxAt s1 9
    replace k9 : w.cell? ⟨wb, 9, none⟩ = some (.slice a acc.length d) := k9
    have hH := Lib.hid hbit
    clear hbit hS c
    generalize (h.has : Int) = hh at *
    go_enter Try.func51, Try.ntmps51
    go_wp2_with (at_builtin; refine wpList_append_str rfl _ _ rfl s2 rfl t rfl ht (by omega) ?_)
    intro v' w' s3
    obtain ⟨a', c', rfl⟩ := ownsRow_slice s3.row
    rw [← u8s_append] at s3
    clear s2 s1 k9 f9 k7
    go_wp2_with (at_builtin; refine wpList_append_lit (m := 1) rfl _ _ rfl s3 rfl [.int .u8 0] rfl rfl ?oneCell (by omega) ?_)
    case oneCell => simp [Value.oneCell']
    intro v2 w2 s4
    obtain ⟨a2, c2, rfl⟩ := ownsRow_slice s4.row
    have s5 := s4.swap
    obtain ⟨k8, f8⟩ := St.boxAt s5 9
    replace k8 : w2.cell? ⟨wb, 9, none⟩ = some (.slice a acc.length d) := k8
    have s6 := s5.setBoxAt 9 (.slice a2 (acc.length + t.length + 1) c2)
    clear s3 s4 s5
    go_wp2
    go_end0
    refine ⟨rfl, .slice a2 (acc.length + t.length + 1) c2, ?_⟩
    rw [← List.append_assoc, u8s_append, List.length_append, List.length_append]
    exact s6
  · rw [if_neg c, List.append_nil]
    rw [show h.has / bit % 2 = 0 from by omega, Nat.mul_zero] at hbits
    clear c s1
    generalize (h.has : Int) = hh at *
    go_enter Try.func51, Try.ntmps51
    go_wp2
    go_end0
    exact ⟨rfl, hS⟩

set_option maxRecDepth 100000 in
theorem wname_st (st : Wst B w0 w r wb h ev acc) (hm : h.has < 8) (ht : ∀ x ∈ h.name, x < 256) (hl : acc.length + h.name.length ≤ 90000000) :
    Calls Try.prog 28 #[.pointer (some ⟨wb, 0, none⟩)] w fun e w' => e = .returned (.tuple #[]) ∧ Wst B w0 w' r wb h ev (acc ++ (if h.has / 2 % 2 = 1 then h.name ++ [0] else [])) := by
  have hn := wtext_st st h.name 2 (.inl rfl) hm ht hl
  obtain ⟨A, hA⟩ : ∃ A, acc ++ (if h.has / 2 % 2 = 1 then h.name ++ [0] else []) = A := ⟨_, rfl⟩
  rw [hA] at hn ⊢
  clear hA
  obtain ⟨v, s1⟩ := st
  have k7 : w.cell? ⟨wb, 5, none⟩ = some (.string (strOf h.name)) := (St.boxAt s1 5).1
  clear s1
  go_enter Try.func28, Try.ntmps28
  go_wp2_with (go_at_call 51; refine hn.mono ?_; rintro e w1 ⟨rfl, s2⟩)
  go_end0
  exact ⟨rfl, s2⟩

set_option maxRecDepth 100000 in
theorem wcomment_st (st : Wst B w0 w r wb h ev acc) (hm : h.has < 8) (ht : ∀ x ∈ h.comment, x < 256) (hl : acc.length + h.comment.length ≤ 90000000) :
    Calls Try.prog 29 #[.pointer (some ⟨wb, 0, none⟩)] w fun e w' => e = .returned (.tuple #[]) ∧ Wst B w0 w' r wb h ev (acc ++ (if h.has / 4 % 2 = 1 then h.comment ++ [0] else [])) := by
  have hn := wtext_st st h.comment 4 (.inr rfl) hm ht hl
  obtain ⟨A, hA⟩ : ∃ A, acc ++ (if h.has / 4 % 2 = 1 then h.comment ++ [0] else []) = A := ⟨_, rfl⟩
  rw [hA] at hn ⊢
  clear hA
  obtain ⟨v, s1⟩ := st
  have k7 : w.cell? ⟨wb, 6, none⟩ = some (.string (strOf h.comment)) := (St.boxAt s1 6).1
  clear s1
  go_enter Try.func29, Try.ntmps29
  go_wp2_with (go_at_call 51; refine hn.mono ?_; rintro e w1 ⟨rfl, s2⟩)
  go_end0
  exact ⟨rfl, s2⟩

set_option maxRecDepth 100000 in
theorem wsum_st (st : Wst B w0 w r wb h ev acc) (hb : ∀ x ∈ acc, x < 256) (hl : acc.length ≤ 90000000) :
    Calls Try.prog 30 #[.pointer (some ⟨wb, 0, none⟩)] w fun e w' => e = .returned (.tuple #[]) ∧ Wst B w0 w' r wb h ev (acc ++ (if h.sum then le 2 (lowSum acc) else [])) := by
  have hS := st
  obtain ⟨v, s1⟩ := st
  have k7 : w.cell? ⟨wb, 8, none⟩ = some (.bool h.sum) := (St.boxAt s1 8).1
  obtain ⟨a, d, rfl⟩ := ownsRow_slice s1.swap.row
  have k9 : w.cell? ⟨wb, 9, none⟩ = some (.slice a acc.length d) := (St.boxAt s1 9).1
  have hrow := s1.swap.bytesRow hb
  have hlow := low_st s1 hrow (by omega)
  have hlt : lowSum acc < 4294967296 := (lowReg acc ^^^ ones).isLt
  clear hrow
  cases hs : h.sum with
  | false =>
    rw [hs] at k7
    simp only [Bool.false_eq_true, if_false, List.append_nil]
    clear hlow s1 hs
    go_enter Try.func30, Try.ntmps30
    go_wp2
    go_end0
    exact ⟨rfl, hS⟩
  | true =>
    rw [hs] at k7
    simp only [if_true]
    clear s1 hs hS
    generalize lowSum acc = S at *
    go_enter Try.func30, Try.ntmps30
    go_wp2_with (go_at_call 46; refine hlow.mono ?_; rintro e w1 ⟨rfl, s2, -⟩)
    have hn := wnumber_st ⟨_, s2⟩ S 2 hlt (by omega) (by omega)
    clear s2 hlow
    go_wp2_with (go_at_call 45; refine hn.mono ?_; rintro e w3 ⟨rfl, s3⟩)
    go_end0
    exact ⟨rfl, s3⟩

set_option maxRecDepth 100000 in
set_option maxHeartbeats 1000000 in
theorem wextra_st (st : Wst B w0 w r wb h ev acc) (hev : ∀ W, St B w0 W r → ByteRow W ev h.extra) (hm : h.has < 8) (he : h.extra.length ≤ 65535) (hl : acc.length ≤ 80000000) :
    Calls Try.prog 27 #[.pointer (some ⟨wb, 0, none⟩)] w fun e w' => e = .returned (.tuple #[]) ∧ Wst B w0 w' r wb h ev (acc ++ (if h.has % 2 = 1 then le 2 h.extra.length ++ h.extra else [])) := by
  have hn := wnumber_st st h.extra.length 2 (by omega) (by omega) (by omega)
  have hS := st
  obtain ⟨v, s1⟩ := st
  have k7 : w.cell? ⟨wb, 7, none⟩ = some (.int .u8 (h.has : Int)) := (St.boxAt s1 7).1
  have k4 : w.cell? ⟨wb, 4, none⟩ = some ev := (St.boxAt s1 4).1
  have hand := (and_bit h.has (by omega)).1
  obtain ⟨ea, ec, hev2, _⟩ := hev w s1.drop.drop
  by_cases c : h.has % 2 = 1
  · rw [if_pos c]
    rw [c] at hand
    have hEV := Lib.hid hev
    rw [hev2] at k4
    clear c s1 hev hS
    generalize (h.has : Int) = hh at *
    go_enter Try.func27, Try.ntmps27
    go_wp2_with (go_at_call 45; refine hn.mono ?_; rintro e w1 ⟨rfl, v1, s2⟩)
    have s3 := s2.swap
    obtain ⟨a, d, rfl⟩ := ownsRow_slice s3.row
    have hrow := hEV.out w1 s2.drop.drop
    rw [hev2] at hrow
    obtain ⟨k9, f9⟩ := St.boxAt s2 9
    replace k9 : w1.cell? ⟨wb, 9, none⟩ = some (.slice a (acc ++ le 2 h.extra.length).length d) := k9
    have k5 : w1.cell? ⟨wb, 4, none⟩ = some (.slice ea h.extra.length ec) := by rw [← hev2]; exact (St.boxAt s2 4).1
    have hlen : (acc ++ le 2 h.extra.length).length = acc.length + 2 := by rw [List.length_append, le_length]
    have HL := Lib.hid hlen
    obtain ⟨A, hA2⟩ : ∃ A, acc ++ le 2 h.extra.length = A := ⟨_, rfl⟩
    rw [hA2] at s2 s3 k9 HL
    clear hlen hn k4 k7 hand
    obtain ⟨m, hm2⟩ : ∃ m, A.length = m := ⟨_, rfl⟩
    rw [hm2] at s3 s2 k9 HL
    have hm3 : m ≤ 80000002 := by have := HL.out; omega
    have s4 := s3.drew
    have hrow2 := hrow.below (Below.refl _ _).drew (Nat.le_refl _)
    have k9d : w1.drew.cell? ⟨wb, 9, none⟩ = some (.slice a m d) := k9
    have k5d : w1.drew.cell? ⟨wb, 4, none⟩ = some (.slice ea h.extra.length ec) := k5
    clear s2 s3 k9 k5 hrow f9
    go_wp2_with fail
    refine region_seg (by kernel_rfl) [0, 1, 5] 11 rfl (by kernel_rfl) (by kernel_rfl) (fun _ _ d _ _ h => by cases d <;> exact h) ?_
    generalize w1.drew = wd at *
    intro K hK
    simp only [pickL, List.getElem?_cons_zero, List.getElem?_cons_succ]
    go_wp2_with fail
    refine wpAny_take (i := 2) (v := .pointer (some ⟨wb, 0, none⟩)) rfl (by kernel_rfl) (by kernel_rfl) (by kernel_rfl) (fun _ _ _ h => h) (.inl ⟨rfl, fun w => by go_simp⟩) ?_
    refine wpAny_take (i := 3) (v := .pointer (some ⟨wb, 9, none⟩)) rfl (by kernel_rfl) (by kernel_rfl) (by kernel_rfl) (fun _ _ _ h => h) (.inl ⟨rfl, fun w => by go_simp⟩) ?_
    refine wpAny_take (i := 6) (v := .pointer (some ⟨wb, 0, none⟩)) rfl (by kernel_rfl) (by kernel_rfl) (by kernel_rfl) (fun _ _ _ h => h) (.inl ⟨rfl, fun w => by go_simp⟩) ?_
    refine wpAny_take (i := 7) (v := .pointer (some ⟨wb, 0, none⟩)) rfl (by kernel_rfl) (by kernel_rfl) (by kernel_rfl) (fun _ _ _ h => h) (.inl ⟨rfl, fun w => by go_simp⟩) ?_
    refine wpAny_take (i := 8) (v := .pointer (some ⟨wb, 4, none⟩)) rfl (by kernel_rfl) (by kernel_rfl) (by kernel_rfl) (fun _ _ _ h => h) (.inl ⟨rfl, fun w => by go_simp⟩) ?_
    refine mid_two 4 9 [9, 10, 11, 12, 13] [4, 10, 11, 12, 13] 0 _ _ (by kernel_rfl) rfl rfl rfl (by kernel_rfl) (by kernel_rfl) (by kernel_rfl) (by kernel_rfl) (fun _ _ d _ _ h => by cases d <;> exact h) ?_ ?_
    all_goals
      intro K hK
      simp only [pickL, List.getElem?_cons_zero, List.getElem?_cons_succ]
      go_wp2_with (at_builtin; refine wpList_append_bytes rfl _ _ rfl s4 hrow2 rfl rfl (by omega) ?_)
      intro v' w' s5 _ _
      obtain ⟨a', c', rfl⟩ := ownsRow_slice s5.row
      have s6 := s5.swap
      obtain ⟨k8, f8⟩ := St.boxAt s6 9
      replace k8 : w'.cell? ⟨wb, 9, none⟩ = some (.slice a m d) := k8
      have s7 := s6.setBoxAt 9 (.slice a' (m + h.extra.length) c')
      clear s4 s5 s6 hrow2 k9d k5d
      go_wp2
      refine wpAny_done (by kernel_rfl) ?_ 0
      go_wp2
      go_end0
      refine ⟨rfl, .slice a' (m + h.extra.length) c', ?_⟩
      rw [← hev2] at s7
      rw [← List.append_assoc, hA2, u8s_append, List.length_append, hm2]
      exact s7
  · rw [if_neg c, List.append_nil]
    rw [show h.has % 2 = 0 from by omega] at hand
    clear c s1 hn k4 hev hev2
    generalize (h.has : Int) = hh at *
    go_enter Try.func27, Try.ntmps27
    go_wp2
    go_end0
    exact ⟨rfl, hS⟩

end
end Go.Proofs.Ytiggbioaaglgaaa.Fr
