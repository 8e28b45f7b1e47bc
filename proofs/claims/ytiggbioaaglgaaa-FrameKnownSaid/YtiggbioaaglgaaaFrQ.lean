/-
  Plain facts about heads of gzip's members: what is laid is read; what is read may be laid; without the last byte it is none; a sum that turned is told. No program. No conditions.
-/
import Derived.Test.YtiggbioaaglgaaaFrP
namespace Go.Proofs.Ytiggbioaaglgaaa.Fr
open Crc

theorem sl_at (A B C : List Nat) : sl (A ++ (B ++ C)) A.length B.length = B := by
  unfold sl
  rw [List.drop_left, List.take_left]

theorem sl_at' {xs A B C : List Nat} {p n : Nat} (h : xs = A ++ (B ++ C)) (hp : A.length = p) (hn : B.length = n) : sl xs p n = B := by
  subst h hp hn
  exact sl_at A B C

theorem laid_split (h : Gz) (R : List Nat) : ∀ (j k : Nat), k + j = 8 → 0 < j → ∃ C, laid h 8 ++ R = laid h k ++ (part h k (laid h k) ++ C)
  | 0, _, _, h0 => absurd h0 (by omega)
  | 1, k, e, _ => by
    obtain rfl : k = 7 := by omega
    exact ⟨R, by show (laid h 7 ++ _) ++ R = _; rw [List.append_assoc]⟩
  | j + 2, k, e, _ => by
    obtain ⟨C, hC⟩ := laid_split h R (j + 1) (k + 1) (by omega) (by omega)
    exact ⟨_, by rw [hC]; show (laid h k ++ _) ++ _ = _; rw [List.append_assoc]⟩

/-- A head's first k fields. -/
def upto (h : Gz) (k : Nat) : Gz :=
  ⟨if 2 ≤ k then h.text else false, if 3 ≤ k then h.time else 0, if 4 ≤ k then h.xfl else 0, if 5 ≤ k then h.os else 0, if 6 ≤ k then h.extra else [], if 7 ≤ k then h.name else [], if 8 ≤ k then h.comment else [], if 2 ≤ k then h.has else 0, if 2 ≤ k then h.sum else false⟩

theorem flags_parts (h : Gz) : (flagsOf h % 2 == 1) = h.text ∧ (flagsOf h / 2 % 2 == 1) = h.sum ∧ flagsOf h / 4 = h.has := by
  unfold flagsOf
  have h1 := bool_le h.text
  have h2 := bool_le h.sum
  refine ⟨?_, ?_, by omega⟩
  · have : (h.has * 4 + h.text.toNat + 2 * h.sum.toNat) % 2 = h.text.toNat := by omega
    rw [this]; cases h.text <;> rfl
  · have : (h.has * 4 + h.text.toNat + 2 * h.sum.toNat) / 2 % 2 = h.sum.toNat := by omega
    rw [this]; cases h.sum <;> rfl

theorem text_put {h : Gz} {xs A C t : List Nat} {bit : Nat} {s : Rs} (hh : s.h.has = h.has) (hp : s.p = A.length) (hx : xs = A ++ ((if h.has / bit % 2 = 1 then t ++ [0] else []) ++ C)) (ht : 0 ∉ t) (h0 : h.has / bit % 2 = 1 ∨ t = []) :
    textR xs bit s = some (A.length + (if h.has / bit % 2 = 1 then t ++ [0] else []).length, t) := by
  subst hx
  unfold textR
  rw [hh, hp]
  by_cases c : h.has / bit % 2 = 1
  · rw [if_pos c, if_pos c, List.drop_left, List.append_assoc, List.singleton_append, zeroAt_put _ _ ht]
    simp only [Option.map_some, Option.some.injEq, Prod.mk.injEq]
    refine ⟨by simp; omega, ?_⟩
    exact sl_at A t (0 :: C)
  · rw [if_neg c, if_neg c]
    rcases h0 with e | e
    · exact absurd e c
    · subst e; simp

theorem after_put {h : Gz} (hf : Fits h) (hm : may h = true) (R : List Nat) : ∀ (k : Nat), k ≤ 8 → after (laid h 8 ++ R) k = some ⟨(laid h k).length, upto h k, false⟩ := by
  obtain ⟨m1, m2, m3, ⟨m4, m5⟩, m6, m7⟩ := (may_iff h).1 hm
  have step : ∀ k, k < 8 → rdStep (laid h 8 ++ R) k ⟨(laid h k).length, upto h k, false⟩ = some ⟨(laid h (k + 1)).length, upto h (k + 1), false⟩ := by
    intro k hk
    obtain ⟨C, hC⟩ := laid_split h R (8 - k) k (by omega) (by omega)
    have hlen : (laid h (k + 1)).length = (laid h k).length + (part h k (laid h k)).length := by show (laid h k ++ _).length = _; rw [List.length_append]
    have hle : (laid h k).length + (part h k (laid h k)).length ≤ (laid h 8 ++ R).length := by rw [hC]; simp only [List.length_append]; omega
    have hs := sl_at (laid h k) (part h k (laid h k)) C
    rw [← hC] at hs
    rw [hlen]
    generalize laid h 8 ++ R = xs at *
    generalize hA : laid h k = A at *
    have hkk : k = 0 ∨ k = 1 ∨ k = 2 ∨ k = 3 ∨ k = 4 ∨ k = 5 ∨ k = 6 ∨ k = 7 := by omega
    rcases hkk with rfl | rfl | rfl | rfl | rfl | rfl | rfl | rfl
    · have e : part h 0 A = [31, 139, 8] := rfl
      rw [e] at hs hle ⊢
      unfold rdStep
      rw [if_pos ⟨hle, hs⟩]
      rfl
    · have e : part h 1 A = [flagsOf h] := rfl
      rw [e] at hs hle ⊢
      unfold rdStep
      simp only [List.length_singleton] at hs hle ⊢
      obtain ⟨f1, f2, f3⟩ := flags_parts h
      have hv : val [flagsOf h] = flagsOf h := by simp [val]
      rw [hs, hv, if_pos ⟨hle, flagsOf_lt m1⟩, f1, f2, f3]
      rfl
    · have e : part h 2 A = le 4 h.time := rfl
      rw [e] at hs hle ⊢
      unfold rdStep
      rw [le_length] at hs hle ⊢
      simp only
      rw [hs, if_pos hle, val_le, Nat.mod_eq_of_lt hf.time]
      rfl
    · have e : part h 3 A = [h.xfl] := rfl
      rw [e] at hs hle ⊢
      unfold rdStep
      simp only [List.length_singleton] at hs hle ⊢
      have hv : val [h.xfl] = h.xfl := by simp [val]
      rw [hs, hv, if_pos hle]
      rfl
    · have e : part h 4 A = [h.os] := rfl
      rw [e] at hs hle ⊢
      unfold rdStep
      simp only [List.length_singleton] at hs hle ⊢
      have hv : val [h.os] = h.os := by simp [val]
      rw [hs, hv, if_pos hle]
      rfl
    · have hhas : (upto h 5).has = h.has := rfl
      unfold rdStep
      simp only
      rw [hhas]
      by_cases c : h.has % 2 = 1
      · have e : part h 5 A = le 2 h.extra.length ++ h.extra := if_pos c
        rw [e] at hC hle ⊢
        rw [List.length_append, le_length] at hle ⊢
        rw [List.append_assoc] at hC
        have g1 := sl_at' hC (p := A.length) (n := 2) rfl (le_length _ _)
        have g2 := sl_at' (xs := xs) (A := A ++ le 2 h.extra.length) (B := h.extra) (C := C) (by rw [hC]; simp only [List.append_assoc]) (p := A.length + 2) (n := h.extra.length) (by rw [List.length_append, le_length]) rfl
        have hv : val (le 2 h.extra.length) = h.extra.length := by rw [val_le, Nat.mod_eq_of_lt (by omega)]
        rw [if_pos c, g1, hv, g2, if_pos ⟨by omega, by omega⟩]
        rw [Nat.add_assoc]
        rfl
      · have e : part h 5 A = [] := if_neg c
        rw [e, if_neg c]
        rcases m3 with m3 | m3
        · exact absurd m3 c
        · unfold upto
          rw [m3]
          rfl
    · unfold rdStep
      simp only
      have ht := text_put (h := h) (s := ⟨A.length, upto h 6, false⟩) (bit := 2) rfl rfl hC m4 m5
      rw [ht]
      rfl
    · unfold rdStep
      simp only
      have ht := text_put (h := h) (s := ⟨A.length, upto h 7, false⟩) (bit := 4) rfl rfl hC m6 m7
      rw [ht]
      rfl
  intro k
  induction k with
  | zero => intro _; rfl
  | succ k ih =>
    intro hk
    show (after _ k).bind _ = _
    rw [ih (by omega)]
    exact step k (by omega)

theorem upto_all (h : Gz) : upto h 8 = h := rfl

/-- A head without a sum is read. -/
theorem get_plain {h : Gz} (hf : Fits h) (hm : may h = true) (hs : h.sum = false) (R : List Nat) : get (laid h 8 ++ R) = some ⟨(laid h 8).length, h, false⟩ := by
  show (after _ 8).bind _ = _
  rw [after_put hf hm R 8 (Nat.le_refl _), upto_all]
  show (if h.sum then _ else _) = _
  rw [hs]
  rfl

/-- A head with a sum is read, whatever the sum is. -/
theorem get_sum {h : Gz} (hf : Fits h) (hm : may h = true) (hs : h.sum = true) (t R : List Nat) (ht : t.length = 2) : get (laid h 8 ++ (t ++ R)) = some ⟨(laid h 8).length + 2, h, val t != lowSum (laid h 8) % 65536⟩ := by
  show (after _ 8).bind _ = _
  rw [after_put hf hm (t ++ R) 8 (Nat.le_refl _), upto_all]
  show (if h.sum then _ else _) = _
  rw [hs, if_pos rfl]
  simp only
  rw [sl_at' (xs := laid h 8 ++ (t ++ R)) rfl rfl ht, List.take_left, if_pos (by simp only [List.length_append]; omega)]

theorem bytes_plain {h : Gz} (hs : h.sum = false) : bytesOf h = laid h 8 := by
  show laid h 8 ++ (if h.sum then _ else _) = _
  rw [hs]
  simp

theorem bytes_sum {h : Gz} (hs : h.sum = true) : bytesOf h = laid h 8 ++ le 2 (lowSum (laid h 8)) := by
  show laid h 8 ++ (if h.sum then _ else _) = _
  rw [hs, if_pos rfl]

/-- What is put is got, whatever stands behind. -/
theorem get_put {h : Gz} (hf : Fits h) (hm : may h = true) (R : List Nat) : get (bytesOf h ++ R) = some ⟨(bytesOf h).length, h, false⟩ := by
  cases hs : h.sum with
  | false => rw [bytes_plain hs]; exact get_plain hf hm hs R
  | true =>
    rw [bytes_sum hs, List.append_assoc, get_sum hf hm hs _ R (le_length _ _), val_le, List.length_append, le_length]
    simp

/-- What is got. -/
theorem got {xs : List Nat} (hb : ∀ x ∈ xs, x < 256) {s : Rs} (h : get xs = some s) :
    may s.h = true ∧ Fits s.h ∧ s.p ≤ xs.length ∧ (s.h.sum = false → s.wrong = false ∧ xs.take s.p = laid s.h 8) ∧
    (s.h.sum = true → s.p = (laid s.h 8).length + 2 ∧ xs.take s.p = laid s.h 8 ++ sl xs (laid s.h 8).length 2 ∧ s.wrong = (val (sl xs (laid s.h 8).length 2) != lowSum (laid s.h 8) % 65536)) := by
  have g9 := good_after hb (Nat.le_refl 9) h
  obtain ⟨t, h8⟩ : ∃ t, after xs 8 = some t := by
    cases h1 : after xs 8 with
    | none =>
      have : get xs = none := by show (after xs 8).bind _ = none; rw [h1]; rfl
      rw [this] at h; cases h
    | some t => exact ⟨t, rfl⟩
  have g8 := good_after hb (by omega) h8
  have hstep : rdStep xs 8 t = some s := by rw [← h]; show _ = (after xs 8).bind _; rw [h8]; rfl
  have hsame := g8.same (Nat.le_refl _)
  have hlen : (laid t.h 8).length = t.p := by rw [← hsame, List.length_take]; have := g8.here; omega
  have hmay : may s.h = true := (may_iff _).2 ⟨g9.has, g9.extra.1, g9.extra.2.2, ⟨g9.name.1, g9.name.2.2⟩, g9.comment.1, g9.comment.2.2⟩
  have hfit : Fits s.h := ⟨g9.time, g9.xfl, g9.os, by have := g9.has; omega, g9.extra.2.1, g9.name.2.1, g9.comment.2.1⟩
  refine ⟨hmay, hfit, g9.here, ?_, ?_⟩
  · intro hs
    unfold rdStep at hstep
    simp only at hstep
    split at hstep
    · rename_i hc
      split at hstep
      · obtain rfl := Option.some.inj hstep
        rw [hc] at hs; cases hs
      · cases hstep
    · obtain rfl := Option.some.inj hstep
      exact ⟨g8.blank.2.2.2.2 (Nat.le_refl _), hsame⟩
  · intro hs
    unfold rdStep at hstep
    simp only at hstep
    split at hstep
    · rename_i hc
      split at hstep
      · rename_i hl
        obtain rfl := Option.some.inj hstep
        simp only at hs ⊢
        refine ⟨by omega, ?_, ?_⟩
        · rw [take_sl, hsame, hlen]
        · rw [hlen, hsame]
      · cases hstep
    · rename_i hc
      obtain rfl := Option.some.inj hstep
      rw [hs] at hc; exact absurd rfl hc

/-- What is got is as long as what is put. -/
theorem got_len {xs : List Nat} (hb : ∀ x ∈ xs, x < 256) {s : Rs} (h : get xs = some s) : (bytesOf s.h).length = s.p := by
  obtain ⟨_, _, h1, h2, h3⟩ := got hb h
  cases hs : s.h.sum with
  | false =>
    obtain ⟨_, e⟩ := h2 hs
    rw [bytes_plain hs, ← e, List.length_take]
    omega
  | true =>
    obtain ⟨e, _⟩ := h3 hs
    rw [bytes_sum hs, List.length_append, le_length, e]

/-- With a sum: the bytes ahead of it are the same; the sum is, if it is right. -/
theorem got_sum {xs : List Nat} (hb : ∀ x ∈ xs, x < 256) {s : Rs} (h : get xs = some s) (hs : s.h.sum = true) : 2 ≤ s.p ∧ (bytesOf s.h).take (s.p - 2) = xs.take (s.p - 2) ∧ (bytesOf s.h = xs.take s.p ↔ s.wrong = false) := by
  obtain ⟨_, _, h1, _, h3⟩ := got hb h
  obtain ⟨e1, e2, e3⟩ := h3 hs
  rw [bytes_sum hs]
  have hl : (laid s.h 8).length + 2 ≤ xs.length := by omega
  have hsl := sl_length hl
  refine ⟨by omega, ?_, ?_⟩
  · rw [show s.p - 2 = (laid s.h 8).length from by omega, List.take_left]
    have h4 : (xs.take s.p).take (laid s.h 8).length = laid s.h 8 := by rw [e2, List.take_left]
    rw [List.take_take, Nat.min_eq_left (by omega)] at h4
    exact h4.symm
  · rw [e2, e3]
    constructor
    · intro h5
      have h6 := List.append_cancel_left h5
      rw [← h6, val_le]
      simp
    · intro h5
      have h6 : val (sl xs (laid s.h 8).length 2) = lowSum (laid s.h 8) % 65536 := by simpa using h5
      congr 1
      have h7 := le_val (sl_byte hb (laid s.h 8).length 2)
      rw [hsl] at h7
      rw [← h7, h6]
      simp only [le]
      congr 1
      · omega
      · congr 1
        omega

/-- A beginning of a head that is not all of it is none. -/
theorem get_cut {h : Gz} (hf : Fits h) (hm : may h = true) (j : Nat) (hj : j < (bytesOf h).length) : get ((bytesOf h).take j) = none := by
  have hb : ∀ x ∈ bytesOf h, x < 256 := laid_byte hf ((may_iff h).1 hm).1 9
  have hb2 : ∀ x ∈ (bytesOf h).take j, x < 256 := fun x hx => hb x (List.mem_of_mem_take hx)
  cases hg : get ((bytesOf h).take j) with
  | none => rfl
  | some s =>
    exfalso
    obtain ⟨g1, g2, g3, g4, g5⟩ := got hb2 hg
    have hwhole := get_put hf hm []
    rw [List.append_nil] at hwhole
    rw [List.length_take] at g3
    have hsplit : bytesOf h = (bytesOf h).take s.p ++ (bytesOf h).drop s.p := (List.take_append_drop _ _).symm
    have htk : ((bytesOf h).take j).take s.p = (bytesOf h).take s.p := by rw [List.take_take, Nat.min_eq_left (by omega)]
    cases hs : s.h.sum with
    | false =>
      obtain ⟨_, e⟩ := g4 hs
      rw [htk] at e
      rw [hsplit, e, get_plain g2 g1 hs] at hwhole
      have := congrArg Rs.p (Option.some.inj hwhole)
      simp only at this
      have h2 := congrArg List.length e
      rw [List.length_take] at h2
      rw [← e, List.length_append, List.length_take, List.length_drop] at this
      omega
    | true =>
      obtain ⟨e0, e, _⟩ := g5 hs
      rw [htk] at e
      have hl2 : (sl ((bytesOf h).take j) (laid s.h 8).length 2).length = 2 := sl_length (by rw [List.length_take]; omega)
      rw [hsplit, e, List.append_assoc, get_sum g2 g1 hs _ _ hl2] at hwhole
      have := congrArg Rs.p (Option.some.inj hwhole)
      simp only at this
      rw [List.length_append, List.length_append, hl2, List.length_drop] at this
      omega

/-- One bit of the sum that turned is told. -/
theorem get_turned {h : Gz} (hf : Fits h) (hm : may h = true) (hs : h.sum = true) (j e : Nat) (hj : j < 2) (he : e < 8) :
    get ((bytesOf h).set ((bytesOf h).length - 1 - j) ((bytesOf h).getD ((bytesOf h).length - 1 - j) 0 ^^^ 2 ^ e)) = some ⟨(bytesOf h).length, h, true⟩ := by
  have hbs := bytes_sum hs
  have hlen : (bytesOf h).length = (laid h 8).length + 2 := by rw [hbs, List.length_append, le_length]
  generalize hS : lowSum (laid h 8) = S at hbs
  have hx : ∀ x, x < 256 → x ^^^ 2 ^ e ≠ x ∧ x ^^^ 2 ^ e < 256 := by
    intro x hx
    refine ⟨fun h1 => ?_, Nat.xor_lt_two_pow (n := 8) hx (Nat.pow_lt_pow_right (by omega) he)⟩
    have h2 : (x ^^^ 2 ^ e).testBit e = x.testBit e := by rw [h1]
    rw [Nat.testBit_xor, Nat.testBit_two_pow_self] at h2
    cases hb : x.testBit e <;> rw [hb] at h2 <;> simp at h2
  have hle : le 2 S = [S % 256, S / 256 % 256] := rfl
  rw [hle] at hbs
  have hj2 : j = 0 ∨ j = 1 := by omega
  rcases hj2 with rfl | rfl
  · have h1 := hx (S / 256 % 256) (by omega)
    have hget : (bytesOf h).getD ((bytesOf h).length - 1 - 0) 0 = S / 256 % 256 := by
      rw [hlen, hbs, List.getD_eq_getElem?_getD, List.getElem?_append_right (by omega)]
      rw [show (laid h 8).length + 2 - 1 - 0 - (laid h 8).length = 1 from by omega]
      rfl
    rw [hget, hlen, hbs, List.set_append_right _ _ (by omega), show (laid h 8).length + 2 - 1 - 0 - (laid h 8).length = 1 from by omega]
    have g := get_sum hf hm hs [S % 256, S / 256 % 256 ^^^ 2 ^ e] [] rfl
    rw [List.append_nil] at g
    show get (laid h 8 ++ [S % 256, S / 256 % 256 ^^^ 2 ^ e]) = _
    rw [g, hS]
    have hv : val [S % 256, S / 256 % 256 ^^^ 2 ^ e] ≠ S % 65536 := by
      simp only [val]
      generalize S / 256 % 256 ^^^ 2 ^ e = y at h1 ⊢
      omega
    have hw : (val [S % 256, S / 256 % 256 ^^^ 2 ^ e] != S % 65536) = true := by simpa using hv
    rw [hw]
  · have h1 := hx (S % 256) (by omega)
    have hget : (bytesOf h).getD ((bytesOf h).length - 1 - 1) 0 = S % 256 := by
      rw [hlen, hbs, List.getD_eq_getElem?_getD, List.getElem?_append_right (by omega)]
      rw [show (laid h 8).length + 2 - 1 - 1 - (laid h 8).length = 0 from by omega]
      rfl
    rw [hget, hlen, hbs, List.set_append_right _ _ (by omega), show (laid h 8).length + 2 - 1 - 1 - (laid h 8).length = 0 from by omega]
    have g := get_sum hf hm hs [S % 256 ^^^ 2 ^ e, S / 256 % 256] [] rfl
    rw [List.append_nil] at g
    show get (laid h 8 ++ [S % 256 ^^^ 2 ^ e, S / 256 % 256]) = _
    rw [g, hS]
    have hv : val [S % 256 ^^^ 2 ^ e, S / 256 % 256] ≠ S % 65536 := by
      simp only [val]
      generalize S % 256 ^^^ 2 ^ e = y at h1 ⊢
      omega
    have hw : (val [S % 256 ^^^ 2 ^ e, S / 256 % 256] != S % 65536) = true := by simpa using hv
    rw [hw]

/-- A head's first ten bytes. -/
theorem after_five (xs : List Nat) : after xs 5 = if 10 ≤ xs.length ∧ sl xs 0 3 = [31, 139, 8] ∧ val (sl xs 3 1) < 32 then
    some ⟨10, ⟨val (sl xs 3 1) % 2 == 1, val (sl xs 4 4), val (sl xs 8 1), val (sl xs 9 1), [], [], [], val (sl xs 3 1) / 4, val (sl xs 3 1) / 2 % 2 == 1⟩, false⟩ else none := by
  have e5 : after xs 5 = ((((rdStep xs 0 ⟨0, Gz.nil, false⟩).bind (rdStep xs 1)).bind (rdStep xs 2)).bind (rdStep xs 3)).bind (rdStep xs 4) := rfl
  rw [e5]
  by_cases c1 : sl xs 0 3 = [31, 139, 8]
  · by_cases c2 : val (sl xs 3 1) < 32
    · by_cases c3 : 10 ≤ xs.length
      · rw [if_pos ⟨c3, c1, c2⟩]
        unfold rdStep
        simp only [Nat.zero_add, Option.bind_some, c1, c2, show 3 ≤ xs.length from by omega, show 3 + 1 ≤ xs.length from by omega, show 3 + 1 + 4 ≤ xs.length from by omega, show 3 + 1 + 4 + 1 ≤ xs.length from by omega, show 3 + 1 + 4 + 1 + 1 ≤ xs.length from by omega, and_self, if_true]
        rfl
      · rw [if_neg (fun h => c3 h.1)]
        unfold rdStep
        simp only [Nat.zero_add]
        by_cases d1 : 3 ≤ xs.length <;> simp only [d1, c1, and_self, if_true, Option.bind_some, Option.bind_none, and_true, if_false]
        by_cases d2 : 3 + 1 ≤ xs.length <;> simp only [d2, c2, and_self, if_true, Option.bind_some, Option.bind_none, and_true, if_false]
        by_cases d3 : 3 + 1 + 4 ≤ xs.length <;> simp only [d3, if_true, Option.bind_some, Option.bind_none, if_false]
        by_cases d4 : 3 + 1 + 4 + 1 ≤ xs.length <;> simp only [d4, if_true, Option.bind_some, Option.bind_none, if_false]
        rw [if_neg (by omega)]
    · rw [if_neg (fun h => c2 h.2.2)]
      unfold rdStep
      simp only [Nat.zero_add]
      by_cases d1 : 3 ≤ xs.length <;> simp [d1, c1, c2]
  · rw [if_neg (fun h => c1 h.2.1)]
    unfold rdStep
    simp [c1]

end Go.Proofs.Ytiggbioaaglgaaa.Fr
