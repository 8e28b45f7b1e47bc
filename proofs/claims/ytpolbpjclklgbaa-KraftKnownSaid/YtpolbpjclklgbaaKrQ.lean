/-
  Plain facts about codes (layer 4): words that are counted up in their order, with shifts, are the words. No program. No conditions.
-/
import Derived.Test.YtpolbpjclklgbaaKrA
namespace Go.Proofs.Ytpolbpjclklgbaa.Kraft

/-- A symbol of a code, and a length. -/
structure Sym (L : List Nat) where
  i : Nat
  n : Nat
  hi : i < L.length
  hn : n < 256

/-- The symbols below i that have words of n bits. -/
def rowS (L : List Nat) (n : Nat) (hn : n < 256) : (i : Nat) → i ≤ L.length → List (Sym L)
  | 0, _ => []
  | i + 1, h => rowS L n hn i (by omega) ++ (if len L i = n then [⟨i, n, by omega, hn⟩] else [])

/-- All symbols that have words of up to n bits, in the words' order. -/
def cameS (L : List Nat) : (n : Nat) → n < 256 → List (Sym L)
  | 0, _ => []
  | n + 1, h => cameS L n (by omega) ++ rowS L (n + 1) h L.length (Nat.le_refl _)

theorem rowS_length (L : List Nat) (n : Nat) (hn : n < 256) : ∀ i hi, (rowS L n hn i hi).length ≤ i
  | 0, _ => Nat.le_refl _
  | i + 1, h => by
    have := rowS_length L n hn i (by omega)
    rw [rowS, List.length_append]
    split <;> simp <;> omega

theorem cameS_length (L : List Nat) : ∀ n hn, (cameS L n hn).length ≤ n * L.length
  | 0, _ => Nat.zero_le _
  | n + 1, h => by
    have h1 := cameS_length L n (by omega)
    have h2 := rowS_length L (n + 1) h L.length (Nat.le_refl _)
    rw [cameS, List.length_append, Nat.succ_mul]
    omega

/-- What a round does: the next word, the length ahead, the words. -/
structure Tally where
  next : Nat
  ahead : Nat
  ws : List Nat

def Tally.step {L : List Nat} (s : Tally) (x : Sym L) : Tally :=
  let nx := s.next * 2 ^ ((x.n + 256 - s.ahead) % 256) % 4294967296
  ⟨(nx + 1) % 4294967296, x.n, s.ws.set x.i nx⟩

def Tally.run {L : List Nat} (s : Tally) (l : List (Sym L)) : Tally := l.foldl Tally.step s

theorem Tally.run_snoc {L : List Nat} (s : Tally) (l : List (Sym L)) (x : Sym L) : s.run (l ++ [x]) = (s.run l).step x := by simp [Tally.run]
theorem Tally.run_append {L : List Nat} (s : Tally) (l m : List (Sym L)) : s.run (l ++ m) = (s.run l).run m := by simp [Tally.run]

theorem Tally.run_length {L : List Nat} (s : Tally) (l : List (Sym L)) : (s.run l).ws.length = s.ws.length := by
  induction l generalizing s with
  | nil => rfl
  | cons x l ih =>
    show ((s.step x).run l).ws.length = _
    rw [ih]
    simp [Tally.step]

/-- The words up to a place, 0 behind them. -/
def wordsTo (L : List Nat) (n i : Nat) : List Nat := (List.range L.length).map fun j => if (0 < len L j ∧ len L j < n) ∨ (len L j = n ∧ j < i) then word L j else 0

theorem wordsTo_length (L : List Nat) (n i : Nat) : (wordsTo L n i).length = L.length := by simp [wordsTo]

theorem wordsTo_start (L : List Nat) : wordsTo L 1 0 = List.replicate L.length 0 := by
  unfold wordsTo
  apply List.ext_getElem (by rw [List.length_map, List.length_range, List.length_replicate])
  intro j h1 h2
  rw [List.getElem_map, List.getElem_replicate, if_neg (by omega)]

theorem wordsTo_set (L : List Nat) (n i : Nat) (h : len L i = n) : (wordsTo L n i).set i (word L i) = wordsTo L n (i + 1) := by
  unfold wordsTo
  apply List.ext_getElem (by rw [List.length_set, List.length_map, List.length_map])
  intro j h1 h2
  rw [List.getElem_set]
  simp only [List.getElem_map, List.getElem_range]
  by_cases e : i = j
  · subst e
    rw [if_pos rfl, if_pos (.inr ⟨h, by omega⟩)]
  · rw [if_neg e]
    by_cases c : (0 < len L j ∧ len L j < n) ∨ (len L j = n ∧ j < i)
    · rw [if_pos c, if_pos (by omega)]
    · rw [if_neg c, if_neg (by omega)]

theorem wordsTo_skip (L : List Nat) (n i : Nat) (h : len L i ≠ n) : wordsTo L n (i + 1) = wordsTo L n i := by
  unfold wordsTo
  apply List.map_congr_left
  intro j _
  by_cases c : (0 < len L j ∧ len L j < n) ∨ (len L j = n ∧ j < i)
  · rw [if_pos c, if_pos (by omega)]
  · rw [if_neg c, if_neg]
    rintro (c' | ⟨c1, c2⟩)
    · exact c (.inl c')
    · have : j ≠ i := fun e => h (e ▸ c1)
      omega

theorem wordsTo_next (L : List Nat) (n : Nat) (hn : 0 < n) : wordsTo L n L.length = wordsTo L (n + 1) 0 := by
  unfold wordsTo
  apply List.map_congr_left
  intro j hj
  have hj := List.mem_range.1 hj
  by_cases c : (0 < len L j ∧ len L j < n) ∨ (len L j = n ∧ j < L.length)
  · rw [if_pos c, if_pos (by omega)]
  · rw [if_neg c, if_neg (by omega)]

/-- All words. -/
def words (L : List Nat) : List Nat := (List.range L.length).map (word L)

theorem words_length (L : List Nat) : (words L).length = L.length := by simp [words]
theorem words_at (L : List Nat) (i : Nat) (hi : i < (words L).length) : (words L)[i] = word L i := by simp [words]

theorem wordsTo_end (L : List Nat) (h : ∀ j, len L j ≤ 20) : wordsTo L 21 0 = words L := by
  unfold wordsTo words
  apply List.map_congr_left
  intro j _
  have := h j
  by_cases c : 0 < len L j
  · rw [if_pos (.inl ⟨c, by omega⟩)]
  · rw [if_neg (by omega)]
    unfold word
    rw [if_pos (by omega)]

/-- What the tally is at a place. -/
structure Tells (L : List Nat) (n i : Nat) (s : Tally) : Prop where
  at_ : s.next * 2 ^ (20 - s.ahead) = place L n i
  le : s.ahead ≤ n
  ws : s.ws = wordsTo L n i

theorem tells_start (L : List Nat) : Tells L 1 0 ⟨0, 0, List.replicate L.length 0⟩ := ⟨by rw [place_start]; simp, Nat.zero_le _, (wordsTo_start L).symm⟩

theorem tells_step (L : List Nat) (h : ∀ j, len L j ≤ 20) (hw : weight L ≤ 1048576) (n i : Nat) (h0 : 0 < n) (hn : n ≤ 20) (x : Sym L) (hx : x.i = i ∧ x.n = n) (hi : len L i = n) (s : Tally) (hs : Tells L n i s) : Tells L n (i + 1) (s.step x) := by
  obtain ⟨h1, h2, h3⟩ := hs
  obtain ⟨rfl, rfl⟩ := hx
  have hiL := x.hi
  have hwl := word_lt L x.i hiL (by omega) (h _) hw
  have hwf := word_from L x.i (by omega) (h _)
  have e1 : (x.n + 256 - s.ahead) % 256 = x.n - s.ahead := by have := x.hn; omega
  have hfr : from_ L x.i = place L x.n x.i := by unfold from_; rw [hi]
  have e2 : s.next * 2 ^ (x.n - s.ahead) = word L x.i := by
    rw [hfr, ← h1, hi] at hwf
    have : s.next * 2 ^ (x.n - s.ahead) * 2 ^ (20 - x.n) = s.next * 2 ^ (20 - s.ahead) := by
      rw [Nat.mul_assoc, ← Nat.pow_add, show x.n - s.ahead + (20 - x.n) = 20 - s.ahead from by omega]
    rw [← hwf] at this
    exact Nat.eq_of_mul_eq_mul_right (Nat.two_pow_pos _) this
  have hb : word L x.i < 1048576 := by
    refine Nat.lt_of_lt_of_le hwl ?_
    rw [show (1048576 : Nat) = 2 ^ 20 from rfl]
    exact Nat.pow_le_pow_right (by omega) (h _)
  have e3 : s.next * 2 ^ ((x.n + 256 - s.ahead) % 256) % 4294967296 = word L x.i := by rw [e1, e2, Nat.mod_eq_of_lt (by omega)]
  have e4 : s.step x = ⟨word L x.i + 1, x.n, s.ws.set x.i (word L x.i)⟩ := by
    unfold Tally.step
    simp only [e3]
    rw [Nat.mod_eq_of_lt (by omega)]
  rw [e4]
  refine ⟨?_, Nat.le_refl _, ?_⟩
  · show (word L x.i + 1) * 2 ^ (20 - x.n) = _
    rw [place_step L _ _ hiL, if_pos hi, part_eq _ h0, Nat.add_mul, Nat.one_mul, ← hfr, ← hwf, hi]
  · show s.ws.set x.i (word L x.i) = _
    rw [h3, wordsTo_set L _ _ hi]

theorem tells_skip (L : List Nat) (n i : Nat) (hiL : i < L.length) (hi : len L i ≠ n) (s : Tally) (hs : Tells L n i s) : Tells L n (i + 1) s :=
  ⟨by rw [hs.at_, place_step L _ _ hiL, if_neg hi, Nat.add_zero], hs.le, by rw [hs.ws, wordsTo_skip L _ _ hi]⟩

theorem tells_next (L : List Nat) (n : Nat) (hn : 0 < n) (s : Tally) (hs : Tells L n L.length s) : Tells L (n + 1) 0 s :=
  ⟨by rw [hs.at_, place_next L n hn], Nat.le_succ_of_le hs.le, by rw [hs.ws, wordsTo_next L n hn]⟩

theorem tells_row (L : List Nat) (h : ∀ j, len L j ≤ 20) (hw : weight L ≤ 1048576) (n : Nat) (h0 : 0 < n) (hn : n ≤ 20) (hn' : n < 256) (s : Tally) (hs : Tells L n 0 s) : ∀ i hi, Tells L n i (s.run (rowS L n hn' i hi))
  | 0, _ => hs
  | i + 1, hi => by
    have ih := tells_row L h hw n h0 hn hn' s hs i (by omega)
    rw [rowS]
    by_cases c : len L i = n
    · rw [if_pos c, Tally.run_snoc]
      exact tells_step L h hw n i h0 hn _ ⟨rfl, rfl⟩ c _ ih
    · rw [if_neg c, List.append_nil]
      exact tells_skip L n i (by omega) c _ ih

theorem tells_came (L : List Nat) (h : ∀ j, len L j ≤ 20) (hw : weight L ≤ 1048576) : ∀ n hn, n ≤ 20 → Tells L (n + 1) 0 (Tally.run ⟨0, 0, List.replicate L.length 0⟩ (cameS L n hn))
  | 0, _, _ => tells_start L
  | n + 1, hn, hle => by
    have ih := tells_came L h hw n (by omega) (by omega)
    rw [cameS, Tally.run_append]
    exact tells_next L (n + 1) (by omega) _ (tells_row L h hw (n + 1) (by omega) hle hn _ ih L.length (Nat.le_refl _))

/-- Counted up to the end: the words. -/
theorem tally_words (L : List Nat) (hm : may L = true) (hw : weight L ≤ 1048576) : (Tally.run ⟨0, 0, List.replicate L.length 0⟩ (cameS L 20 (by omega))).ws = words L := by
  rw [(tells_came L (may_len hm) hw 20 (by omega) (Nat.le_refl _)).ws, wordsTo_end L (may_len hm)]

end Go.Proofs.Ytpolbpjclklgbaa.Kraft
