/-
  Plain facts about codes by their lengths (layer 4): weights, the places of words, that words lie apart and fill up the rows of bits from 0 on. No program. No conditions.
-/
import Derived.Test.YtpolbpjclklgbaaBits
namespace Go.Proofs.Ytpolbpjclklgbaa.Kraft

/-! Sums over places. -/
def sumTo (f : Nat → Nat) : Nat → Nat
  | 0 => 0
  | n + 1 => sumTo f n + f n

theorem sumTo_congr {f g : Nat → Nat} {n : Nat} (h : ∀ j, j < n → f j = g j) : sumTo f n = sumTo g n := by
  induction n with
  | zero => rfl
  | succ n ih => rw [sumTo, sumTo, ih (fun j hj => h j (by omega)), h n (by omega)]

theorem sumTo_le {f g : Nat → Nat} {n : Nat} (h : ∀ j, j < n → f j ≤ g j) : sumTo f n ≤ sumTo g n := by
  induction n with
  | zero => exact Nat.le_refl _
  | succ n ih => exact Nat.add_le_add (ih (fun j hj => h j (by omega))) (h n (by omega))

theorem sumTo_add (f g : Nat → Nat) (n : Nat) : sumTo (fun j => f j + g j) n = sumTo f n + sumTo g n := by
  induction n with
  | zero => rfl
  | succ n ih => rw [sumTo, sumTo, sumTo, ih]; omega

theorem sumTo_zero {f : Nat → Nat} {n : Nat} (h : ∀ j, j < n → f j = 0) : sumTo f n = 0 := by
  induction n with
  | zero => rfl
  | succ n ih => rw [sumTo, ih (fun j hj => h j (by omega)), h n (by omega)]

theorem sumTo_single (i c n : Nat) : sumTo (fun j => if j = i then c else 0) n = if i < n then c else 0 := by
  induction n with
  | zero => simp [sumTo]
  | succ n ih =>
    rw [sumTo, ih]
    by_cases h : i < n
    · rw [if_pos h, if_neg (by omega), if_pos (by omega)]
      rfl
    · by_cases e : n = i
      · rw [if_neg h, if_pos e, if_pos (by omega), Nat.zero_add]
      · rw [if_neg h, if_neg e, if_neg (by omega)]

theorem sumTo_mul (c : Nat) (f : Nat → Nat) (n : Nat) : sumTo (fun j => c * f j) n = c * sumTo f n := by
  induction n with
  | zero => rfl
  | succ n ih => rw [sumTo, sumTo, ih, Nat.mul_add]

theorem sumTo_dvd {d : Nat} {f : Nat → Nat} {n : Nat} (h : ∀ j, j < n → d ∣ f j) : d ∣ sumTo f n := by
  induction n with
  | zero => exact Nat.dvd_zero _
  | succ n ih => exact Nat.dvd_add (ih (fun j hj => h j (by omega))) (h n (by omega))

theorem sumTo_member {f : Nat → Nat} {n i : Nat} (h : i < n) : f i ≤ sumTo f n := by
  induction n with
  | zero => omega
  | succ n ih =>
    rw [sumTo]
    by_cases e : i = n
    · subst e; omega
    · have := ih (by omega); omega

/-- Where at most one place is met. -/
theorem sumTo_one {p : Nat → Prop} [DecidablePred p] {n : Nat} (h : ∀ i k, i < n → k < n → p i → p k → i = k) : sumTo (fun j => if p j then 1 else 0) n ≤ 1 := by
  induction n with
  | zero => simp [sumTo]
  | succ n ih =>
    rw [sumTo]
    by_cases c : p n
    · rw [if_pos c, sumTo_zero (fun j hj => by rw [if_neg (fun hp => by have := h j n (by omega) (by omega) hp c; omega)])]
      omega
    · rw [if_neg c]
      have := ih (fun i k hi hk => h i k (by omega) (by omega))
      omega

/-! Codes. -/

/-- What a word of n bits weighs, of 2 to the power of 20 in all. -/
def part (n : Nat) : Nat := if n = 0 then 0 else 2 ^ (20 - n)

theorem part_pos {n : Nat} (h : 0 < n) : 0 < part n := by unfold part; rw [if_neg (by omega)]; exact Nat.two_pow_pos _

/-- A symbol's length. -/
def len (L : List Nat) (j : Nat) : Nat := L.getD j 0

def weight (L : List Nat) : Nat := sumTo (fun j => part (len L j)) L.length

/-- Where the next word of n bits lies, when the symbols below i are done. -/
def place (L : List Nat) (n i : Nat) : Nat := sumTo (fun j => if (0 < len L j ∧ len L j < n) ∨ (len L j = n ∧ j < i) then part (len L j) else 0) L.length

theorem place_start (L : List Nat) : place L 1 0 = 0 := sumTo_zero (fun j _ => by rw [if_neg (by omega)])

theorem place_step (L : List Nat) (n i : Nat) (hi : i < L.length) : place L n (i + 1) = place L n i + if len L i = n then part n else 0 := by
  have e : ∀ j, j < L.length → (if (0 < len L j ∧ len L j < n) ∨ (len L j = n ∧ j < i + 1) then part (len L j) else 0) = (if (0 < len L j ∧ len L j < n) ∨ (len L j = n ∧ j < i) then part (len L j) else 0) + (if j = i then (if len L i = n then part n else 0) else 0) := by
    intro j _
    by_cases hj : j = i
    · subst hj
      rw [if_pos rfl]
      by_cases hn : len L j = n
      · rw [if_pos (.inr ⟨hn, by omega⟩), if_neg (by omega), if_pos hn, hn]
        omega
      · rw [if_neg hn, Nat.add_zero]
        by_cases c : 0 < len L j ∧ len L j < n
        · rw [if_pos (.inl c), if_pos (.inl c)]
          rfl
        · rw [if_neg (by omega), if_neg (by omega)]
    · rw [if_neg hj, Nat.add_zero]
      by_cases c : (0 < len L j ∧ len L j < n) ∨ (len L j = n ∧ j < i)
      · rw [if_pos c, if_pos (by omega)]
        rfl
      · rw [if_neg c, if_neg (by omega)]
  unfold place
  rw [sumTo_congr e, sumTo_add, sumTo_single, if_pos hi]

theorem place_next (L : List Nat) (n : Nat) (hn : 0 < n) : place L n L.length = place L (n + 1) 0 := by
  refine sumTo_congr (fun j hj => ?_)
  by_cases c : (0 < len L j ∧ len L j < n) ∨ (len L j = n ∧ j < L.length)
  · rw [if_pos c, if_pos (by omega)]
  · rw [if_neg c, if_neg (by omega)]

theorem place_end (L : List Nat) (h : ∀ j, len L j ≤ 20) : place L 21 0 = weight L := by
  refine sumTo_congr (fun j _ => ?_)
  have := h j
  by_cases c : 0 < len L j
  · rw [if_pos (.inl ⟨c, by omega⟩)]
  · have e : len L j = 0 := by omega
    rw [if_neg (by omega), e]
    rfl

theorem place_le (L : List Nat) (n i : Nat) : place L n i ≤ weight L := by
  refine sumTo_le (fun j _ => ?_)
  split
  · exact Nat.le_refl _
  · exact Nat.zero_le _

/-- Places rise, by lengths and then by symbols. -/
theorem place_mono (L : List Nat) (n i m k : Nat) (h : n < m ∨ (n = m ∧ i ≤ k)) (hn : 0 < n) : place L n i ≤ place L m k := by
  refine sumTo_le (fun j _ => ?_)
  by_cases c : (0 < len L j ∧ len L j < n) ∨ (len L j = n ∧ j < i)
  · rw [if_pos c, if_pos (by omega)]
    exact Nat.le_refl _
  · rw [if_neg c]
    exact Nat.zero_le _

theorem place_dvd (L : List Nat) (n i : Nat) (hn : n ≤ 20) : 2 ^ (20 - n) ∣ place L n i := by
  refine sumTo_dvd (fun j _ => ?_)
  split
  · unfold part
    split
    · exact Nat.dvd_zero _
    · exact Nat.pow_dvd_pow 2 (by omega)
  · exact Nat.dvd_zero _

/-- A symbol's word lies from here .. -/
def from_ (L : List Nat) (i : Nat) : Nat := place L (len L i) i

theorem from_to (L : List Nat) (i : Nat) (hi : i < L.length) : place L (len L i) (i + 1) = from_ L i + part (len L i) := by
  rw [place_step L _ i hi, if_pos rfl]
  rfl

/-- Words lie apart, in their order. -/
theorem apart (L : List Nat) (i k : Nat) (hi : i < L.length) (h0 : 0 < len L i) (h : len L i < len L k ∨ (len L i = len L k ∧ i < k)) : from_ L i + part (len L i) ≤ from_ L k := by
  rw [← from_to L i hi]
  exact place_mono L _ _ _ _ (by omega) h0

theorem within (L : List Nat) (i : Nat) (hi : i < L.length) : from_ L i + part (len L i) ≤ weight L := by
  rw [← from_to L i hi]
  exact place_le L _ _

/-- Words fill up all rows of bits from 0 on. -/
theorem cover (L : List Nat) (row : Nat) : ∀ n, 0 < n → row < place L n 0 → ∃ i, i < L.length ∧ 0 < len L i ∧ from_ L i ≤ row ∧ row < from_ L i + part (len L i)
  | 0, h, _ => absurd h (by omega)
  | 1, _, h => by rw [place_start] at h; omega
  | n + 2, _, h => by
    rw [← place_next L (n + 1) (by omega)] at h
    have key : ∀ i, i ≤ L.length → row < place L (n + 1) i → ∃ i, i < L.length ∧ 0 < len L i ∧ from_ L i ≤ row ∧ row < from_ L i + part (len L i) := by
      intro i
      induction i with
      | zero => exact fun _ h0 => cover L row (n + 1) (by omega) h0
      | succ i ih =>
        intro hi hrow
        by_cases c : row < place L (n + 1) i
        · exact ih (by omega) c
        · rw [place_step L _ i (by omega)] at hrow
          by_cases e : len L i = n + 1
          · refine ⟨i, by omega, by omega, ?_, ?_⟩
            · unfold from_; rw [e]; omega
            · unfold from_; rw [if_pos e] at hrow; rw [e]; exact hrow
          · rw [if_neg e] at hrow; omega
    exact key _ (Nat.le_refl _) h

/-- A symbol's word. -/
def word (L : List Nat) (i : Nat) : Nat := if len L i = 0 then 0 else from_ L i / 2 ^ (20 - len L i)

theorem word_from (L : List Nat) (i : Nat) (h0 : 0 < len L i) (h : len L i ≤ 20) : word L i * 2 ^ (20 - len L i) = from_ L i := by
  unfold word
  rw [if_neg (by omega)]
  exact Nat.div_mul_cancel (place_dvd L _ i h)

theorem part_eq (n : Nat) (h0 : 0 < n) : part n = 2 ^ (20 - n) := by unfold part; rw [if_neg (by omega)]

theorem word_lt (L : List Nat) (i : Nat) (hi : i < L.length) (h0 : 0 < len L i) (h : len L i ≤ 20) (hw : weight L ≤ 1048576) : word L i < 2 ^ len L i := by
  have h1 := word_from L i h0 h
  have h2 := within L i hi
  rw [part_eq _ h0, ← h1] at h2
  have e : (1048576 : Nat) = 2 ^ len L i * 2 ^ (20 - len L i) := by rw [← Nat.pow_add, show len L i + (20 - len L i) = 20 from by omega]
  have h3 : (word L i + 1) * 2 ^ (20 - len L i) ≤ 2 ^ len L i * 2 ^ (20 - len L i) := by rw [← e, Nat.add_mul, Nat.one_mul]; omega
  exact Nat.le_of_mul_le_mul_right h3 (Nat.two_pow_pos _)

/-- A row of bits begins with a symbol's word. -/
theorem row_iff (L : List Nat) (i row : Nat) (h0 : 0 < len L i) (h : len L i ≤ 20) : row / 2 ^ (20 - len L i) = word L i ↔ from_ L i ≤ row ∧ row < from_ L i + part (len L i) := by
  have h1 := word_from L i h0 h
  have hp := Nat.two_pow_pos (20 - len L i)
  rw [part_eq _ h0, ← h1]
  generalize 2 ^ (20 - len L i) = d at hp
  generalize word L i = x
  constructor
  · intro e
    subst e
    have := Nat.div_add_mod row d
    have hm := Nat.mod_lt row hp
    rw [Nat.mul_comm] at this
    omega
  · intro ⟨a, b⟩
    have hb : row < (x + 1) * d := by rw [Nat.add_mul, Nat.one_mul]; exact b
    exact Nat.div_eq_of_lt_le a hb

/-- The beginning of a longer word, as a place. -/
theorem word_head (L : List Nat) (i k : Nat) (h0 : 0 < len L i) (hik : len L i ≤ len L k) (h : len L k ≤ 20) : word L k / 2 ^ (len L k - len L i) = from_ L k / 2 ^ (20 - len L i) := by
  unfold word
  rw [if_neg (by omega), Nat.div_div_eq_div_mul, ← Nat.pow_add, show 20 - len L k + (len L k - len L i) = 20 - len L i from by omega]

/-- No word begins with another one's. -/
theorem free (L : List Nat) (i k : Nat) (hi : i < L.length) (hk : k < L.length) (hne : k ≠ i) (h0 : 0 < len L i) (hik : len L i ≤ len L k) (h : len L k ≤ 20) : word L k / 2 ^ (len L k - len L i) ≠ word L i := by
  rw [word_head L i k h0 hik h]
  intro e
  have h1 := (row_iff L i (from_ L k) h0 (by omega)).1 e
  have hp := part_pos (n := len L k) (by omega)
  by_cases c : len L i < len L k ∨ (len L i = len L k ∧ i < k)
  · have := apart L i k hi h0 c
    omega
  · have := apart L k i hk (by omega) (by omega)
    omega

/-- A word of more bits stands behind those of fewer; of as many by their symbols. -/
theorem rises (L : List Nat) (i k : Nat) (hi : i < L.length) (h0 : 0 < len L i) (h : len L k ≤ 20) (c : len L i < len L k ∨ (len L i = len L k ∧ i < k)) : word L i < word L k / 2 ^ (len L k - len L i) := by
  rw [word_head L i k h0 (by omega) h]
  have h1 := apart L i k hi h0 c
  have h2 := word_from L i h0 (by omega)
  rw [part_eq _ h0, ← h2] at h1
  rw [← Nat.succ_le_iff, Nat.le_div_iff_mul_le (Nat.two_pow_pos _), Nat.succ_mul]
  exact h1

/-- Of how many symbols' words a row of bits begins with. -/
def hits (L : List Nat) (row n : Nat) : Nat := sumTo (fun i => if 0 < len L i ∧ row / 2 ^ (20 - len L i) = word L i then 1 else 0) n

theorem hits_le (L : List Nat) (row : Nat) (h : ∀ j, len L j ≤ 20) : hits L row L.length ≤ 1 := by
  refine sumTo_one (fun i k hi hk ⟨a, b⟩ ⟨c, d⟩ => ?_)
  have h1 := (row_iff L i row a (h i)).1 b
  have h2 := (row_iff L k row c (h k)).1 d
  by_cases e : i = k
  · exact e
  · by_cases g : len L i < len L k ∨ (len L i = len L k ∧ i < k)
    · have := apart L i k hi a g
      omega
    · have := apart L k i hk c (by omega)
      omega

theorem hits_full (L : List Nat) (row : Nat) (h : ∀ j, len L j ≤ 20) (hw : row < weight L) : hits L row L.length = 1 := by
  rw [← place_end L h] at hw
  obtain ⟨i, hi, h0, h1, h2⟩ := cover L row 21 (by omega) hw
  have e := (row_iff L i row h0 (h i)).2 ⟨h1, h2⟩
  have g := sumTo_member (f := fun i => if 0 < len L i ∧ row / 2 ^ (20 - len L i) = word L i then 1 else 0) hi
  simp only [h0, e, and_self, if_true] at g
  have := hits_le L row h
  unfold hits at *
  omega

theorem hits_none (L : List Nat) (row : Nat) (hw : weight L = 0) : hits L row L.length = 0 := by
  refine sumTo_zero (fun j hj => ?_)
  rw [if_neg]
  rintro ⟨h0, _⟩
  have := sumTo_member (f := fun j => part (len L j)) hj
  have hp := part_pos h0
  unfold weight at hw
  omega

/-! Classes. -/
def class_ (w : Nat) : Nat := if w = 0 then 0 else if w < 1048576 then 1 else if 1048576 < w then 3 else 2

theorem weight_append (L : List Nat) (n : Nat) : weight (L ++ [n]) = weight L + part n := by
  unfold weight
  rw [List.length_append, List.length_singleton, sumTo]
  congr 1
  · refine sumTo_congr (fun j hj => ?_)
    unfold len
    rw [List.getD_eq_getElem?_getD, List.getD_eq_getElem?_getD, List.getElem?_append_left hj]
  · unfold len
    rw [List.getD_eq_getElem?_getD, List.getElem?_append_right (by omega)]
    simp

/-- All words one bit longer: half the weight. -/
def longer (L : List Nat) : List Nat := L.map fun n => if n = 0 then 0 else n + 1

theorem len_longer (L : List Nat) (j : Nat) : len (longer L) j = if len L j = 0 then 0 else len L j + 1 := by
  unfold len longer
  rw [List.getD_eq_getElem?_getD, List.getElem?_map, List.getD_eq_getElem?_getD]
  cases L[j]? with
  | none => rfl
  | some x => rfl

theorem weight_longer (L : List Nat) (h : ∀ j, len L j < 20) : 2 * weight (longer L) = weight L := by
  unfold weight
  rw [← sumTo_mul, show (longer L).length = L.length from List.length_map _]
  refine sumTo_congr (fun j _ => ?_)
  rw [len_longer]
  have := h j
  by_cases c : len L j = 0
  · rw [if_pos c, c]
    rfl
  · rw [if_neg c, part_eq _ (by omega), part_eq _ (by omega), ← Nat.pow_succ', show Nat.succ (20 - (len L j + 1)) = 20 - len L j from by omega]

end Go.Proofs.Ytpolbpjclklgbaa.Kraft
