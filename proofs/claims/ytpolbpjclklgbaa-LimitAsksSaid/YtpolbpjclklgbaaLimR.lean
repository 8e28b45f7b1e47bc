/-
  Plain facts for layer 5: what the lengths come to: a choice, of the least cost, the rarer no shorter. No program. No conditions.
-/
import Derived.Test.YtpolbpjclklgbaaLimQ
namespace Go.Proofs.Ytpolbpjclklgbaa.Limit
open Go.Proofs.Ytpolbpjclklgbaa.Kraft

theorem pos_perm_length {F S : List Nat} (h : Rare F S) : S.length = (pos F).length := by
  have := h.weights.length_eq
  simpa using this

/-- The counts, of two symbols or more. -/
theorem counts_two {F S : List Nat} (_ : Rare F S) {L : Nat} (h2 : 2 ≤ S.length) (hL : 1 ≤ L) (hf : S.length ≤ 2 ^ L) :
    countsOf (S.map (nth F)) L = taking (S.map (nth F)) L (2 * S.length - 2) ∧ 2 * S.length - 2 ≤ (rows (S.map (nth F)) L).length := by
  refine ⟨by unfold countsOf; rw [List.length_map, if_neg (by omega)], ?_⟩
  have := rows_enough (S.map (nth F)) L (by simpa using hf) (by simpa using h2) hL
  simpa using this

theorem nth_map {S : List Nat} (f : Nat → Nat) {p : Nat} (hp : p < S.length) : nth (S.map f) p = f S[p] := by
  rw [nth_lt (by simpa using hp)]; simp

/-- A sum over all symbols is one over the places of those whose frequency is above 0. -/
theorem sum_rare {F S : List Nat} (h : Rare F S) (g f : Nat → Nat) (h0 : ∀ i, i < F.length → nth F i = 0 → g i = 0) (e : ∀ p (hp : p < S.length), g S[p] = f p) : sumTo g F.length = sumTo f S.length := by
  rw [sum_over g F.length _ S h.perm (fun i hi hq => h0 i hi (by simpa using hq)), sum_places S g f e]

theorem lengths_at {F S : List Nat} (h : Rare F S) (L : Nat) {p : Nat} (hp : p < S.length) : nth (lengths F S L) S[p] = lenAt (countsOf (S.map (nth F)) L) p :=
  lensOf_at h.nodup _ _ hp ((h.mem _).1 (List.getElem_mem hp)).1

theorem lengths_zero {F S : List Nat} (h : Rare F S) (L i : Nat) (hi : i < F.length) (h0 : nth F i = 0) : nth (lengths F S L) i = 0 :=
  lensOf_not _ _ _ hi (fun hm => by have := ((h.mem i).1 hm).2; omega)

theorem lengths_length (F S : List Nat) (L : Nat) : (lengths F S L).length = F.length := lensOf_length _ _ _

/-- Each length comes of a place. -/
theorem rare_at {F S : List Nat} (h : Rare F S) {i : Nat} (hi : i < F.length) (h0 : 0 < nth F i) : ∃ p, ∃ hp : p < S.length, S[p] = i := by
  have := (h.mem i).2 ⟨hi, h0⟩
  obtain ⟨p, hp, e⟩ := List.getElem_of_mem this
  exact ⟨p, hp, e⟩

theorem cost_lengths {F S : List Nat} (h : Rare F S) (L : Nat) : cost F (lengths F S L) = sumTo (fun p => nth (S.map (nth F)) p * lenAt (countsOf (S.map (nth F)) L) p) S.length :=
  sum_rare h _ _ (fun i hi h0 => by rw [h0, Nat.zero_mul]) (fun p hp => by rw [lengths_at h L hp, nth_map _ hp])

/-- THE COST: the lightest 2n - 2 things of the last row. -/
theorem cost_two {F S : List Nat} (h : Rare F S) {L : Nat} (h2 : 2 ≤ S.length) (hL : 1 ≤ L) (hf : S.length ≤ 2 ^ L) :
    cost F (lengths F S L) = sumTo (nth (rows (S.map (nth F)) L)) (2 * S.length - 2) := by
  obtain ⟨e, hle⟩ := counts_two h h2 hL hf
  have hd := taking_desc h.upW h.posW L _ hle
  rw [cost_lengths h, e, ← taking_cost _ _ _ hle]
  have := lens_cost (S.map (nth F)) (taking (S.map (nth F)) L (2 * S.length - 2)) hd.all
  rw [List.length_map] at this
  exact this

/-- Such lengths fill up. -/
theorem lengths_full {F S : List Nat} (h : Rare F S) {L : Nat} (h2 : 2 ≤ S.length) (hL : 1 ≤ L) (hf : S.length ≤ 2 ^ L) :
    (∀ p, p < S.length → 0 < lenAt (countsOf (S.map (nth F)) L) p) ∧ kraft L (lengths F S L) = 2 ^ L := by
  obtain ⟨e, hle⟩ := counts_two h h2 hL hf
  have hd := taking_desc h.upW h.posW L _ hle
  have hv := taking_val _ _ _ hle
  have hw := lens_weigh _ _ hd
  rw [taking_length] at hw
  have hl : (countsOf (S.map (nth F)) L).length = L := by rw [e, taking_length]
  rw [← e] at hv hw
  rw [List.length_map] at hw
  have hsum : sumTo (fun p => 2 ^ (L - lenAt (countsOf (S.map (nth F)) L) p)) S.length = 2 ^ L := by
    obtain ⟨m, hm⟩ : ∃ m, S.length = m + 2 := ⟨S.length - 2, by omega⟩
    rw [hm] at hv hw ⊢
    generalize 2 ^ L = z at *
    rw [show 2 * (m + 2) - 2 = 2 * (m + 1) from by omega, Nat.mul_assoc] at hv
    rw [Nat.add_mul] at hv hw
    omega
  have hpos : ∀ p, p < S.length → 0 < lenAt (countsOf (S.map (nth F)) L) p := by
    intro p hp
    refine Nat.pos_of_ne_zero fun h0 => ?_
    obtain ⟨q, hq, hqp⟩ : ∃ q, q < S.length ∧ q ≠ p := by
      by_cases c : p = 0
      · exact ⟨1, by omega, by omega⟩
      · exact ⟨0, by omega, by omega⟩
    have h1 : ∀ a b : Nat, a < b → b < S.length → (fun p => 2 ^ (L - lenAt (countsOf (S.map (nth F)) L) p)) a + (fun p => 2 ^ (L - lenAt (countsOf (S.map (nth F)) L) p)) b ≤ sumTo (fun p => 2 ^ (L - lenAt (countsOf (S.map (nth F)) L) p)) S.length := by
      intro a b hab hb
      generalize (fun p => 2 ^ (L - lenAt (countsOf (S.map (nth F)) L) p)) = f
      obtain ⟨d, hd⟩ : ∃ d, S.length = b + d := ⟨S.length - b, by omega⟩
      have i1 := sumTo_member (f := f) (n := b) (i := a) hab
      have i2 := sumTo_member (f := fun j => f (b + j)) (n := d) (i := 0) (by omega)
      rw [hd, sumTo_split]
      simp only [Nat.add_zero] at i2
      omega
    have h2 : 0 < 2 ^ (L - lenAt (countsOf (S.map (nth F)) L) q) := Nat.two_pow_pos _
    have h3 : 2 ^ (L - lenAt (countsOf (S.map (nth F)) L) p) = 2 ^ L := by rw [h0, Nat.sub_zero]
    rcases Nat.lt_or_ge p q with c | c
    · have := h1 p q c hq
      simp only at this
      omega
    · have := h1 q p (by omega) hp
      simp only at this
      omega
  refine ⟨hpos, ?_⟩
  rw [← hsum]
  unfold kraft
  rw [lengths_length]
  refine sum_rare h _ _ (fun i hi h0 => by rw [lengths_zero h L i hi h0, if_pos rfl]) (fun p hp => ?_)
  have := hpos p hp
  rw [lengths_at h L hp, if_neg (by omega)]

/-- THE LENGTHS ARE A CHOICE. -/
theorem lengths_choice {F S : List Nat} (h : Rare F S) {L : Nat} (hL : 1 ≤ L) (hf : S.length ≤ 2 ^ L) : Choice F L (lengths F S L) := by
  have hn := pos_perm_length h
  by_cases h2 : 2 ≤ S.length
  · obtain ⟨hpos, hfull⟩ := lengths_full h h2 hL hf
    obtain ⟨e, hle⟩ := counts_two h h2 hL hf
    refine ⟨lengths_length _ _ _, fun i hi => ?_, fun i hi => ?_, fun _ => hfull, fun h1 => by omega⟩
    · by_cases h0 : 0 < nth F i
      · obtain ⟨p, hp, rfl⟩ := rare_at h hi h0
        rw [lengths_at h L hp]
        exact ⟨fun _ => h0, fun _ => hpos p hp⟩
      · rw [lengths_zero h L i hi (by omega)]
        exact ⟨fun h => by omega, fun h => absurd h h0⟩
    · by_cases h0 : 0 < nth F i
      · obtain ⟨p, hp, rfl⟩ := rare_at h hi h0
        rw [lengths_at h L hp]
        have := lenAt_le (countsOf (S.map (nth F)) L) p
        rw [e, taking_length] at this
        rw [e]
        exact this
      · rw [lengths_zero h L i hi (by omega)]; exact Nat.zero_le _
  · have e : countsOf (S.map (nth F)) L = [S.length] := by unfold countsOf; rw [List.length_map, if_pos (by omega)]
    have hone : ∀ i, i < F.length → nth (lengths F S L) i = if 0 < nth F i then 1 else 0 := by
      intro i hi
      by_cases h0 : 0 < nth F i
      · obtain ⟨p, hp, rfl⟩ := rare_at h hi h0
        rw [lengths_at h L hp, e, if_pos h0]
        simp [lenAt, hp]
      · rw [lengths_zero h L i hi (by omega), if_neg h0]
    refine ⟨lengths_length _ _ _, fun i hi => ?_, fun i hi => ?_, fun h1 => by omega, fun _ i hi => ?_⟩
    · rw [hone i hi]; split <;> simp_all
    · rw [hone i hi]; split <;> omega
    · rw [hone i hi]; split <;> omega

/-- THE LEAST COST. -/
theorem lengths_best {F S O : List Nat} (h : Rare F S) {L : Nat} (hL : 1 ≤ L) (hf : S.length ≤ 2 ^ L) (hO : Choice F L O) : cost F (lengths F S L) ≤ cost F O := by
  have hn := pos_perm_length h
  by_cases h2 : 2 ≤ S.length
  · have := choice_least hO h.upW h.weights (by simpa using h2)
    rw [List.length_map] at this
    rw [cost_two h h2 hL hf]
    exact this.2
  · have hC := lengths_choice h hL hf
    have e : ∀ O, Choice F L O → cost F O = sumTo (nth F) F.length := fun O hO => sumTo_congr fun i hi => by
      have h1 := hO.one (by omega) i hi
      have h2 := hO.some i hi
      by_cases c : 0 < nth F i
      · have := h2.2 c
        rw [show nth O i = 1 from by omega, Nat.mul_one]
      · rw [show nth F i = 0 from by omega, Nat.zero_mul]
    rw [e _ hC, e _ hO]
    exact Nat.le_refl _

/-- WHO IS MORE FREQUENT HAS NO LONGER WORD. -/
theorem lengths_fall {F S : List Nat} (h : Rare F S) (L : Nat) {i k : Nat} (hi : i < F.length) (hk : k < F.length) (h0 : 0 < nth F k) (hlt : nth F k < nth F i) : nth (lengths F S L) i ≤ nth (lengths F S L) k := by
  obtain ⟨p, hp, rfl⟩ := rare_at h hi (by omega)
  obtain ⟨q, hq, rfl⟩ := rare_at h hk h0
  rw [lengths_at h L hp, lengths_at h L hq]
  refine lenAt_falls _ (Nat.le_of_not_lt fun c => ?_)
  have := h.upW p q (by omega) (by simpa using hq)
  rw [nth_map _ hp, nth_map _ hq] at this
  omega

/-- The same weights, whatever the order of symbols. -/
theorem weights_one {F S F' S' : List Nat} (h : Rare F S) (h' : Rare F' S') (e : (pos F).Perm (pos F')) : S.map (nth F) = S'.map (nth F') :=
  List.Perm.eq_of_pairwise (le := (· ≤ ·)) (fun _ _ _ _ h1 h2 => Nat.le_antisymm h1 h2) h.up h'.up (h.weights.trans (e.trans h'.weights.symm))

/-- The same cost. -/
theorem cost_one {F S F' S' : List Nat} (h : Rare F S) (h' : Rare F' S') (e : (pos F).Perm (pos F')) (L : Nat) : cost F (lengths F S L) = cost F' (lengths F' S' L) := by
  have hw := weights_one h h' e
  have hl : S.length = S'.length := by
    have := congrArg List.length hw
    simpa using this
  rw [cost_lengths h, cost_lengths h', hw, hl]

/-- As many symbols as words of the limit's length. -/
theorem lengths_tight {F S : List Nat} (h : Rare F S) {L : Nat} (hL : 1 ≤ L) (hf : S.length = 2 ^ L) {i : Nat} (hi : i < F.length) (h0 : 0 < nth F i) : nth (lengths F S L) i = L := by
  have h2 : 2 ≤ S.length := by
    rw [hf]
    have := Nat.pow_le_pow_right (n := 2) (by omega) hL
    omega
  obtain ⟨hpos, hfull⟩ := lengths_full h h2 hL (by omega)
  have hC := lengths_choice h hL (by omega)
  have e : kraft L (lengths F S L) = sumTo (fun p => 2 ^ (L - lenAt (countsOf (S.map (nth F)) L) p)) S.length := by
    unfold kraft
    rw [lengths_length]
    refine sum_rare h _ _ (fun i hi h0 => by rw [lengths_zero h L i hi h0, if_pos rfl]) (fun p hp => ?_)
    have := hpos p hp
    rw [lengths_at h L hp, if_neg (by omega)]
  rw [hfull] at e
  have hle := hC.limit i hi
  refine Nat.le_antisymm hle (Nat.le_of_not_lt fun hlt => ?_)
  obtain ⟨p, hp, rfl⟩ := rare_at h hi h0
  rw [lengths_at h L hp] at hlt hle
  have : ∀ n, p < n → n < sumTo (fun p => 2 ^ (L - lenAt (countsOf (S.map (nth F)) L) p)) n := by
    intro n hn
    induction n with
    | zero => omega
    | succ n ih =>
      rw [sumTo]
      have h1 : 0 < 2 ^ (L - lenAt (countsOf (S.map (nth F)) L) n) := Nat.two_pow_pos _
      by_cases e : p = n
      · subst e
        have h3 : 2 ^ 1 ≤ 2 ^ (L - lenAt (countsOf (S.map (nth F)) L) p) := Nat.pow_le_pow_right (by omega) (by omega)
        have h4 : ∀ m, m ≤ sumTo (fun p => 2 ^ (L - lenAt (countsOf (S.map (nth F)) L) p)) m := by
          intro m
          have := sumTo_le (f := fun _ => 1) (g := fun p => 2 ^ (L - lenAt (countsOf (S.map (nth F)) L) p)) (n := m) (fun j _ => Nat.two_pow_pos _)
          rw [sumTo_const] at this
          omega
        have := h4 p
        omega
      · have := ih (by omega)
        omega
  have := this S.length hp
  omega

end Go.Proofs.Ytpolbpjclklgbaa.Limit
