/-
  Plain facts: by the best lengths for how often each Code comes in the signs of a head, the head is told. No program. No conditions.
-/
import Derived.Test.YtpcbhmkalofkmaaGreatHdB
namespace Go.Proofs.YtpcbhmkalofkmaaGreat.Hd
open Kraft Limit

/-- How often each Code comes. -/
def cnt (l : List (Nat × Nat)) (c : Nat) : Nat := (l.filter fun s => decide (s.1 = c)).length
def freqs (l : List (Nat × Nat)) : List Nat := (List.range 19).map (cnt l)

theorem freqs_length (l : List (Nat × Nat)) : (freqs l).length = 19 := by simp [freqs]
theorem freqs_nth (l : List (Nat × Nat)) (c : Nat) (h : c < 19) : nth (freqs l) c = cnt l c := by
  rw [nth_lt (by rw [freqs_length]; exact h)]
  simp [freqs]
theorem cnt_pos {l : List (Nat × Nat)} {s : Nat × Nat} (h : s ∈ l) : 0 < cnt l s.1 :=
  List.length_pos_of_mem (List.mem_filter.2 ⟨h, decide_eq_true rfl⟩)
theorem cnt_snoc (l : List (Nat × Nat)) (s : Nat × Nat) (c : Nat) : cnt (l ++ [s]) c = cnt l c + if s.1 = c then 1 else 0 := by
  unfold cnt
  rw [List.filter_append, List.length_append]
  by_cases h : s.1 = c
  · simp [h]
  · simp [h]
theorem cnt_le (l : List (Nat × Nat)) (c : Nat) : cnt l c ≤ l.length := List.length_filter_le _ _

theorem zeros_code : ∀ (n : Nat), 0 < n → ∃ s, s ∈ Rep.zeros n ∧ (s.1 = 0 ∨ s.1 = 17 ∨ s.1 = 18) := by
  intro n hn
  by_cases h1 : 11 ≤ n
  · rw [Rep.zeros_step n h1]
    exact ⟨_, List.mem_cons_self, .inr (.inr rfl)⟩
  · by_cases h2 : 3 ≤ n
    · rw [Rep.zeros_few n h2 (by omega)]
      exact ⟨_, List.mem_cons_self, .inr (.inl rfl)⟩
    · rw [Rep.zeros_end n (by omega)]
      exact ⟨(0, 0), List.mem_replicate.2 ⟨by omega, rfl⟩, .inl rfl⟩

/-- Each length has a sign of its kind. -/
theorem codes_pack : ∀ (m : Nat) (A : List Nat), A.length ≤ m → ∀ x ∈ A, ∃ s, s ∈ Rep.pack A ∧ (x ≠ 0 → s.1 = x) ∧ (x = 0 → s.1 = 0 ∨ s.1 = 17 ∨ s.1 = 18)
  | 0, A, h, x, hx => by
    have : A = [] := List.eq_nil_of_length_eq_zero (by omega)
    subst this
    cases hx
  | m + 1, [], _, x, hx => by cases hx
  | m + 1, k :: t, h, x, hx => by
    have hA := Rep.run_front k t
    have hl := Rep.lead_le k t
    have hp : Rep.pack (k :: t) = Rep.signs k (Rep.lead k t + 1) ++ Rep.pack (t.drop (Rep.lead k t)) := by rw [Rep.pack]
    rw [hp]
    by_cases hk : x = k
    · subst hk
      by_cases h0 : x = 0
      · subst h0
        obtain ⟨s, hs, hc⟩ := zeros_code (Rep.lead 0 t + 1) (by omega)
        refine ⟨s, List.mem_append_left _ ?_, fun h => absurd rfl h, fun _ => hc⟩
        unfold Rep.signs
        rw [if_pos rfl]
        exact hs
      · refine ⟨(x, 0), List.mem_append_left _ ?_, fun _ => rfl, fun h => absurd h h0⟩
        unfold Rep.signs
        rw [if_neg h0]
        exact List.mem_cons_self
    · have hx2 : x ∈ t.drop (Rep.lead k t) := by
        rcases List.mem_cons.1 hx with h1 | h1
        · exact absurd h1 hk
        · rw [hA] at h1
          rcases List.mem_append.1 h1 with h2 | h2
          · exact absurd (List.eq_of_mem_replicate h2) hk
          · exact h2
      rw [List.length_cons] at h
      obtain ⟨s, hs, hc⟩ := codes_pack m (t.drop (Rep.lead k t)) (by rw [List.length_drop]; omega) x hx2
      exact ⟨s, List.mem_append_right _ hs, hc⟩

theorem pow_not (v n : Nat) (h1 : 257 ≤ n) (h2 : n ≤ 286) (hv : v ≤ 15) : n * 2 ^ (20 - v) ≠ 1048576 := by
  intro h
  have : ∀ v, v ≤ 15 → ∀ n, 257 ≤ n → n ≤ 286 → n * 2 ^ (20 - v) ≠ 1048576 := by
    intro v hv n h1 h2 e
    have e2 : 2 ^ v * 2 ^ (20 - v) = 1048576 := by rw [← Nat.pow_add, show v + (20 - v) = 20 from by omega]
    rw [← e2] at e
    have e3 : n = 2 ^ v := Nat.eq_of_mul_eq_mul_right (Nat.two_pow_pos _) e
    by_cases h8 : v ≤ 8
    · have : 2 ^ v ≤ 2 ^ 8 := Nat.pow_le_pow_right (by omega) h8
      omega
    · have : 2 ^ 9 ≤ 2 ^ v := Nat.pow_le_pow_right (by omega) (by omega)
      omega
  exact this v hv n h1 h2 h

theorem sumTo_const {f : Nat → Nat} {c n : Nat} (h : ∀ j, j < n → f j = c) : sumTo f n = n * c := by
  induction n with
  | zero => simp [sumTo]
  | succ n ih => rw [sumTo, ih (fun j hj => h j (by omega)), h n (by omega), Nat.succ_mul]

/-- Lengths that may be are not all alike. -/
theorem two_lengths {p q : List Nat} (h : mayH p q = true) : ∃ x y, x ∈ p ∧ y ∈ p ∧ x ≠ y ∧ x ≤ 15 ∧ y ≤ 15 ∧ y ≠ 0 := by
  obtain ⟨a1, a2, _, _, h256, h15, _⟩ := mayH_len h
  have hm : p[256] ∈ p := List.getElem_mem _
  have hl : len p 256 = p[256] := len_at p 256 (by omega)
  rw [hl] at h256
  have hv := h15 _ hm
  by_cases hall : ∀ j, j < p.length → len p j = p[256]
  · exfalso
    unfold mayH at h
    simp only [Bool.and_eq_true, Bool.or_eq_true] at h
    rcases h.2.1 with hf | hs
    · unfold full at hf
      have hw := of_decide_eq_true hf
      unfold weight at hw
      rw [sumTo_const (c := Kraft.part p[256]) (fun j hj => by rw [hall j hj])] at hw
      rw [part_eq _ (by omega)] at hw
      exact pow_not _ _ a1 a2 hv hw
    · unfold single at hs
      simp only [Bool.and_eq_true, decide_eq_true_eq] at hs
      have : somes p p.length = p.length * 1 := sumTo_const (fun j hj => by rw [hall j hj, if_neg h256])
      omega
  · have : ∃ j, j < p.length ∧ len p j ≠ p[256] := by
      apply Classical.byContradiction
      intro hn
      exact hall fun j hj => Classical.byContradiction fun hne => hn ⟨j, hj, hne⟩
    obtain ⟨j, hj, hne⟩ := this
    rw [len_at p j hj] at hne
    exact ⟨p[j], p[256], List.getElem_mem hj, hm, hne, h15 _ (List.getElem_mem hj), hv, h256⟩

/-- .. so that two Codes at least come. -/
theorem two_codes {p q : List Nat} (h : mayH p q = true) : ∃ c d, c < 19 ∧ d < 19 ∧ c ≠ d ∧ 0 < cnt (Rep.pack (p ++ q)) c ∧ 0 < cnt (Rep.pack (p ++ q)) d := by
  obtain ⟨x, y, hx, hy, hne, hx15, hy15, hy0⟩ := two_lengths h
  obtain ⟨s, hs, hs1, hs2⟩ := codes_pack (p ++ q).length (p ++ q) (Nat.le_refl _) x (List.mem_append_left _ hx)
  obtain ⟨t, ht, ht1, _⟩ := codes_pack (p ++ q).length (p ++ q) (Nat.le_refl _) y (List.mem_append_left _ hy)
  have e2 := ht1 hy0
  refine ⟨s.1, t.1, ?_, by omega, ?_, cnt_pos hs, cnt_pos ht⟩
  · by_cases h0 : x = 0
    · have := hs2 h0; omega
    · have := hs1 h0; omega
  · by_cases h0 : x = 0
    · have := hs2 h0; omega
    · have := hs1 h0; omega

theorem somes_two (F : List Nat) (c d : Nat) (hcd : c < d) (hc : 0 < nth F c) (hd : 0 < nth F d) (hl : d < F.length) : 2 ≤ somes F F.length := by
  have h1 : ∀ n, c < n → 1 ≤ somes F n := by
    intro n hn
    have := sumTo_member (f := fun j => if len F j = 0 then 0 else 1) (n := n) (i := c) hn
    have e : len F c ≠ 0 := by show nth F c ≠ 0; omega
    rw [if_neg e] at this
    exact this
  have h2 : ∀ n, d < n → 2 ≤ somes F n := by
    intro n
    induction n with
    | zero => intro h; omega
    | succ n ih =>
      intro hn
      unfold somes at *
      rw [sumTo]
      by_cases e : d = n
      · subst e
        have e2 : len F d ≠ 0 := by show nth F d ≠ 0; omega
        rw [if_neg e2]
        have := h1 d hcd
        omega
      · have := ih (by omega)
        omega
  exact h2 _ hl

theorem freqs_two {p q : List Nat} (h : mayH p q = true) : 2 ≤ (pos (freqs (Rep.pack (p ++ q)))).length := by
  obtain ⟨c, d, hc, hd, hne, h1, h2⟩ := two_codes h
  rw [← freqs_nth _ _ hc] at h1
  rw [← freqs_nth _ _ hd] at h2
  rw [← somes_pos]
  by_cases hlt : c < d
  · exact somes_two _ c d hlt h1 h2 (by rw [freqs_length]; exact hd)
  · exact somes_two _ d c (by omega) h2 h1 (by rw [freqs_length]; exact hc)

theorem weight_kraft7 (O : List Nat) (h : ∀ i, i < O.length → nth O i ≤ 7) : weight O = 8192 * kraft 7 O := by
  unfold weight kraft
  rw [← sumTo_mul]
  refine sumTo_congr fun j hj => ?_
  have hj7 := h j hj
  show Kraft.part (nth O j) = _
  unfold Kraft.part
  by_cases h0 : nth O j = 0
  · rw [if_pos h0, if_pos h0]
  · rw [if_neg h0, if_neg h0, show 20 - nth O j = 13 + (7 - nth O j) from by omega, Nat.pow_add]

/-- By a choice of lengths, none above 7, for how often each Code comes, a head is told. -/
theorem tells_pack {p q L : List Nat} (h : mayH p q = true) (hL : Choice (freqs (Rep.pack (p ++ q))) 7 L) {z : Nat} (hz4 : 4 ≤ z) (hz : z ≤ 19) (hn : ∀ i, z ≤ i → i < 19 → len L (ord i) = 0) :
    Tells L z (Rep.pack (p ++ q)) p q where
  len19 := by rw [hL.length, freqs_length]
  low7 := fun x hx => by
    obtain ⟨i, hi, rfl⟩ := List.getElem_of_mem hx
    have := hL.limit i (by rw [← hL.length]; exact hi)
    rw [nth_lt hi] at this
    omega
  full := by
    rw [weight_kraft7 L (fun i hi => hL.limit i (by rw [← hL.length]; exact hi)), hL.full (freqs_two h)]
  z4 := hz4
  z19 := hz
  none := hn
  word := fun s hs => by
    obtain ⟨_, _, _, _, _, hp, hq⟩ := mayH_len h
    have hA : ∀ x ∈ p ++ q, x < 16 := fun x hx => by
      rcases List.mem_append.1 hx with g | g
      · have := hp x g; omega
      · have := hq x g; omega
    have hf := List.all_eq_true.1 (Rep.fits_pack _ _ (Nat.le_refl _) hA) s hs
    unfold Rep.fits at hf
    simp only [Bool.and_eq_true, decide_eq_true_eq] at hf
    refine ⟨by omega, ?_, hf.2⟩
    have := (hL.some s.1 (by rw [freqs_length]; omega)).2 (by rw [freqs_nth _ _ (by omega)]; exact cnt_pos hs)
    exact this
  says := by
    obtain ⟨_, _, _, _, _, hp, hq⟩ := mayH_len h
    exact Rep.say_back _ (fun x hx => by
      rcases List.mem_append.1 hx with g | g
      · have := hp x g; omega
      · have := hq x g; omega)

end Go.Proofs.YtpcbhmkalofkmaaGreat.Hd
